/-
  What the model's BitsOfBytes answers. Condition: each number of the list is a byte.
-/
import Derived.Test.YtflplihhakepfaaDoorImpl3
namespace Go.Proofs.YtflplihhakepfaaDoor
open Go.RowKit

theorem div_bit (v j : Nat) : ((v : Int) / 2 ^ j) % 2 = ((v.testBit j).toNat : Int) := by
  have h2 : ((v : Int) / 2 ^ j) = ((v / 2 ^ j : Nat) : Int) := by rw [Int.natCast_ediv, Int.natCast_pow]; rfl
  rw [h2, Nat.testBit_eq_decide_div_mod_eq]
  rcases Nat.mod_two_eq_zero_or_one (v / 2 ^ j) with h | h <;> simp [h] <;> omega
theorem bytesF_at {ds : List Int} {k j v : Nat} (hk : k < ds.length) (hj : j < 8) (hv : v = (el ds k).toNat) : bytesF ds ds.length (8 * k + (7 - j)) = v.testBit j := by
  unfold bytesF
  rw [show (8 * k + (7 - j)) / 8 = k by omega, show 7 - (8 * k + (7 - j)) % 8 = j by omega, ← hv, decide_eq_true (by omega), Bool.true_and]

def Idx (q : Nat) (i : Value) : Prop := (q = 0 ∧ i = .int .i64 (-1)) ∨ ∃ j : Nat, q = j + 1 ∧ i = .int .i64 j
theorem idx_pred (j : Nat) : Idx j (.int .i64 ((j : Int) - 1)) := by
  cases j with
  | zero => exact .inl ⟨rfl, rfl⟩
  | succ i => exact .inr ⟨i, rfl, by congr 1; omega⟩
def Inner (ds : List Int) (w : World) (k : Nat) (q n : Nat) (v : Option Addr) (cap : Nat) (wr : World) : Prop :=
  n + q = 8 * k + 8 ∧ Grow .i64 3 wr w.heap.size v n cap (bitList (bytesF ds ds.length) n) ∧ Below w.heap.size w wr
theorem inner_step {ds : List Int} {w wr w2 : World} {k j n cap2 d : Nat} {a2 : Option Addr} {o : Obj} {x : Int} (hn : n + (j + 1) = 8 * k + 8) (hj : j < 8) (hf : bytesF ds ds.length (8 * k + (7 - j)) = d.testBit j)
    (hx : x = ((d.testBit j).toNat : Int)) (hg : Grow .i64 3 w2 w.heap.size a2 (n + 1) cap2 (bitList (bytesF ds ds.length) n ++ [x])) (hb : Below w.heap.size w wr) (hb2 : Below w.heap.size (wr.alloc o) w2) :
    Inner ds w k j (n + 1) a2 cap2 w2 := by
  refine ⟨by omega, ?_, (hb.alloc hb.size o).trans hb2⟩
  rw [bitList_succ, show n = 8 * k + (7 - j) by omega, hf, ← hx, ← show n = 8 * k + (7 - j) by omega]
  exact hg
theorem bit_val (d j : Nat) (hd : d < 256) : (wrap64 ((d : Int) / 2 ^ j)).tmod 2 = ((d.testBit j).toNat : Int) := by
  rw [← div_bit]
  have h2 : ((d : Int) / 2 ^ j) = ((d / 2 ^ j : Nat) : Int) := by rw [Int.natCast_ediv, Int.natCast_pow]; rfl
  have hle : d / 2 ^ j ≤ d := Nat.div_le_self _ _
  rw [h2]
  generalize d / 2 ^ j = q at hle
  unfold wrap64
  rw [show ((q : Int) + 9223372036854775808) % 18446744073709551616 - 9223372036854775808 = q by omega, Int.tmod_eq_emod_of_nonneg (by omega)]
end Go.Proofs.YtflplihhakepfaaDoor
