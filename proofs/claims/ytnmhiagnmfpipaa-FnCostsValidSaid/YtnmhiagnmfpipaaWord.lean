/-
  What the methods of a word of 64 bits answer: setting a bit, reading a bit. Conditions: the place lies in the word, the bit is 0 or 1.
-/
import Derived.Test.YtnmhiagnmfpipaaBase
namespace Go.Proofs.Ytnmhiagnmfpipaa
open Go.RowKit

def orBit (W place : Nat) (bit : Int) : Nat := W ||| (if bit = 1 then 2 ^ (63 - place) else 0)
def bitOf (W place : Nat) : Int := if W.testBit (63 - place) then 1 else 0

theorem pow_lt64 (p : Nat) : 2 ^ (63 - p) < 18446744073709551616 := by
  have h : 2 ^ (63 - p) ≤ 2 ^ 63 := Nat.pow_le_pow_right (by omega) (by omega)
  omega
theorem or_one (W p : Nat) (hW : W < 2 ^ 64) : bits .or .u64 (W : Int) (IntKind.u64.wrap ((1 : Int) * 2 ^ (63 - p))) = (orBit W p 1 : Int) := by
  have h2 : ((1 : Int) * 2 ^ (63 - p)) = ((2 ^ (63 - p) : Nat) : Int) := by rw [Int.one_mul]; exact (Int.natCast_pow 2 _).symm
  have hp := pow_lt64 p
  rw [h2, IntKind.wrap_u64]
  have h3 : ((2 ^ (63 - p) : Nat) : Int) % 18446744073709551616 = ((2 ^ (63 - p) : Nat) : Int) := by
    generalize 2 ^ (63 - p) = q at hp
    omega
  rw [h3, u64_or_nat _ _ (by omega) hp]
  simp [orBit]
theorem or_zero (W p : Nat) (hW : W < 2 ^ 64) : bits .or .u64 (W : Int) (IntKind.u64.wrap ((0 : Int) * 2 ^ (63 - p))) = (orBit W p 0 : Int) := by
  rw [Int.zero_mul, IntKind.wrap_u64]
  have := u64_or_nat W 0 (by omega) (by omega)
  simpa [orBit] using this
set_option maxRecDepth 10000 in
theorem withBit_any (W place : Nat) (bit : Int) (w : World) (hW : W < 2 ^ 64) (hp : place < 64) (hb : bit = 0 ∨ bit = 1) :
    Calls Try.prog 78 #[.int .u64 W, .int .i64 place, .int .i64 bit] w fun e w' => e = .returned (.int .u64 (orBit W place bit)) ∧ w = w' := by
  have h0 : 0 ≤ bit := by omega
  have h1 : bit ≤ 1 := by omega
  have H : Hid (bits .or .u64 (W : Int) (IntKind.u64.wrap (bit * 2 ^ (63 - place))) = (orBit W place bit : Int)) := by
    rcases hb with rfl | rfl
    · exact or_zero W place hW
    · exact or_one W place hW
  clear hb
  go_enter Try.func78, Try.ntmps78
  go_wp2
  go_ret
  exact ⟨ret_int H.out, rfl⟩
theorem and_bit (W p : Nat) (hW : W < 2 ^ 64) : wrap64 (bits .and .u64 ((W : Int) / 2 ^ (63 - p)) 1) = bitOf W p := by
  have h2 : ((W : Int) / 2 ^ (63 - p)) = ((W / 2 ^ (63 - p) : Nat) : Int) := by
    rw [Int.natCast_ediv, Int.natCast_pow]; rfl
  have hlt : W / 2 ^ (63 - p) ≤ W := Nat.div_le_self _ _
  have h3 := u64_and_nat (W / 2 ^ (63 - p)) 1 (by omega) (by omega)
  rw [h2]
  rw [show ((1 : Int)) = ((1 : Nat) : Int) from rfl, h3, nat_mask1]
  unfold bitOf
  rw [Nat.testBit_eq_decide_div_mod_eq]
  rcases Nat.mod_two_eq_zero_or_one (W / 2 ^ (63 - p)) with h | h <;> rw [h] <;> simp [wrap64]
theorem orBit_lt (W p : Nat) (b : Int) (hW : W < 2 ^ 64) : orBit W p b < 2 ^ 64 := by
  unfold orBit
  refine Nat.or_lt_two_pow hW ?_
  split
  · have := pow_lt64 p; omega
  · omega
theorem orBit_test (W p : Nat) (b : Int) (q : Nat) (hp : p < 64) (hq : q < 64) : (orBit W p b).testBit (63 - q) = (W.testBit (63 - q) || (decide (p = q) && decide (b = 1))) := by
  unfold orBit
  rw [Nat.testBit_or]
  split
  · next h =>
    rw [Nat.testBit_two_pow]
    congr 1
    simp only [h, decide_true, Bool.and_true, decide_eq_decide]
    omega
  · next h => simp [h]
end Go.Proofs.Ytnmhiagnmfpipaa
