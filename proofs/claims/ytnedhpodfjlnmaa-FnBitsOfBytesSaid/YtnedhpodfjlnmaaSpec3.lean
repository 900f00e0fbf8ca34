/-
  What the model's BitsOfBytes answers. Condition: each number of the list is a byte.
-/
import Derived.Test.YtnedhpodfjlnmaaImpl3
namespace Go.Proofs.Ytnedhpodfjlnmaa
open Go.RowKit

theorem div_bit (v j : Nat) : ((v : Int) / 2 ^ j) % 2 = ((v.testBit j).toNat : Int) := by
  have h2 : ((v : Int) / 2 ^ j) = ((v / 2 ^ j : Nat) : Int) := by rw [Int.natCast_ediv, Int.natCast_pow]; rfl
  rw [h2, Nat.testBit_eq_decide_div_mod_eq]
  rcases Nat.mod_two_eq_zero_or_one (v / 2 ^ j) with h | h <;> simp [h] <;> omega
theorem bytesF_at {ds : List Int} {k j v : Nat} (hk : k < ds.length) (hj : j < 8) (hv : v = (el ds k).toNat) : bytesF ds ds.length (8 * k + (7 - j)) = v.testBit j := by
  unfold bytesF
  rw [show (8 * k + (7 - j)) / 8 = k by omega, show 7 - (8 * k + (7 - j)) % 8 = j by omega, ← hv, decide_eq_true (by omega), Bool.true_and]

def Idx (q : Nat) (i : Value) : Prop := (q = 0 ∧ i = .int .i64 (-1)) ∨ ∃ j : Nat, q = j + 1 ∧ i = .int .i64 j
theorem idx_pred (j : Nat) : Idx j (.int .i64 ((j : Int) - 1)) := by
  cases j with
  | zero => exact .inl ⟨rfl, rfl⟩
  | succ i => exact .inr ⟨i, rfl, by congr 1; omega⟩
def Inner (ds : List Int) (w : World) (k : Nat) (q n : Nat) (v : Option Addr) (cap : Nat) (wr : World) : Prop :=
  n + q = 8 * k + 8 ∧ Grow .i64 3 wr w.heap.size v n cap (bitList (bytesF ds ds.length) n) ∧ Below w.heap.size w wr
theorem inner_step {ds : List Int} {w wr w2 : World} {k j n cap2 d : Nat} {a2 : Option Addr} {o : Obj} {x : Int} (hn : n + (j + 1) = 8 * k + 8) (hj : j < 8) (hf : bytesF ds ds.length (8 * k + (7 - j)) = d.testBit j)
    (hx : x = ((d.testBit j).toNat : Int)) (hg : Grow .i64 3 w2 w.heap.size a2 (n + 1) cap2 (bitList (bytesF ds ds.length) n ++ [x])) (hb : Below w.heap.size w wr) (hb2 : Below w.heap.size (wr.alloc o) w2) :
    Inner ds w k j (n + 1) a2 cap2 w2 := by
  refine ⟨by omega, ?_, (hb.alloc hb.size o).trans hb2⟩
  rw [bitList_succ, show n = 8 * k + (7 - j) by omega, hf, ← hx, ← show n = 8 * k + (7 - j) by omega]
  exact hg
theorem bit_val (d j : Nat) (hd : d < 256) : (wrap64 ((d : Int) / 2 ^ j)).tmod 2 = ((d.testBit j).toNat : Int) := by
  rw [← div_bit]
  have h2 : ((d : Int) / 2 ^ j) = ((d / 2 ^ j : Nat) : Int) := by rw [Int.natCast_ediv, Int.natCast_pow]; rfl
  have hle : d / 2 ^ j ≤ d := Nat.div_le_self _ _
  rw [h2]
  generalize d / 2 ^ j = q at hle
  unfold wrap64
  rw [show ((q : Int) + 9223372036854775808) % 18446744073709551616 - 9223372036854775808 = q by omega, Int.tmod_eq_emod_of_nonneg (by omega)]
set_option maxHeartbeats 1000000 in
theorem specBitsOfBytes_any (a : Option Addr) (c B : Nat) (ds : List Int) (w : World) (hx : Ints .u8 w B a ds) (hB : B ≤ w.heap.size) (hw : ∀ n ∈ ds, isByte n) (hl : ds.length ≤ maxLen) :
    Calls Try.prog 22 #[.slice a ds.length c] w (ListPost (bobOr ds) w) := by
  have HX := Lib.hid (hx.more hB)
  have HW := Lib.hid hw
  unfold maxLen at hl
  clear hx hw
  by_cases hlen : ds.length ≤ 128
  · have hdc : decide ((ds.length : Int) ≤ 128) = true := by simp; omega
    have HZ := Lib.hid (show bobOr ds = bitList (bytesF ds ds.length) (ds.length * 8) by simp [bobOr, bytesOk, hlen])
    go_enter Try.func22, Try.ntmps22
    go_wp2
    go_loopw [3, 4] (fun s i wr => ∃ (k : Nat) (v : Option Addr) (cap : Nat), k ≤ ds.length ∧ i = .int .i64 k ∧ s = .slice v (8 * k) cap ∧ Grow .i64 3 wr w.heap.size v (8 * k) cap (bitList (bytesF ds ds.length) (8 * k)) ∧ Below w.heap.size w wr) (fun _ i _ => ds.length - (intOf i).toNat)
    case atStart => exact ⟨0, _, _, Nat.zero_le _, rfl, rfl, Grow.lit0 _ _ _ _ (Nat.le_refl _), (Below.refl _ _).alloc (Nat.le_refl _) _⟩
    case round =>
      obtain ⟨k, v, cap, hk, rfl, rfl, hgr, hbel⟩ := hrel
      have HG := Lib.hid hgr
      have HBe := Lib.hid hbel
      clear hgr hbel
      by_cases hlt : k < ds.length
      · go_wp2
        go_loopw [3, 5] (fun s i wr' => ∃ (q n : Nat) (v : Option Addr) (cap : Nat), q ≤ 8 ∧ Idx q i ∧ s = .slice v n cap ∧ Inner ds w k q n v cap wr') (fun _ i _ => (intOf i + 1).toNat)
        case atStart => exact ⟨8, _, v, cap, Nat.le_refl _, .inr ⟨7, rfl, rfl⟩, rfl, rfl, HG.out, HBe.out⟩
        case round =>
          obtain ⟨q, n, v', cap', hq, hj, rfl, hin⟩ := hrel
          obtain ⟨hn, hgr, hbel⟩ := hin
          have HN := Lib.hid hn
          have HG' := Lib.hid hgr
          have HBe' := Lib.hid hbel
          clear hgr hbel hn
          rcases hj with ⟨rfl, rfl⟩ | ⟨j, rfl, rfl⟩
          · obtain rfl : n = 8 * (k + 1) := by have := HN.out; omega
            go_wp2
            go_roundw
            case rel => exact ⟨k + 1, v', cap', by omega, by go_num, rfl, HG'.out, HBe'.out⟩
            case measure => simp [intOf]; omega
          · obtain ⟨b, off, rfl, hb', hc⟩ := (HX.out.below HBe'.out).at_ hlt
            have hby := HW.out _ (el_mem hlt)
            obtain ⟨d, hd⟩ : ∃ d : Nat, d = (el ds k).toNat := ⟨_, rfl⟩
            have hed : el ds k = (d : Int) := by have := hby.1; omega
            have hd2 : d < 256 := by have := hby.2; omega
            rw [hed] at hc
            have HF := Lib.hid (bytesF_at (j := j) hlt (by omega) hd)
            clear hd hed hby
            have hsz : w.heap.size ≤ wr.heap.size := HBe'.out.size
            have hnn : n ≤ 1032 := by have := HN.out; omega
            go_wp2_with (at_builtin; refine wpList_append1 (.tmp 22) (.tmp 31) w.heap.size v' n cap' _ ⟨wr.heap.size, 0, none⟩ ((wrap64 ((d : Int) / 2 ^ j)).tmod 2) rfl rfl rfl rfl (HG'.out.alloc _) (by simp) (by omega) (by simp; omega) ?_; intro a2 cap2 w2 hg2 hb2; have HG2 := Lib.hid hg2; have HB2 := Lib.hid hb2; clear hg2 hb2)
            go_roundw
            case rel => exact ⟨j, n + 1, a2, cap2, by omega, idx_pred j, rfl, inner_step HN.out (by omega) HF.out (bit_val d j hd2) HG2.out HBe'.out HB2.out⟩
            case measure => simp [intOf]
      · go_wp2
        go_ret
        obtain rfl : ds.length = k := by omega
        rw [HZ.out, Nat.mul_comm]
        exact listPost_grow HG.out HBe.out
  · have HZ := Lib.hid (show bobOr ds = [] by simp [bobOr, bytesOk, hlen])
    go_enter Try.func22, Try.ntmps22
    go_wp2
    refine wp_loop_rounds 1 ?_
    rw [rounds_succ]
    go_wp2
    go_ret
    rw [HZ.out]
    exact listPost_grow (Grow.lit0 _ _ _ _ (Nat.le_refl _)) ((Below.refl _ _).alloc (Nat.le_refl _) _)
end Go.Proofs.Ytnedhpodfjlnmaa
