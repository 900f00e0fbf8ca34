/-
  Steps of a division, digits, remainders, walked. No condition.
-/
import Derived.Test.YtmolpeemifngcaaNum
import Derived.Outline
namespace Go.Proofs.Ytmolpeemifngcaa
open Go.RowKit

theorem cast_pow2 (n : Nat) : ((2 ^ n : Nat) : Int) = (2 : Int) ^ n := Int.natCast_pow 2 n
theorem low_mask {d S : Nat} (hd : d ≤ 16) (hS : S < 2 ^ 63) : bits BinOp.and IntKind.i64 (S : Int) (wrap64 (wrap64 ((2 : Int) ^ d) - 1)) = ((S % 2 ^ d : Nat) : Int) := by
  have hp : 2 ^ d ≤ 2 ^ 16 := Nat.pow_le_pow_right (by omega) hd
  have h0 := Nat.two_pow_pos d
  have h1 : wrap64 (wrap64 ((2 : Int) ^ d) - 1) = ((2 ^ d - 1 : Nat) : Int) := by
    rw [← cast_pow2]
    generalize 2 ^ d = q at *
    rw [wrap64_in (by omega), show ((q : Int) - 1) = ((q - 1 : Nat) : Int) by omega, wrap64_in (by omega)]
  rw [h1, i64_and S (2 ^ d - 1) hS (by omega), Nat.and_two_pow_sub_one_eq_mod]
/-- The digits of a number, the highest first. -/
def digits (r n : Nat) : List Int := bitList (fun k => r.testBit (n - 1 - k)) n
theorem digits_length (r n : Nat) : (digits r n).length = n := bitList_length _ _
theorem digit_eq {r n k : Nat} (hr : r < 65536) : bits .and .i64 ((r : Int) / 2 ^ (n - 1 - k)) 1 = if r.testBit (n - 1 - k) then 1 else 0 := by
  have h2 : ((r : Int) / 2 ^ (n - 1 - k)) = ((r / 2 ^ (n - 1 - k) : Nat) : Int) := by
    rw [Int.natCast_ediv, cast_pow2]
  have hlt : r / 2 ^ (n - 1 - k) ≤ r := Nat.div_le_self _ _
  rw [h2, Nat.testBit_eq_decide_div_mod_eq]
  generalize r / 2 ^ (n - 1 - k) = q at *
  rw [and_one (by omega) (by omega)]
  rcases Nat.mod_two_eq_zero_or_one q with h | h
  · simp [h]; omega
  · simp [h]; omega
set_option maxHeartbeats 400000 in
theorem digitsOf_any (r n : Nat) (w : World) (hr : r < 65536) (hn : n ≤ 16) :
    Calls Try.prog 56 #[.int .i64 r, .int .i64 n] w fun e w' => e = .returned (.slice (some ⟨w.heap.size, 0, none⟩) n n) ∧
      w'.rowIs w.heap.size 3 n (fun i => .int .i64 (el (digits r n) i)) ∧ Below w.heap.size w w' := by
  have hmk := run_make_row' (P := Try.prog) 23 3 (.int .i64 0) 8 Try.underlying23 Try.infoInt rfl .i64 .i64 n (by omega) (by omega)
  go_enter Try.func56, Try.ntmps56
  go_wp2
  clear hmk
  go_loopw [11] (fun i wr => ∃ k : Nat, k ≤ n ∧ i = .int .i64 k ∧ wr.rowIs w.heap.size 3 n (fun j => .int .i64 (if j < k then el (digits r n) j else 0)) ∧ Below w.heap.size w wr) (fun i _ => n - (intOf i).toNat)
  case atStart => exact ⟨0, Nat.zero_le _, rfl, (World.rowIs_made w _ _ _).congr (by intro j hj; simp), (Below.refl _ _).alloc (Nat.le_refl _) _⟩
  case round =>
    obtain ⟨k, hk, rfl, hrow, hbel⟩ := hrel
    by_cases hlt : k < n
    · have hf := hrow.frozen k
      have hcv : wr.cell? ⟨w.heap.size, k, none⟩ = some (.int .i64 0) := by rw [hrow.cell hlt]; simp
      obtain ⟨D, hD⟩ : ∃ D : Int, D = el (digits r n) k := ⟨_, rfl⟩
      have hdig : bits .and .i64 ((r : Int) / 2 ^ (n - 1 - k)) 1 = D := by
        rw [hD, digits, bitList_el _ _ _ hlt]; exact digit_eq hr
      have R1 := (hrow.set k (.int .i64 D)).congr (g := fun j => .int .i64 (if j < k + 1 then el (digits r n) j else 0)) (by
        intro j hj
        by_cases e : j = k
        · subst e; simp [hD]
        · simp only [e, if_false]
          by_cases h2 : j < k
          · simp [h2, Nat.lt_succ_of_lt h2]
          · simp [h2, show ¬ j < k + 1 by omega])
      have R2 : Below w.heap.size w (wr.setCell ⟨w.heap.size, k, none⟩ (.int .i64 D)) := hbel.setCell (Nat.le_refl _) _
      have H1 := Lib.hid R1
      have H2 := Lib.hid R2
      clear R1 R2 hrow hbel hD
      go_wp2
      go_roundw
      case rel => exact ⟨k + 1, by omega, by go_num, H1.out, H2.out⟩
      case measure => simp [intOf]; omega
    · have H1 := Lib.hid (hrow.congr (g := fun j => .int .i64 (el (digits r n) j)) (by intro j hj; simp [show j < k by omega]))
      have H2 := Lib.hid hbel
      clear hrow hbel
      go_wp2
      go_ret
      exact ⟨rfl, H1.out, H2.out⟩

theorem number_packed {P : Nat → Nat} {f : Nat → Bool} (h : Packed P f) {k c : Nat} (hk : k % 4 = 0) (hc : c ≤ 4) (hkc : k + c ≤ 1024) :
    P (k / 64) / 2 ^ (64 - c - k % 64) % 2 ^ c = numF (fun j => f (k + j)) c := by
  apply Nat.eq_of_testBit_eq
  intro i
  rw [numF_test, Nat.testBit_mod_two_pow, Nat.testBit_div_two_pow]
  by_cases hi : i < c
  · simp only [hi, decide_true, Bool.true_and]
    have h1 := h.2 (k + (c - 1 - i)) (by omega)
    rw [show (k + (c - 1 - i)) / 64 = k / 64 by omega] at h1
    rw [← h1]
    congr 1
    omega
  · simp [hi]
theorem tab_next {g : Int} (hg : genOk g = true) (f : Nat → Bool) (k c : Nat) :
    (tab g.toNat (deg g) (numF f k) * 2 ^ c) % 2 ^ deg g ^^^ tab g.toNat (deg g) ((tab g.toNat (deg g) (numF f k) * 2 ^ c) / 2 ^ deg g ^^^ numF (fun j => f (k + j)) c) = tab g.toNat (deg g) (numF f (k + c)) := by
  rw [numF_add, tab_more (deg_pow hg).1 (deg_pow hg).2 _ _ _ (numF_lt _ _)]
theorem numberAt_next (P : Nat → Nat) (f : Nat → Bool) (k c : Nat) (w : World) (h : Packed P f) (hk : k % 4 = 0) (hc : c ≤ 4) (hkc : k + c ≤ 1024) (hk1 : k < 1024) :
    Calls Try.prog 51 #[.int .u64 (P (k / 64)), .int .i64 (k % 64 : Nat), .int .i64 c] w fun e w' => e = .returned (.int .i64 (numF (fun j => f (k + j)) c : Nat)) ∧ ∃ n, w' = w.drewN n := by
  have h2 := numberAt_any (P (k / 64)) (k % 64) c w (h.1 _ (by omega)) (by omega) hc
  rw [number_packed h hk hc hkc] at h2
  exact h2

end Go.Proofs.Ytmolpeemifngcaa
