/-
  What the model's functions of chapter 2 answer: the remainder, CheckBits, CheckAppend, CheckPasses. Conditions: a list is no longer than a list can be.
-/
import Derived.Test.YtnmpeeailljdaaaPass
namespace Go.Proofs.Ytnmpeeailljdaaa
open Go.RowKit

theorem stp_top {g d t : Nat} (h : t < 2 ^ (d + 1)) : stp g d t = if 2 ^ d ≤ t then t ^^^ g else t := by
  by_cases ht : 2 ^ d ≤ t
  · have hb : t.testBit d = true := by
      rw [Nat.testBit_eq_decide_div_mod_eq]
      have h1 : t / 2 ^ d = 1 := by
        rw [Nat.pow_succ] at h
        exact Nat.div_eq_of_lt_le (by omega) (by omega)
      simp [h1]
    simp [stp, hb, ht]
  · rw [stp_small (by omega), if_neg ht]
theorem numF_succ (f : Nat → Bool) (k : Nat) : numF f (k + 1) = 2 * numF f k + (f k).toNat := rfl
def areBits (xs : List Int) : Prop := ∀ j, j < xs.length → el xs j = 0 ∨ el xs j = 1
theorem areBits_of {xs : List Int} (h : bitsOk xs = true) : areBits xs := fun _ hj => bit_cases h hj
theorem areBits_zeros {xs : List Int} (h : areBits xs) (n : Nat) : areBits (xs ++ zeros n) := fun j hj => by
  by_cases h1 : j < xs.length
  · rw [el_append_left h1]; exact h j h1
  · obtain ⟨i, rfl⟩ : ∃ i, j = xs.length + i := ⟨j - xs.length, by omega⟩
    rw [el_append_right, zeros_el]; exact .inl rfl
theorem areBits_el {xs : List Int} (h : areBits xs) {j : Nat} (hj : j < xs.length) : el xs j = if bitsF xs xs.length j then 1 else 0 := by
  rcases h j hj with e | e <;> simp [bitsF, hj, e]
/-- The remainder, as the model reckons it, one bit more. -/
theorem rem_step {g : Int} (hg : genOk g = true) {xs : List Int} (hb : areBits xs) {k : Nat} (hk : k < xs.length) :
    ∃ t : Nat, t < 131072 ∧ 2 * ((pm g.toNat (deg g) (numF (bitsF xs xs.length) k) : Nat) : Int) + el xs k = (t : Int) ∧
      (if 2 ^ deg g ≤ t then t ^^^ g.toNat else t) = pm g.toNat (deg g) (numF (bitsF xs xs.length) (k + 1)) := by
  have hp := pm_lt (deg_pow hg).1 (deg_pow hg).2 (numF (bitsF xs xs.length) k)
  have hpd := pow_deg hg
  have hbit := toNat_lt2 (bitsF xs xs.length k)
  refine ⟨2 * pm g.toNat (deg g) (numF (bitsF xs xs.length) k) + (bitsF xs xs.length k).toNat, by omega, ?_, ?_⟩
  · rw [areBits_el hb hk]
    cases bitsF xs xs.length k <;> simp
  · rw [numF_succ, pm_two _ _ _ _ hbit, stp_top (by rw [Nat.pow_succ]; omega)]
set_option maxHeartbeats 1000000 in
theorem l2Remainder_any (a : Option Addr) (c B : Nat) (xs : List Int) (g : Int) (w : World) (hx : Ints .i64 w B a xs) (hb : areBits xs) (hl : xs.length ≤ 1100) (hg : genOk g = true) :
    Calls Try.prog 56 #[.slice a xs.length c, .int .i64 g] w fun e w' => e = .returned (.int .i64 (pm g.toNat (deg g) (numOf xs) : Nat)) ∧ w = w' := by
  obtain ⟨g1, g2, g3⟩ := genOk_parts hg
  obtain ⟨G, rfl⟩ := Int.eq_ofNat_of_zero_le (show 0 ≤ g by omega)
  have HDg := Lib.hid (l2Degree_any (G : Int) w (by omega) g2)
  have hG : G < 131072 := by omega
  obtain ⟨P, hP⟩ : ∃ P, P = 2 ^ deg (G : Int) := ⟨_, rfl⟩
  have hPb : P ≤ 65536 := by rw [hP]; exact pow_deg hg
  have e1 : wrap64 ((2 : Int) ^ deg (G : Int)) = (P : Int) := by
    rw [← cast_pow2, ← hP]; exact wrap64_in (by omega)
  have hdl := (deg_lt hg).2
  have HE1 := Lib.hid e1
  have HP := Lib.hid hP
  have HG := Lib.hid hg
  have HB := Lib.hid hb
  have HX := Lib.hid hx
  clear g1 g2 g3 hg hb e1 hP hx
  go_enter Try.func56, Try.ntmps56
  go_wp2_with (go_at_call 49; refine HDg.out.mono ?_; rintro e w' ⟨rfl, rfl⟩)
  rw [HE1.out]
  go_loop [5, 7] (fun r i => ∃ k : Nat, k ≤ xs.length ∧ i = .int .i64 k ∧ r = .int .i64 (pm ((G : Int)).toNat (deg (G : Int)) (numF (bitsF xs xs.length) k) : Nat)) (fun _ i => xs.length - (intOf i).toNat)
  case atStart => exact ⟨0, Nat.zero_le _, rfl, by simp [numF, pm_zero]⟩
  case round =>
    obtain ⟨k, hk, rfl, rfl⟩ := hrel
    by_cases hlt : k < xs.length
    · obtain ⟨b, off, rfl, hbb, hc⟩ := HX.out.at_ hlt
      obtain ⟨t, ht1, ht2, ht3⟩ := rem_step HG.out HB.out hlt
      have hR := pm_lt (deg_pow HG.out).1 (deg_pow HG.out).2 (numF (bitsF xs xs.length) k)
      rw [← HP.out] at hR ht3
      have HN := Lib.hid ht3
      generalize pm ((G : Int)).toNat (deg (G : Int)) (numF (bitsF xs xs.length) k) = R at *
      have hRb : R < 65536 := by omega
      obtain ⟨x, hxx⟩ : ∃ x, x = el xs k := ⟨_, rfl⟩
      have hx01 : x = 0 ∨ x = 1 := by rw [hxx]; exact HB.out k hlt
      have hx0 : 0 ≤ x := by omega
      have hx1 : x ≤ 1 := by omega
      rw [← hxx] at ht2 hc
      clear hxx hx01 ht3 hR
      by_cases htop : P ≤ t
      · have hxor : bits .xor .i64 (t : Int) (G : Int) = ((t ^^^ G : Nat) : Int) := i64_xor t G (by omega) (by omega)
        obtain ⟨Z, hZ⟩ : ∃ Z, Z = t ^^^ G := ⟨_, rfl⟩
        rw [← hZ] at hxor
        have HZ : Hid (Z = pm ((G : Int)).toNat (deg (G : Int)) (numF (bitsF xs xs.length) (k + 1))) := by
          show _ = _
          have := HN.out
          rw [if_pos htop, Int.toNat_natCast, ← hZ] at this
          rw [this, Int.toNat_natCast]
        clear hZ HN
        go_wp2
        go_round
        case rel => exact ⟨k + 1, by omega, by go_num, by rw [← HZ.out]⟩
        case measure => simp [intOf]; omega
      · have HZ : Hid (t = pm ((G : Int)).toNat (deg (G : Int)) (numF (bitsF xs xs.length) (k + 1))) := by
          show _ = _
          have := HN.out
          rw [if_neg htop] at this
          exact this
        clear HN
        go_wp2
        go_round
        case rel => exact ⟨k + 1, by omega, by go_num, by rw [← HZ.out]⟩
        case measure => simp [intOf]; omega
    · obtain rfl : xs.length = k := by omega
      go_wp2
      go_ret
      exact ⟨rfl, rfl⟩
end Go.Proofs.Ytnmpeeailljdaaa
