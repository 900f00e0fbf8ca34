/-
  What asking whether a register is valid, and one step of the model's register, answer. Conditions: numbers of 64 bits; the step is asked of taps and a state below 2^62.
-/
import Derived.Test.YtamfjmfffpdcfaaRegMath
import Derived.Test.YtamfjmfffpdcfaaOnes
namespace Go.Proofs.Ytamfjmfffpdcfaa
open Go.RowKit

/-- A register is valid: its taps are, and the seed is in 1..2^d-1. -/
def regOk (t s : Int) : Bool := genOk t && (decide (1 ≤ s) && decide (s < (2 ^ deg t : Nat)))
theorem regOk_parts {t s : Int} (h : regOk t s = true) : genOk t = true ∧ 1 ≤ s ∧ s < (2 ^ deg t : Nat) := by
  simpa [regOk] using h
theorem pow_degR {g : Int} (h : genOk g = true) : 2 ^ deg g ≤ 65536 := by
  have : 2 ^ deg g ≤ 2 ^ 16 := Nat.pow_le_pow_right (by omega) (deg_lt h).2
  omega
theorem regOk_nat {t s : Int} (h : regOk t s = true) : ∃ T S : Nat, t = (T : Int) ∧ s = (S : Int) ∧ Tapped T (deg t) ∧ 1 ≤ S ∧ S < 2 ^ deg t ∧ T < 131072 ∧ S < 65536 := by
  obtain ⟨h1, h2, h3⟩ := regOk_parts h
  obtain ⟨g1, g2, g3⟩ := genOk_parts h1
  obtain ⟨T, rfl⟩ := Int.eq_ofNat_of_zero_le (show 0 ≤ t by omega)
  obtain ⟨S, rfl⟩ := Int.eq_ofNat_of_zero_le (show 0 ≤ s by omega)
  have hp := deg_pow h1
  rw [Int.toNat_natCast] at hp
  have hq := pow_degR h1
  exact ⟨T, S, rfl, rfl, ⟨(deg_lt h1).1, hp.1, hp.2⟩, by omega, by omega, by omega, by omega⟩
/-- 2 ^ d as the machine reckons it. -/
theorem pow_word {t : Int} (h : genOk t = true) : wrap64 ((2 : Int) ^ deg t) = ((2 ^ deg t : Nat) : Int) := by
  rw [show ((2 : Int) ^ deg t) = ((2 ^ deg t : Nat) : Int) from (Int.natCast_pow 2 (deg t)).symm]
  have := pow_degR h
  exact wrap64_in (by omega)

theorem registerValid_any (t s : Int) (w : World) : Calls Try.prog 38 #[.int .i64 t, .int .i64 s] w fun e w' => e = .returned (.bool (regOk t s)) ∧ w = w' := by
  have hc := genValid_any t w
  have hd := degreeOf_any t w
  cases hg : genOk t
  · rw [hg] at hc
    have HC := Lib.hid hc
    have HE := Lib.hid (show regOk t s = false by simp [regOk, hg])
    clear hc hg hd
    go_enter Try.func38, Try.ntmps38
    go_wp2_with (go_at_call 22; refine HC.out.mono ?_; rintro e w' ⟨rfl, rfl⟩)
    go_ret
    exact ⟨ret_bool HE.out.symm, rfl⟩
  · rw [hg] at hc
    rw [show degOr t = (deg t : Int) by simp [degOr, hg]] at hd
    have HC := Lib.hid hc
    have HD := Lib.hid hd
    have HP := Lib.hid (pow_word hg)
    have hl := (deg_lt hg).2
    by_cases h1 : 1 ≤ s
    · have HE := Lib.hid (show regOk t s = decide (s < (2 ^ deg t : Nat)) by simp [regOk, hg, h1])
      clear hc hg hd
      go_enter Try.func38, Try.ntmps38
      go_wp2_with (first | (go_at_call 22; refine HC.out.mono ?_; rintro e w' ⟨rfl, rfl⟩) | (go_at_call 23; refine HD.out.mono ?_; rintro e w' ⟨rfl, rfl⟩))
      go_ret
      exact ⟨ret_bool (by rw [HE.out, HP.out]), rfl⟩
    · have HE := Lib.hid (show regOk t s = false by simp [regOk, h1])
      clear hc hg hd HD
      go_enter Try.func38, Try.ntmps38
      go_wp2_with (go_at_call 22; refine HC.out.mono ?_; rintro e w' ⟨rfl, rfl⟩)
      go_ret
      exact ⟨ret_bool HE.out.symm, rfl⟩
theorem l3Ok_any (t s : Int) (w : World) : Calls Try.prog 40 #[.int .i64 t, .int .i64 s] w fun e w' => e = .returned (.bool (regOk t s)) ∧ w = w' := by
  have hc := specGenValid_any t w
  cases hg : genOk t
  · rw [hg] at hc
    have HC := Lib.hid hc
    have HE := Lib.hid (show regOk t s = false by simp [regOk, hg])
    clear hc hg
    go_enter Try.func40, Try.ntmps40
    go_wp2_with (go_at_call 52; refine HC.out.mono ?_; rintro e w' ⟨rfl, rfl⟩)
    go_ret
    exact ⟨ret_bool HE.out.symm, rfl⟩
  · rw [hg] at hc
    obtain ⟨g1, g2, _⟩ := genOk_parts hg
    have HC := Lib.hid hc
    have HD := Lib.hid (l2Degree_any t w (by omega) g2)
    have HP := Lib.hid (pow_word hg)
    have hl := (deg_lt hg).2
    have hb := pow_degR hg
    have h0 := Nat.two_pow_pos (deg t)
    have HI := Lib.hid (l1In_any s 1 (wrap64 (wrap64 ((2 : Int) ^ deg t) - 1)) w)
    have HE : Hid (regOk t s = (decide ((1 : Int) ≤ s) && decide (s ≤ wrap64 (wrap64 ((2 : Int) ^ deg t) - 1)))) := by
      show _ = _
      have e : wrap64 (((2 ^ deg t : Nat) : Int) - 1) = ((2 ^ deg t : Nat) : Int) - 1 := by
        rw [show ((2 ^ deg t : Nat) : Int) - 1 = ((2 ^ deg t - 1 : Nat) : Int) by omega]
        exact wrap64_in (by omega)
      rw [HP.out, e]
      simp only [regOk, hg, Bool.true_and]
      congr 1
      apply decide_eq_decide.2
      omega
    clear hc hg g1 g2 hb h0
    go_enter Try.func40, Try.ntmps40
    go_wp2_with (first | (go_at_call 52; refine HC.out.mono ?_; rintro e w' ⟨rfl, rfl⟩) | (go_at_call 53; refine HD.out.mono ?_; rintro e w' ⟨rfl, rfl⟩) | (go_at_call 41; refine HI.out.mono ?_; rintro e w' ⟨rfl, rfl⟩))
    go_ret
    exact ⟨ret_bool HE.out.symm, rfl⟩
theorem l3Next_any (T S : Nat) (w : World) (hT : T < 4611686018427387904) (hS : S < 4611686018427387904) : Calls Try.prog 42 #[.int .i64 (T : Int), .int .i64 (S : Int)] w fun e w' => e = .returned (.tuple #[.int .i64 ((S % 2 : Nat) : Int), .int .i64 (nxt T S : Int)]) ∧ w = w' := by
  have hs0 : 0 ≤ (S : Int) := by omega
  have ht0 : 0 ≤ (T : Int) := by omega
  by_cases ho : S % 2 = 1
  · have hx : bits .xor .i64 ((S : Int) / 2) ((T : Int) / 2) = (nxt T S : Int) := by
      rw [show (S : Int) / 2 = ((S / 2 : Nat) : Int) from rfl, show (T : Int) / 2 = ((T / 2 : Nat) : Int) from rfl, i64_xor _ _ (by omega) (by omega)]
      simp [nxt, ho]
    have hm : (S : Int) % 2 = 1 := by omega
    have HO := Lib.hid ho
    clear ho
    go_enter Try.func42, Try.ntmps42
    go_wp2
    go_ret2
    exact ⟨by rw [HO.out]; simp [hm], rfl⟩
  · have hx : ((S : Int) / 2) = (nxt T S : Int) := by
      rw [show (S : Int) / 2 = ((S / 2 : Nat) : Int) from rfl]
      simp [nxt, ho]
    have hm : (S : Int) % 2 = 0 := by omega
    have HO := Lib.hid (show S % 2 = 0 by omega)
    have HX := Lib.hid hx
    clear ho hx
    go_enter Try.func42, Try.ntmps42
    go_wp2
    go_ret2
    exact ⟨by rw [HO.out, HX.out]; simp [hm], rfl⟩
end Go.Proofs.Ytamfjmfffpdcfaa
