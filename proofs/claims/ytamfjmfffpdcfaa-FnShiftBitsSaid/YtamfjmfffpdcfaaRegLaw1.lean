/-
  The laws of ShiftPeriod and of the balance of a period, walked: they return true for every code, and write into nothing that was there.
-/
import Derived.Test.YtamfjmfffpdcfaaRegDraw
import Derived.Test.YtamfjmfffpdcfaaRegScr
import Derived.Test.YtamfjmfffpdcfaaDraw4
namespace Go.Proofs.Ytamfjmfffpdcfaa
open Go.RowKit

theorem reg19 {S : Nat} (h1 : 1 ≤ S) (h2 : S ≤ 15) : regOk 19 (S : Int) = true := by
  have : S = 1 ∨ S = 2 ∨ S = 3 ∨ S = 4 ∨ S = 5 ∨ S = 6 ∨ S = 7 ∨ S = 8 ∨ S = 9 ∨ S = 10 ∨ S = 11 ∨ S = 12 ∨ S = 13 ∨ S = 14 ∨ S = 15 := by omega
  rcases this with rfl | rfl | rfl | rfl | rfl | rfl | rfl | rfl | rfl | rfl | rfl | rfl | rfl | rfl | rfl <;> rfl
/-- The period of the polynomial 19, for every seed. -/
def back19 (S : Nat) : Bool := st 19 S 15 == S && (List.range 14).all fun j => st 19 S (j + 1) != S
theorem back19_all : (List.range 15).all (fun k => back19 (k + 1)) = true := by decide
theorem per19 {S : Nat} (h1 : 1 ≤ S) (h2 : S ≤ 15) : IsPer 19 S 15 := by
  have h := List.all_eq_true.1 back19_all (S - 1) (List.mem_range.2 (by omega))
  rw [show S - 1 + 1 = S by omega] at h
  simp only [back19, Bool.and_eq_true, beq_iff_eq, List.all_eq_true, List.mem_range, bne_iff_ne] at h
  refine ⟨by omega, h.1, fun j hj1 hj2 => ?_⟩
  have := h.2 (j - 1) (by omega)
  rwa [show j - 1 + 1 = j by omega] at this
theorem perOr19 {S : Nat} (h1 : 1 ≤ S) (h2 : S ≤ 15) : PerOr 19 (S : Int) 15 := .inl ⟨reg19 h1 h2, per19 h1 h2, by decide⟩
theorem outs19 {S : Nat} (h1 : 1 ≤ S) (h2 : S ≤ 15) {n : Nat} (hn : n ≤ 1024) : outsOr 19 (S : Int) (n : Int) = outs 19 S n := by
  have : shOk 19 (S : Int) (n : Int) = true := by
    simp only [shOk, reg19 h1 h2, Bool.true_and, Bool.and_eq_true, decide_eq_true_eq]
    omega
  simp [outsOr, this]

set_option maxHeartbeats 2000000 in
theorem walkShiftPeriod (a : Option Addr) (c : Nat) (ds : List Int) (w : World) (hx : Ints .u8 w w.heap.size a ds) (hw : ∀ n ∈ ds, (Lit.int .u8 n).wf = true) (hc : ds.length ≤ c) (hcm : c ≤ maxLen) :
    Calls Try.prog 4 #[.slice a ds.length c] w fun e w' => e = .returned (.bool true) ∧ Below w.heap.size w w' := by
  have hb := isByte_of_wf hw
  clear hw
  by_cases hl : ds.length ≤ 1048576
  · go_enter Try.func4, Try.ntmps4
    go_wp2_with fail
    refine (drawShiftPeriod_any a c ds w hx hb hc hcm).mono ?_
    rintro e w1 ⟨g, s, hg, ⟨hs0, hs1⟩, rfl, b1⟩
    have B1 := Lib.hid b1
    clear hx hb hc hcm b1 hg
    obtain ⟨n, hn⟩ := perOr_ex g s
    have HN := Lib.hid hn
    clear hn
    go_wp2_with fail
    refine (shiftPeriod_any g s n HN.out w1).mono ?_
    rintro e w2 ⟨rfl, b2⟩
    have B2 := Lib.hid (Below.next B1.out (Nat.le_refl _) b2)
    clear b2 B1
    go_wp2_with fail
    refine (specShiftPeriod_any g s n HN.out w2).mono ?_
    rintro e w3 ⟨rfl, rfl⟩
    have z1 : ((n : Int) != (n : Int)) = false := by simp
    rcases HN.out with ⟨hok, hp, hnl⟩ | ⟨hok, hn0⟩
    · have hn1 := hp.pos
      have z2 : ((n : Int) == 0) = false := by rw [beq_eq_false_iff_ne]; omega
      have hgo := (regOk_parts hok).1
      have hnd : n < 2 ^ deg g := by have := Nat.two_pow_pos (deg g); omega
      have hdg := degreeOf_any g w2
      rw [show degOr g = (deg g : Int) by simp [degOr, hgo]] at hdg
      have hpw := pow_word hgo
      have hdl := (deg_lt hgo).2
      have hpb := pow_degR hgo
      clear hp hnl hok hgo HN
      generalize deg g = d at *
      obtain ⟨P, hP⟩ : ∃ P, P = 2 ^ d := ⟨_, rfl⟩
      rw [← hP] at hpw hnd hpb
      clear hP
      have HD := Lib.hid hdg
      obtain ⟨S, hS⟩ : ∃ S : Nat, s = (S : Int) := ⟨s.toNat, by omega⟩
      subst hS
      obtain ⟨Z, hZ⟩ : ∃ Z : Nat, Z = 1 + S % 15 := ⟨_, rfl⟩
      have hZ' : (1 + (S : Int) % 15) = (Z : Int) := by omega
      have H19 := Lib.hid (fun W => shiftPeriod_any 19 (Z : Int) 15 (perOr19 (by omega) (by omega)) W)
      have hlt : ((n : Int) < (P : Int)) := by omega
      have hcmp : decide ((n : Int) < wrap64 ((2 : Int) ^ d)) = true := by rw [hpw]; exact decide_eq_true hlt
      clear hdg hpw hZ hlt hnd hpb
      go_wp2_with fail
      refine (HD.out).mono ?_
      rintro e w4 ⟨rfl, rfl⟩
      go_wp2_with fail
      refine (H19.out w2).mono ?_
      rintro e w5 ⟨rfl, b5⟩
      have B5 := Lib.hid (Below.next B2.out (Nat.le_refl _) b5)
      clear b5
      go_wp2
      go_ret
      exact ⟨rfl, B5.out⟩
    · have z2 : ((n : Int) == 0) = true := by rw [hn0]; rfl
      have HA := Lib.hid (fun W => alive_any W)
      have HV := Lib.hid (genValid_any g w2)
      clear hn0 HN
      cases hgo : genOk g
      · rw [hgo] at HV
        clear hok
        go_wp2_with fail
        refine HV.out.mono ?_
        rintro e w4 ⟨rfl, rfl⟩
        go_wp2_with fail
        refine (HA.out w2).mono ?_
        rintro e w5 ⟨rfl, b5⟩
        have B5 := Lib.hid (Below.next B2.out (Nat.le_refl _) b5)
        clear b5
        go_wp2
        go_ret
        exact ⟨rfl, B5.out⟩
      · rw [hgo] at HV
        by_cases hs : 1 ≤ s
        · have hbig : (2 ^ deg g : Nat) ≤ s := by
            apply Classical.byContradiction
            intro hc
            rw [Bool.eq_false_iff] at hok
            exact hok (by simp only [regOk, hgo, Bool.true_and, Bool.and_eq_true, decide_eq_true_eq]; exact ⟨hs, Int.not_le.1 hc⟩)
          have hdg := degreeOf_any g w2
          rw [show degOr g = (deg g : Int) by simp [degOr, hgo]] at hdg
          have hpw := pow_word hgo
          have hdl := (deg_lt hgo).2
          have hcmp : decide (wrap64 ((2 : Int) ^ deg g) ≤ s) = true := by rw [hpw]; exact decide_eq_true hbig
          have HD := Lib.hid hdg
          clear hok hgo hdg hpw hbig
          generalize deg g = d at *
          go_wp2_with fail
          refine HV.out.mono ?_
          rintro e w4 ⟨rfl, rfl⟩
          go_wp2_with fail
          refine HD.out.mono ?_
          rintro e w4 ⟨rfl, rfl⟩
          go_wp2_with fail
          refine (HA.out w2).mono ?_
          rintro e w5 ⟨rfl, b5⟩
          have B5 := Lib.hid (Below.next B2.out (Nat.le_refl _) b5)
          clear b5
          go_wp2
          go_ret
          exact ⟨rfl, B5.out⟩
        · clear hok hgo
          go_wp2_with fail
          refine HV.out.mono ?_
          rintro e w4 ⟨rfl, rfl⟩
          go_wp2_with fail
          refine (HA.out w2).mono ?_
          rintro e w5 ⟨rfl, b5⟩
          have B5 := Lib.hid (Below.next B2.out (Nat.le_refl _) b5)
          clear b5
          go_wp2
          go_ret
          exact ⟨rfl, B5.out⟩
  · go_enter Try.func4, Try.ntmps4
    go_wp2
    go_ret
    exact ⟨rfl, Below.refl _ _⟩
end Go.Proofs.Ytamfjmfffpdcfaa
