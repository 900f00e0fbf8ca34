/-
  The law of FieldPower, walked: it returns true for every code, and writes into nothing that was there. Condition: the program's two tables lie in their variables.
-/
import Derived.Test.YtlaofbaglepkgaaDoorFldDraw2
import Derived.Test.YtlaofbaglepkgaaDoorFldLaw1
namespace Go.Proofs.YtlaofbaglepkgaaDoor
open Go.RowKit

set_option maxHeartbeats 1000000 in
theorem walkFieldPower (a : Option Addr) (c : Nat) (ds : List Int) (w : World) (hx : Ints .u8 w w.heap.size a ds) (hw : ∀ n ∈ ds, (Lit.int .u8 n).wf = true) (hc : ds.length ≤ c) (hcm : c ≤ maxLen) (hT : Tabs2 w) :
    Calls Tryd.prog 5 #[.slice a ds.length c] w fun e w' => e = .returned (.bool true) ∧ Below w.heap.size w w' := by
  have hb := isByte_of_wf hw
  clear hw
  by_cases hl : ds.length ≤ 1048576
  · go_enter Tryd.func5, Tryd.ntmps5
    go_wp2_with fail
    refine (drawFieldPower_any a c ds w hx hb hc hcm).mono ?_
    rintro e w1 ⟨x, y, hx1, ⟨hy1, hy2⟩, rfl, b1⟩
    have S1 := Lib.hid (St.first hT b1)
    clear hx hb hc hcm b1 hT hx1
    have h1 := fieldPower_any x y w1 S1.out.1
    have h2 := specFieldPower_any x y w1
    by_cases hok : elOk x = true ∧ exOk y = true
    · obtain ⟨m, rfl, hm⟩ := elOk_nat hok.1
      obtain ⟨k, rfl, hk⟩ := exOk_nat hok.2
      clear hok
      rw [powOr_nat hm hk] at h1 h2
      have hs := fpow_succ k hm
      have hp16 : fpow m k < 16 := fpow_lt k
      obtain ⟨N, hN⟩ : ∃ N, N = powOr (m : Int) ((k : Int) + 1) := ⟨_, rfl⟩
      have h3 := fieldPower_any (m : Int) ((k : Int) + 1) w1 S1.out.1
      rw [← hN] at h3
      obtain ⟨M, hM⟩ : ∃ M, fmul (fpow m k) m = M := ⟨_, rfl⟩
      have hNM : k < 1000 → N = (M : Int) := fun h => by
        rw [hN, show (k : Int) + 1 = ((k + 1 : Nat) : Int) from rfl, powOr_nat hm (by omega), hs, hM]
      generalize fpow m k = P at *
      have H1 := Lib.hid h1
      have H2 := Lib.hid h2
      have H3 := Lib.hid h3
      have HM := Lib.hid hM
      have H0 := Lib.hid (fun W hS => pow_is m 0 1 w W hS hm (by omega) rfl)
      have z : ((P : Int) != (P : Int)) = false := by simp
      clear h1 h2 h3 hs hN hM
      by_cases hk1 : k = 1000
      · have zk : ((k : Int) == 1000) = true := by simp; omega
        clear hNM hk1
        by_cases hm0 : m = 0
        · have zm : ((m : Int) == 0) = true := by simp [hm0]
          clear hm0
          go_wp2_with fail
          refine H1.out.mono ?_
          rintro e w' ⟨rfl, rfl⟩
          go_wp2_with fail
          refine H2.out.mono ?_
          rintro e w' ⟨rfl, rfl⟩
          go_wp2_with fail
          refine H3.out.mono ?_
          rintro e w' ⟨rfl, rfl⟩
          go_wp2_with fail
          refine (H0.out w1 S1.out).mono ?_
          rintro e w' ⟨rfl, rfl⟩
          go_wp2
          go_ret
          exact ⟨rfl, S1.out.below⟩
        · have zm : ((m : Int) == 0) = false := by simp; omega
          have H5 := Lib.hid (pow_is m 15 1 w w1 S1.out hm (by omega) (fpow_order hm (by omega)))
          clear hm0
          go_wp2_with fail
          refine H1.out.mono ?_
          rintro e w' ⟨rfl, rfl⟩
          go_wp2_with fail
          refine H2.out.mono ?_
          rintro e w' ⟨rfl, rfl⟩
          go_wp2_with fail
          refine H3.out.mono ?_
          rintro e w' ⟨rfl, rfl⟩
          go_wp2_with fail
          refine H5.out.mono ?_
          rintro e w' ⟨rfl, rfl⟩
          go_wp2_with fail
          refine (H0.out w1 S1.out).mono ?_
          rintro e w' ⟨rfl, rfl⟩
          go_wp2
          go_ret
          exact ⟨rfl, S1.out.below⟩
      · have zk : ((k : Int) == 1000) = false := by simp; omega
        obtain rfl := hNM (by omega)
        have zM : ((M : Int) == (M : Int)) = true := by simp
        clear hNM
        by_cases hm0 : m = 0
        · have zm : ((m : Int) == 0) = true := by simp [hm0]
          clear hm0
          go_wp2_with fail
          refine H1.out.mono ?_
          rintro e w' ⟨rfl, rfl⟩
          go_wp2_with fail
          refine H2.out.mono ?_
          rintro e w' ⟨rfl, rfl⟩
          go_wp2_with fail
          refine H3.out.mono ?_
          rintro e w' ⟨rfl, rfl⟩
          go_wp2_with fail
          refine (mul_is P m M w _ S1.out hp16 hm HM.out).mono ?_
          rintro e w2 ⟨rfl, s2⟩
          have S2 := Lib.hid s2
          clear s2
          go_wp2_with fail
          refine (H0.out w2 S2.out).mono ?_
          rintro e w' ⟨rfl, rfl⟩
          go_wp2
          go_ret
          exact ⟨rfl, S2.out.below⟩
        · have zm : ((m : Int) == 0) = false := by simp; omega
          have H5 := Lib.hid (fun W hS => pow_is m 15 1 w W hS hm (by omega) (fpow_order hm (by omega)))
          clear hm0
          go_wp2_with fail
          refine H1.out.mono ?_
          rintro e w' ⟨rfl, rfl⟩
          go_wp2_with fail
          refine H2.out.mono ?_
          rintro e w' ⟨rfl, rfl⟩
          go_wp2_with fail
          refine H3.out.mono ?_
          rintro e w' ⟨rfl, rfl⟩
          go_wp2_with fail
          refine (mul_is P m M w _ S1.out hp16 hm HM.out).mono ?_
          rintro e w2 ⟨rfl, s2⟩
          have S2 := Lib.hid s2
          clear s2
          go_wp2_with fail
          refine (H5.out w2 S2.out).mono ?_
          rintro e w' ⟨rfl, rfl⟩
          go_wp2_with fail
          refine (H0.out w2 S2.out).mono ?_
          rintro e w' ⟨rfl, rfl⟩
          go_wp2
          go_ret
          exact ⟨rfl, S2.out.below⟩
    · have hno : powOr x y = -1 := by
        cases he : elOk x
        · exact powOr_l he
        · cases hf : exOk y
          · exact powOr_r hf
          · exact absurd ⟨he, hf⟩ hok
      rw [hno] at h1 h2
      have H1 := Lib.hid h1
      have H2 := Lib.hid h2
      clear h1 h2 hno hok
      go_wp2_with fail
      refine H1.out.mono ?_
      rintro e w' ⟨rfl, rfl⟩
      go_wp2_with fail
      refine H2.out.mono ?_
      rintro e w' ⟨rfl, rfl⟩
      go_wp2_with fail
      refine (alive_st w w1 S1.out).mono ?_
      rintro e w4 ⟨rfl, s4⟩
      have S4 := Lib.hid s4
      clear s4
      go_wp2
      go_ret
      exact ⟨rfl, S4.out.below⟩
  · go_enter Tryd.func5, Tryd.ntmps5
    go_wp2
    go_ret
    exact ⟨rfl, Below.refl _ _⟩
end Go.Proofs.YtlaofbaglepkgaaDoor
