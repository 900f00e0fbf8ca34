/-
  The laws of the zeros of polynomials and of PolynomialAt, walked: they return true for every code, and write into nothing that was there. Condition: the program's two tables lie in their variables.
-/
import Derived.Test.YtlaofbaglepkgaaDoorFldLaw1
namespace Go.Proofs.YtlaofbaglepkgaaDoor
open Go.RowKit

/-- The tables and the list lie there, and nothing that was there at first has changed. -/
def PS (w0 : World) (a : Option Addr) (xs : List Int) (w : World) : Prop := St w0 w ∧ Ints .i64 w w.heap.size a xs
theorem PS.drewN {w0 w : World} {a : Option Addr} {xs : List Int} (h : PS w0 a xs w) (n : Nat) : PS w0 a xs (w.drewN n) := ⟨h.1.drewN n, h.2⟩
theorem pol_ps (a : Option Addr) (c : Nat) (xs : List Int) (x v : Int) (w0 w : World) (hS : PS w0 a xs w) (h : polOr xs x = v) :
    Calls Tryd.prog 22 #[.slice a xs.length c, .int .i64 x] w fun e w' => e = .returned (.int .i64 v) ∧ PS w0 a xs w' := by
  have := polynomialAt_any a c w.heap.size xs x w hS.2 hS.1.1
  rw [h] at this
  refine this.mono ?_
  rintro e w' ⟨h1, n, rfl⟩
  exact ⟨h1, hS.drewN n⟩
theorem specPol_ps (a : Option Addr) (c : Nat) (xs : List Int) (x v : Int) (w0 w : World) (hS : PS w0 a xs w) (h : polOr xs x = v) :
    Calls Tryd.prog 23 #[.slice a xs.length c, .int .i64 x] w fun e w' => e = .returned (.int .i64 v) ∧ PS w0 a xs w' := by
  have := specPolynomialAt_any a c w.heap.size xs x w hS.2
  rw [h] at this
  refine this.mono ?_
  rintro e w' ⟨h1, n, rfl⟩
  exact ⟨h1, hS.drewN n⟩
theorem coOk_parts {xs : List Int} (h : coOk xs = true) : xs.length ≤ 15 ∧ xs.all elOk = true := by
  simp only [coOk, Bool.and_eq_true, decide_eq_true_eq] at h; exact h
/-- How many elements are zeros of a list's polynomial. -/
def zc (xs : List Int) (k : Nat) : Nat := nz (fun x => pol (co xs) x xs.length) k
theorem zc_few {xs : List Int} (h : coOk xs = true) (h2 : 2 ≤ xs.length) (h0 : el xs 0 ≠ 0) : zc xs 16 ≤ xs.length - 1 := by
  obtain ⟨_, hall⟩ := coOk_parts h
  have hc0 := co_el hall (i := 0) (by omega)
  have := few (xs.length - 1) (co xs) (fun i hi => (co_el hall (by omega)).2) (fun e => h0 (by rw [hc0.1, e]; rfl))
  rwa [show xs.length - 1 + 1 = xs.length by omega] at this

set_option maxHeartbeats 1000000 in
theorem walkFieldPolynomial (a : Option Addr) (c : Nat) (ds : List Int) (w : World) (hx : Ints .u8 w w.heap.size a ds) (hw : ∀ n ∈ ds, (Lit.int .u8 n).wf = true) (hc : ds.length ≤ c) (hcm : c ≤ maxLen) (hT : Tabs2 w) :
    Calls Tryd.prog 7 #[.slice a ds.length c] w fun e w' => e = .returned (.bool true) ∧ Below w.heap.size w w' := by
  have hb := isByte_of_wf hw
  clear hw
  by_cases hl : ds.length ≤ 1048576
  · go_enter Tryd.func7, Tryd.ntmps7
    go_wp2_with fail
    refine (drawPolynomialAt_any a c ds w hx hb hc hcm).mono ?_
    rintro e w1 ⟨xs, ad, cx, x, rfl, ⟨hl1, _, _⟩, _, i1, b1⟩
    have S1 : Hid (PS w ad xs w1) := ⟨St.first hT b1, i1⟩
    clear hx hb hc hcm b1 hT i1
    obtain ⟨v, hv⟩ : ∃ v, polOr xs x = v := ⟨_, rfl⟩
    have HV := Lib.hid hv
    clear hv
    have z : (v != v) = false := by simp
    go_wp2_with fail
    refine (pol_ps ad cx xs x v w w1 S1.out HV.out).mono ?_
    rintro e w2 ⟨rfl, s2⟩
    have S2 := Lib.hid s2
    clear s2 S1
    go_wp2_with fail
    refine (specPol_ps ad cx xs x v w w2 S2.out HV.out).mono ?_
    rintro e w3 ⟨rfl, s3⟩
    have S3 := Lib.hid s3
    clear s3 S2 HV
    by_cases h2 : xs.length < 2
    · go_wp2_with fail
      refine (alive_st w w3 S3.out.1).mono ?_
      rintro e w4 ⟨rfl, s4⟩
      have S4 := Lib.hid s4
      clear s4
      go_wp2
      go_ret
      exact ⟨rfl, S4.out.below⟩
    · cases hco : coOk xs
      · have H0 := Lib.hid (pol_ps ad cx xs 0 (-1) w w3 S3.out (polOr_r hco))
        clear hco
        go_wp2_with fail
        refine H0.out.mono ?_
        rintro e w4 ⟨rfl, s4⟩
        have S4 := Lib.hid s4
        clear s4
        go_wp2_with fail
        refine (alive_st w w4 S4.out.1).mono ?_
        rintro e w5 ⟨rfl, s5⟩
        have S5 := Lib.hid s5
        clear s5
        go_wp2
        go_ret
        exact ⟨rfl, S5.out.below⟩
      · obtain ⟨v0, hv0⟩ : ∃ v0, v0 = pol (co xs) 0 xs.length := ⟨_, rfl⟩
        have H0 := Lib.hid (pol_ps ad cx xs 0 (v0 : Int) w w3 S3.out (by rw [hv0]; exact polOr_nat (x := 0) (by omega) hco))
        have HCO := Lib.hid hco
        clear hv0 hco
        go_wp2_with fail
        refine H0.out.mono ?_
        rintro e w4 ⟨rfl, s4⟩
        have S4 := Lib.hid s4
        clear s4 H0 S3
        obtain ⟨b, off, rfl, hb, hc0⟩ := S4.out.2.at_ (i := 0) (by omega)
        rw [Nat.add_zero] at hc0
        by_cases he : el xs 0 = 0
        · have ze : (el xs 0 == 0) = true := by simp [he]
          clear he
          go_wp2_with fail
          refine (alive_st w w4 S4.out.1).mono ?_
          rintro e w5 ⟨rfl, s5⟩
          have S5 := Lib.hid s5
          clear s5
          go_wp2
          go_ret
          exact ⟨rfl, S5.out.below⟩
        · have ze : (el xs 0 == 0) = false := by simp [he]
          have HF := Lib.hid (zc_few HCO.out (by omega) he)
          clear he
          go_wp2
          clear hc0 ze
          go_loopw [5, 6] (fun s i wr => ∃ k g : Nat, k ≤ 16 ∧ i = .int .i64 k ∧ s = .int .i64 g ∧ g ≤ k ∧ g = zc xs k ∧ PS w (some ⟨b, off, none⟩) xs wr) (fun _ i _ => 16 - (intOf i).toNat)
          case atStart => exact ⟨0, 0, by omega, rfl, rfl, by omega, rfl, S4.out⟩
          case round =>
            obtain ⟨k, g, hk, rfl, rfl, hgk, hg, s5⟩ := hrel
            have HG := Lib.hid hg
            have S5 := Lib.hid s5
            clear hg s5 S4
            by_cases hlt : k < 16
            · obtain ⟨V, hV⟩ : ∃ V, V = pol (co xs) k xs.length := ⟨_, rfl⟩
              have H1 := Lib.hid (pol_ps (some ⟨b, off, none⟩) cx xs (k : Int) (V : Int) w wr S5.out (by rw [hV]; exact polOr_nat hlt HCO.out))
              have hgs : zc xs (k + 1) = if V = 0 then g + 1 else g := by rw [hV, HG.out]; rfl
              clear hV
              by_cases hz : V = 0
              · rw [if_pos hz] at hgs
                have zz : ((V : Int) == 0) = true := by simp [hz]
                have HS := Lib.hid hgs
                clear hgs hz
                go_wp2_with fail
                refine H1.out.mono ?_
                rintro e w6 ⟨rfl, s6⟩
                have S6 := Lib.hid s6
                clear s6
                go_wp2
                go_roundw
                case rel => exact ⟨k + 1, g + 1, by omega, by go_num, by go_num, by omega, HS.out.symm, S6.out⟩
                case measure => simp [intOf]; omega
              · rw [if_neg hz] at hgs
                have zz : ((V : Int) == 0) = false := by simp; omega
                have HS := Lib.hid hgs
                clear hgs hz
                go_wp2_with fail
                refine H1.out.mono ?_
                rintro e w6 ⟨rfl, s6⟩
                have S6 := Lib.hid s6
                clear s6
                go_wp2
                go_roundw
                case rel => exact ⟨k + 1, g, by omega, by go_num, rfl, by omega, HS.out.symm, S6.out⟩
                case measure => simp [intOf]; omega
            · obtain rfl : k = 16 := by omega
              have hle : (g : Int) ≤ (xs.length : Int) - 1 := by have := HF.out; rw [← HG.out] at this; omega
              go_wp2
              go_ret
              exact ⟨rfl, S5.out.1.below⟩
  · go_enter Tryd.func7, Tryd.ntmps7
    go_wp2
    go_ret
    exact ⟨rfl, Below.refl _ _⟩
end Go.Proofs.YtlaofbaglepkgaaDoor
