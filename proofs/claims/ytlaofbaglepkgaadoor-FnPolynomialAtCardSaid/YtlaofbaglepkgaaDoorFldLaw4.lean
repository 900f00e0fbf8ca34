/-
  The law of PolynomialAt, walked: it returns true for every code, and writes into nothing that was there. Condition: the program's two tables lie in their variables.
-/
import Derived.Test.YtlaofbaglepkgaaDoorFldLaw3
import Derived.Test.YtlaofbaglepkgaaDoorAppendA
namespace Go.Proofs.YtlaofbaglepkgaaDoor
open Go.RowKit

theorem pol_sum {xs : List Int} (hall : xs.all elOk = true) {k : Nat} (hk : k < xs.length) : pol (co xs) 1 (k + 1) = pol (co xs) 1 k ^^^ co xs k := by
  rw [pol, fmul_one (pol_lt (by omega) k fun i hi => (co_el hall (by omega)).2)]
theorem co_more {xs : List Int} {i : Nat} (hi : i < xs.length) : co (xs ++ [5]) i = co xs i := by
  have h : i < (xs ++ [5]).length := by simp; omega
  unfold co; rw [el_lt h, el_lt hi, List.getElem_append_left hi]
theorem co_last (xs : List Int) : co (xs ++ [5]) xs.length = 5 := by
  have h : xs.length < (xs ++ [(5 : Int)]).length := by simp
  unfold co; rw [el_lt h]; simp
theorem pol_more {xs : List Int} (h : coOk xs = true) (hl : xs.length < 15) {y : Nat} (hy : y < 16) : polOr (xs ++ [5]) (y : Int) = ((fmul (pol (co xs) y xs.length) y ^^^ 5 : Nat) : Int) := by
  obtain ⟨_, hall⟩ := coOk_parts h
  have hok : coOk (xs ++ [5]) = true := by
    simp only [coOk, List.all_append, hall, List.length_append, List.length_singleton, Bool.true_and, Bool.and_eq_true, decide_eq_true_eq]
    exact ⟨by omega, rfl⟩
  rw [polOr_nat hy hok, List.length_append, List.length_singleton, pol, co_last, pol_congr xs.length fun i hi => co_more hi]
set_option maxHeartbeats 2000000 in
theorem walkPolynomialAt (a : Option Addr) (c : Nat) (ds : List Int) (w : World) (hx : Ints .u8 w w.heap.size a ds) (hw : ∀ n ∈ ds, (Lit.int .u8 n).wf = true) (hc : ds.length ≤ c) (hcm : c ≤ maxLen) (hT : Tabs2 w) :
    Calls Tryd.prog 6 #[.slice a ds.length c] w fun e w' => e = .returned (.bool true) ∧ Below w.heap.size w w' := by
  have hb := isByte_of_wf hw
  clear hw
  by_cases hl : ds.length ≤ 1048576
  · go_enter Tryd.func6, Tryd.ntmps6
    go_wp2_with fail
    refine (drawPolynomialAt_any a c ds w hx hb hc hcm).mono ?_
    rintro e w1 ⟨xs, ad, cx, x, rfl, ⟨hl1, _, _⟩, _, i1, b1⟩
    have S1 : Hid (PS w ad xs w1) := ⟨St.first hT b1, i1⟩
    clear hx hb hc hcm b1 hT i1
    obtain ⟨v, hv⟩ : ∃ v, polOr xs x = v := ⟨_, rfl⟩
    have HV := Lib.hid hv
    clear hv
    have z : (v != v) = false := by simp
    go_wp2_with fail
    refine (pol_ps ad cx xs x v w w1 S1.out HV.out).mono ?_
    rintro e w2 ⟨rfl, s2⟩
    have S2 := Lib.hid s2
    clear s2 S1
    go_wp2_with fail
    refine (specPol_ps ad cx xs x v w w2 S2.out HV.out).mono ?_
    rintro e w3 ⟨rfl, s3⟩
    have S3 := Lib.hid s3
    clear s3 S2
    by_cases hok : elOk x = true ∧ coOk xs = true
    · obtain ⟨y, rfl, hy⟩ := elOk_nat hok.1
      have hco := hok.2
      obtain ⟨hl15, hall⟩ := coOk_parts hco
      obtain ⟨V, hV⟩ : ∃ V, V = pol (co xs) y xs.length := ⟨_, rfl⟩
      have hV16 : V < 16 := by rw [hV]; exact pol_lt hy _ fun i hi => (co_el hall hi).2
      obtain rfl : v = (V : Int) := by rw [← HV.out, polOr_nat hy hco, hV]
      have HCO := Lib.hid hco
      have HALL := Lib.hid hall
      have HP := Lib.hid hV
      clear hok hco hall hV HV
      go_wp2
      clear z
      go_loop [6, 7] (fun s i => ∃ k g : Nat, k ≤ xs.length ∧ i = .int .i64 k ∧ s = .int .i64 g ∧ g < 16 ∧ g = pol (co xs) 1 k) (fun _ i => xs.length - (intOf i).toNat)
      case atStart => exact ⟨0, 0, Nat.zero_le _, rfl, rfl, by omega, rfl⟩
      case round =>
        obtain ⟨k, g, hk, rfl, rfl, hg16, hg⟩ := hrel
        have HG := Lib.hid hg
        clear hg
        by_cases hlt : k < xs.length
        · obtain ⟨b, off, rfl, hb, hc⟩ := S3.out.2.at_ hlt
          have hq := co_el HALL.out hlt
          have hps := pol_sum HALL.out hlt
          rw [← HG.out] at hps
          obtain ⟨q, hqq⟩ : ∃ q, q = co xs k := ⟨_, rfl⟩
          rw [← hqq] at hq hps
          rw [hq.1] at hc
          have hq16 := hq.2
          obtain ⟨r, hr⟩ : ∃ r, g ^^^ q = r := ⟨_, rfl⟩
          have hr16 : r < 16 := by rw [← hr]; exact xor_lt hg16 hq16
          rw [hr] at hps
          have HA := Lib.hid (add_is g q r w3 hg16 hq16 hr)
          have HS := Lib.hid hps.symm
          clear hq hqq hr hps
          go_wp2_with (go_at_call 14; refine HA.out.mono ?_; rintro e w' ⟨rfl, rfl⟩)
          go_round
          case rel => exact ⟨k + 1, r, by omega, by go_num, rfl, hr16, HS.out⟩
          case measure => simp [intOf]; omega
        · obtain rfl : xs.length = k := by omega
          have IA := Lib.hid (fun o => S3.out.2.below ((Below.refl _ w3).alloc (Nat.le_refl _) o))
          have BA := Lib.hid (fun o => (Below.refl _ w3).alloc (Nat.le_refl _) o)
          have hlen : (xs ++ [(5 : Int)]).length = xs.length + 1 := by simp
          have HLEN := Lib.hid hlen
          clear hlen
          go_wp2_with (first
            | (at_builtin; refine wpList_appendA (.tmp 44) (.tmp 45) w3.heap.size (some ⟨w3.heap.size, 0, none⟩) ad 0 0 xs.length cx w3.heap.size [] xs rfl rfl rfl rfl (Grow.lit0 _ _ _ _ (Nat.le_refl _)) (IA.out _) rfl (by omega) (by simp) ?_; intro a4 cap4 w4 hg4 hb4 _; rw [Nat.zero_add, List.nil_append] at hg4; have HG4 := Lib.hid hg4; have HB4 := Lib.hid ((BA.out _).trans hb4); have hs4 : w3.heap.size ≤ w4.heap.size := HB4.out.size; clear hg4 hb4)
            | (at_builtin; refine wpList_append1 (.tmp 46) (.tmp 47) w3.heap.size a4 xs.length cap4 xs ⟨w4.heap.size, 0, none⟩ 5 rfl rfl rfl rfl (HG4.out.alloc _) (by simp) (by omega) (by simp; omega) ?_; intro a5 cap5 w5 hg5 hb5; have HG5 := Lib.hid hg5; have HB5 := Lib.hid ((HB4.out.alloc hs4 _).trans hb5); clear hg5 hb5))
          have S5 : Hid (PS w ad xs w5) := ⟨S3.out.1.next HB5.out, (S3.out.2.below HB5.out).more HB5.out.size⟩
          have h5 := polynomialAt_any a5 cap5 w5.heap.size (xs ++ [5]) (y : Int) w5 HG5.out.ints S5.out.1.1
          rw [HLEN.out] at h5
          obtain ⟨M, hM⟩ : ∃ M, M = polOr (xs ++ [5]) (y : Int) := ⟨_, rfl⟩
          rw [← hM] at h5
          have HM := Lib.hid hM
          have H5 := Lib.hid h5
          clear h5 hM S3 HG4 HB4 HG5 HB5 IA BA HLEN
          go_wp2_with fail
          refine H5.out.mono ?_
          rintro e w' ⟨rfl, n5, rfl⟩
          have S6 := Lib.hid (S5.out.drewN n5)
          clear H5 S5
          generalize w5.drewN n5 = w6 at *
          have Q1 := Lib.hid (fun n => show Calls Tryd.prog 22 #[.slice ad xs.length cx, .int .i64 1] (w6.drewN n) (fun e w' => e = .returned (.int .i64 (g : Int)) ∧ ∃ m, w' = (w6.drewN n).drewN m) by
            have := polynomialAt_any ad cx (w6.drewN n).heap.size xs 1 (w6.drewN n) S6.out.2 S6.out.1.1
            rwa [show polOr xs 1 = (g : Int) by rw [HG.out]; exact polOr_nat (x := 1) (by omega) HCO.out] at this)
          obtain ⟨F, hF⟩ : ∃ F, F = fmul V y := ⟨_, rfl⟩
          have hF16 : F < 16 := by rw [hF]; exact fmul_lt hV16 hy
          obtain ⟨T, hT⟩ : ∃ T, F ^^^ 5 = T := ⟨_, rfl⟩
          have QM := Lib.hid (fun n => show Calls Tryd.prog 11 #[.int .i64 V, .int .i64 y] (w6.drewN n) (fun e w' => e = .returned (.int .i64 (F : Int)) ∧ ∃ m, w' = (w6.drewN n).drewN m) by
            have := fieldMul_any (V : Int) (y : Int) (w6.drewN n) S6.out.1.1
            rwa [mulOr_nat hV16 hy, ← hF] at this)
          have QA := Lib.hid (fun n => (add_is F 5 T (w6.drewN n) hF16 (by omega) hT).mono (fun e w' ⟨h1, h2⟩ => (⟨h1, h2.symm⟩ : e = Ending.returned (.int .i64 (T : Int)) ∧ w' = w6.drewN n)))
          have hMT : xs.length ≠ 15 → M = (T : Int) := fun hne => by rw [HM.out, pol_more HCO.out (by omega) hy, ← hT, hF, HP.out]
          have zg : ((g : Int) == (g : Int)) = true := by simp
          have zT : ((T : Int) == (T : Int)) = true := by simp
          clear hF hT HP HG HM
          by_cases h0 : xs.length = 0
          · obtain rfl := hMT (by omega)
            have z0 : ((xs.length : Int) == 0) = true := by simp [h0]
            have z15 : ((xs.length : Int) == 15) = false := by simp [h0]
            clear hMT h0
            go_wp2
            go_quiet ((first
              | (go_at_call 22; with_reducible exact Calls.quiet_of (Q1.out _))
              | (go_at_call 11; with_reducible exact Calls.quiet_of (QM.out _))
              | (go_at_call 14; with_reducible exact Calls.quiet_of_same (QA.out _))))
            go_wp2
            go_ret
            exact ⟨rfl, below_drewN S6.out.1.below _⟩
          · have z0 : ((xs.length : Int) == 0) = false := by rw [beq_eq_false_iff_ne]; omega
            have hlt0 : xs.length - 1 < xs.length := by omega
            obtain ⟨k, hk⟩ : ∃ k, k = xs.length - 1 := ⟨_, rfl⟩
            rw [← hk] at hlt0
            have hq := co_el HALL.out hlt0
            obtain ⟨b, off, rfl, hb, hc⟩ := S6.out.2.at_ hlt0
            obtain ⟨q, hqq⟩ : ∃ q, q = co xs k := ⟨_, rfl⟩
            rw [hq.1, ← hqq] at hc
            have Q0 := Lib.hid (fun n => show Calls Tryd.prog 22 #[.slice (some ⟨b, off, none⟩) xs.length cx, .int .i64 0] (w6.drewN n) (fun e w' => e = .returned (.int .i64 (q : Int)) ∧ ∃ m, w' = (w6.drewN n).drewN m) by
              have := polynomialAt_any (some ⟨b, off, none⟩) cx (w6.drewN n).heap.size xs 0 (w6.drewN n) S6.out.2 S6.out.1.1
              rwa [show polOr xs 0 = (q : Int) by
                rw [hqq, ← pol_at0 (co xs) k, show k + 1 = xs.length by omega]; exact polOr_nat (x := 0) (by omega) HCO.out] at this)
            have zq : ((q : Int) == (q : Int)) = true := by simp
            have hsub : IntKind.i64.wrap ((xs.length : Int) - 1) = (k : Int) := by rw [IntKind.wrap_i64]; omega
            clear hq hqq h0 hk
            by_cases h15 : xs.length = 15
            · have z15 : ((xs.length : Int) == 15) = true := by simp [h15]
              clear hMT h15
              go_wp2
              go_quiet ((first
                | (go_at_call 22; with_reducible exact Calls.quiet_of (Q1.out _))
                | (go_at_call 22; with_reducible exact Calls.quiet_of (Q0.out _))))
              go_wp2
              go_ret
              exact ⟨rfl, below_drewN S6.out.1.below _⟩
            · obtain rfl := hMT h15
              have z15 : ((xs.length : Int) == 15) = false := by simp; omega
              clear hMT h15
              go_wp2
              go_quiet ((first
                | (go_at_call 22; with_reducible exact Calls.quiet_of (Q1.out _))
                | (go_at_call 22; with_reducible exact Calls.quiet_of (Q0.out _))
                | (go_at_call 11; with_reducible exact Calls.quiet_of (QM.out _))
                | (go_at_call 14; with_reducible exact Calls.quiet_of_same (QA.out _))))
              go_wp2
              go_ret
              exact ⟨rfl, below_drewN S6.out.1.below _⟩
    · have hno : polOr xs x = -1 := by
        cases he : elOk x
        · exact polOr_l he
        · cases hf : coOk xs
          · exact polOr_r hf
          · exact absurd ⟨he, hf⟩ hok
      obtain rfl : v = -1 := by rw [← HV.out, hno]
      clear HV hno hok
      go_wp2_with fail
      refine (alive_st w w3 S3.out.1).mono ?_
      rintro e w4 ⟨rfl, s4⟩
      have S4 := Lib.hid s4
      clear s4
      go_wp2
      go_ret
      exact ⟨rfl, S4.out.below⟩
  · go_enter Tryd.func6, Tryd.ntmps6
    go_wp2
    go_ret
    exact ⟨rfl, Below.refl _ _⟩
end Go.Proofs.YtlaofbaglepkgaaDoor
