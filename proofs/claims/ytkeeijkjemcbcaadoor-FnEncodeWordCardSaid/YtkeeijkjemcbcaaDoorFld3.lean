/-
  What PolynomialAt answers, for every list and number. Conditions: the program's two tables lie in their variables; a list that can be read.
-/
import Derived.Test.YtkeeijkjemcbcaaDoorFld2
namespace Go.Proofs.YtkeeijkjemcbcaaDoor
open Go.RowKit

set_option maxHeartbeats 1000000 in
theorem polynomialAt_any (a : Option Addr) (c B : Nat) (xs : List Int) (x : Int) (w : World) (hx : Ints .i64 w B a xs) (hT : Tabs2 w) :
    Calls Tryd.prog 59 #[.slice a xs.length c, .int .i64 x] w fun e w' => e = .returned (.int .i64 (polOr xs x)) ∧ ∃ n, w' = w.drewN n := by
  cases hxo : elOk x
  · have HA := Lib.hid (isElement_is x w false hxo)
    have HE := Lib.hid (polOr_l (xs := xs) hxo)
    clear hx hT hxo
    go_enter Tryd.func59, Tryd.ntmps59
    go_wp2_with (go_at_call 41; refine HA.out.mono ?_; rintro e w' ⟨rfl, rfl⟩)
    go_ret
    exact ⟨ret_int HE.out.symm, 0, rfl⟩
  · have HA := Lib.hid (isElement_is x w true hxo)
    by_cases hl : xs.length ≤ 15
    · obtain ⟨y, rfl, hy⟩ := elOk_nat hxo
      have HX := Lib.hid hx
      have HT := Lib.hid hT
      clear hx hT hxo
      go_enter Tryd.func59, Tryd.ntmps59
      go_wp2_with (go_at_call 41; refine HA.out.mono ?_; rintro e w' ⟨rfl, rfl⟩)
      go_loopw [5, 18] (fun s i wr => ∃ k n v : Nat, k ≤ xs.length ∧ i = .int .i64 k ∧ s = .int .i64 v ∧ v < 16 ∧ v = pol (co xs) y k ∧ (xs.take k).all elOk = true ∧ wr = w.drewN n) (fun _ i _ => xs.length - (intOf i).toNat)
      case atStart => exact ⟨0, 0, 0, Nat.zero_le _, rfl, rfl, by omega, rfl, by simp, rfl⟩
      case round =>
        obtain ⟨k, n, v, hk, rfl, rfl, hv, hvv, hall, rfl⟩ := hrel
        have HV := Lib.hid hvv
        have HL := Lib.hid hall
        clear hvv hall
        by_cases hlt : k < xs.length
        · obtain ⟨b, off, rfl, hb, hc⟩ := HX.out.at_ hlt
          cases he : elOk (el xs k)
          · have HI := Lib.hid (isElement_is (el xs k) (w.drewN n) false he)
            have HE := Lib.hid (polOr_r (xs := xs) (x := (y : Int)) (by simp [coOk, all_false elOk xs k hlt he]))
            clear he
            go_wp2_with (go_at_call 41; refine HI.out.mono ?_; rintro e w' ⟨rfl, rfl⟩)
            go_ret
            exact ⟨ret_int HE.out.symm, _, rfl⟩
          · have HN := Lib.hid (all_take_succ elOk xs k hlt HL.out he)
            obtain ⟨q, hq, hq16⟩ := elOk_nat he
            rw [hq] at hc he
            have hqc : co xs k = q := by unfold co; rw [hq]; rfl
            have HI := Lib.hid (isElement_is (q : Int) (w.drewN n) true he)
            have HP := Lib.hid (fieldProduct_any v y (w.drewN n) (HT.out.drewN n) hv hy)
            have hf := fmul_lt hv hy
            have hpol : pol (co xs) y (k + 1) = fmul v y ^^^ q := by rw [pol, hqc, HV.out]
            obtain ⟨f, hff⟩ : ∃ f, f = fmul v y := ⟨_, rfl⟩
            rw [← hff] at HP hf hpol
            obtain ⟨r, hr⟩ : ∃ r, r = f ^^^ q := ⟨_, rfl⟩
            have hr16 : r < 16 := by rw [hr]; exact xor_lt hf hq16
            have hxor : bits .xor .i64 (f : Int) (q : Int) = (r : Int) := by rw [hr]; exact xor_word f q (by omega) (by omega)
            rw [← hr] at hpol
            have HR := Lib.hid hpol.symm
            clear he hq hqc hff hr hpol
            go_wp2_with (first | (go_at_call 41; refine HI.out.mono ?_; rintro e w' ⟨rfl, rfl⟩) | (go_at_call 53; refine HP.out.mono ?_; rintro e w' ⟨rfl, m, rfl⟩))
            go_roundw
            case rel => exact ⟨k + 1, _, r, by omega, by go_num, rfl, hr16, HR.out, HN.out, rfl⟩
            case measure => simp [intOf]; omega
        · obtain rfl : xs.length = k := by omega
          have HE := Lib.hid (show polOr xs (y : Int) = (v : Int) by
            have h := HL.out
            rw [List.take_length] at h
            rw [polOr_nat hy (by simp [coOk, h, hl]), HV.out])
          go_wp2
          go_ret
          exact ⟨ret_int HE.out.symm, _, rfl⟩
    · have hl' : 15 < xs.length := by omega
      have HE := Lib.hid (polOr_r (xs := xs) (x := x) (by simp [coOk, hl]))
      clear hx hT hxo hl
      go_enter Tryd.func59, Tryd.ntmps59
      go_wp2_with (go_at_call 41; refine HA.out.mono ?_; rintro e w' ⟨rfl, rfl⟩)
      go_ret
      exact ⟨ret_int HE.out.symm, 0, rfl⟩
end Go.Proofs.YtkeeijkjemcbcaaDoor
