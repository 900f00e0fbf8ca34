/-
  What the models of FieldAdd, FieldMul, FieldInverse, FieldPower and PolynomialAt answer, for all numbers and lists. Condition: a list that can be read.
-/
import Derived.Test.YtkeeijkjemcbcaaDoorFldMath
import Derived.Test.YtkeeijkjemcbcaaDoorBits1
namespace Go.Proofs.YtkeeijkjemcbcaaDoor
open Go.RowKit

theorem l1In_el (a : Int) (w : World) (b : Bool) (h : elOk a = b) : Calls Tryd.prog 55 #[.int .i64 a, .int .i64 0, .int .i64 15] w fun e w' => e = .returned (.bool b) ∧ w = w' := by
  subst h; rw [← elOk_in]; exact l1In_any a 0 15 w
theorem l1In_ex (n : Int) (w : World) (b : Bool) (h : exOk n = b) : Calls Tryd.prog 55 #[.int .i64 n, .int .i64 0, .int .i64 1000] w fun e w' => e = .returned (.bool b) ∧ w = w' := by
  subst h; exact l1In_any n 0 1000 w

set_option maxHeartbeats 1000000 in
theorem l5Mul_any (a b : Nat) (w : World) (ha : a < 16) (hb : b < 16) : Calls Tryd.prog 39 #[.int .i64 a, .int .i64 b] w fun e w' => e = .returned (.int .i64 (fmul a b : Int)) ∧ w = w' := by
  obtain ⟨F, hF⟩ : ∃ F, F = fmul a b := ⟨_, rfl⟩
  rw [← hF]
  have HF := Lib.hid hF
  clear hF
  go_enter Tryd.func39, Tryd.ntmps39
  go_wp2
  go_loop [0, 1, 5] (fun s t u => ∃ p q n : Nat, s = .int .i64 p ∧ t = .int .i64 q ∧ u = .int .i64 n ∧ p < 16 ∧ q < 16 ∧ n < 16 ∧ n ^^^ fmul p q = F) (fun _ t _ => (intOf t).toNat)
  case atStart => exact ⟨a, b, 0, rfl, rfl, rfl, ha, hb, by omega, by rw [Nat.zero_xor, HF.out]⟩
  case round =>
    obtain ⟨p, q, n, rfl, rfl, rfl, hp, hq, hn, hinv⟩ := hrel
    have HI := Lib.hid hinv
    clear hinv
    by_cases hq0 : 0 < q
    · have hodd : q % 2 = 1 ∨ q % 2 = 0 := by omega
      obtain ⟨T, hT⟩ : ∃ T, T = twice p := ⟨_, rfl⟩
      have hT16 : T < 16 := by rw [hT]; exact twice_lt hp
      obtain ⟨m, hm⟩ : ∃ m, m = n ^^^ p := ⟨_, rfl⟩
      have hm16 : m < 16 := by rw [hm]; exact xor_lt hn hp
      have hx1 : bits .xor .i64 (n : Int) (p : Int) = (m : Int) := by rw [hm]; exact xor_word n p (by omega) (by omega)
      by_cases hbig : 16 ≤ 2 * p
      · have hx2 : bits .xor .i64 (2 * (p : Int)) 19 = (T : Int) := by
          rw [hT, twice, if_pos hbig]; exact xor_word (2 * p) 19 (by omega) (by omega)
        have hge : decide (16 ≤ 2 * (p : Int)) = true := by simp; omega
        rcases hodd with ho | ho
        · have HN := Lib.hid (show m ^^^ fmul T (q / 2) = F by rw [hm, hT, Nat.xor_assoc, ← fmul_odd hp hq ho, HI.out])
          have hm2 : (q : Int) % 2 = 1 := by omega
          clear hm hT ho hbig
          go_wp2
          go_round
          case rel => exact ⟨T, q / 2, m, rfl, by go_num, rfl, hT16, by omega, hm16, HN.out⟩
          case measure => simp [intOf]; omega
        · have HN := Lib.hid (show n ^^^ fmul T (q / 2) = F by rw [hT, ← fmul_even hp hq ho, HI.out])
          have hm2 : (q : Int) % 2 = 0 := by omega
          clear hm hT ho hbig
          go_wp2
          go_round
          case rel => exact ⟨T, q / 2, n, rfl, by go_num, rfl, hT16, by omega, hn, HN.out⟩
          case measure => simp [intOf]; omega
      · have HT := Lib.hid (show T = 2 * p by rw [hT, twice, if_neg hbig])
        have hge : decide (16 ≤ 2 * (p : Int)) = false := by simp; omega
        rcases hodd with ho | ho
        · have HN := Lib.hid (show m ^^^ fmul T (q / 2) = F by rw [hm, hT, Nat.xor_assoc, ← fmul_odd hp hq ho, HI.out])
          have hm2 : (q : Int) % 2 = 1 := by omega
          clear hm hT ho
          go_wp2
          go_round
          case rel => exact ⟨T, q / 2, m, by rw [HT.out]; go_num, by go_num, rfl, hT16, by omega, hm16, HN.out⟩
          case measure => simp [intOf]; omega
        · have HN := Lib.hid (show n ^^^ fmul T (q / 2) = F by rw [hT, ← fmul_even hp hq ho, HI.out])
          have hm2 : (q : Int) % 2 = 0 := by omega
          clear hm hT ho
          go_wp2
          go_round
          case rel => exact ⟨T, q / 2, n, by rw [HT.out]; go_num, by go_num, rfl, hT16, by omega, hn, HN.out⟩
          case measure => simp [intOf]; omega
    · obtain rfl : q = 0 := by omega
      have HN := Lib.hid (show n = F by have := HI.out; rwa [fmul_z, Nat.xor_zero] at this)
      go_wp2
      go_ret
      exact ⟨ret_int (by rw [HN.out]), rfl⟩
theorem l1In_15 (a : Int) (w : World) (b : Bool) (h : (decide (1 ≤ a) && decide (a ≤ 15)) = b) : Calls Tryd.prog 55 #[.int .i64 a, .int .i64 1, .int .i64 15] w fun e w' => e = .returned (.bool b) ∧ w = w' := by
  subst h; exact l1In_any a 1 15 w
set_option maxHeartbeats 400000 in
theorem specFieldInverse_any (a : Int) (w : World) : Calls Tryd.prog 65 #[.int .i64 a] w fun e w' => e = .returned (.int .i64 (invOr a)) ∧ w = w' := by
  cases hin : (decide (1 ≤ a) && decide (a ≤ 15))
  · have HA := Lib.hid (fun W => l1In_15 a W false hin)
    have HE : Hid (invOr a = 0) := by
      show invOr a = 0
      cases ho : elOk a
      · exact invOr_no ho
      · obtain ⟨m, rfl, hm⟩ := elOk_nat ho
        have : m = 0 := by
          by_cases h1 : m = 0
          · exact h1
          · have h2 : (1 : Int) ≤ m := by omega
            have h3 : (m : Int) ≤ 15 := by omega
            simp only [h2, h3, decide_true, Bool.and_self] at hin
            exact absurd hin (by decide)
        subst this
        rfl
    clear hin
    go_enter Tryd.func65, Tryd.ntmps65
    go_wp2
    go_loop [3] (fun i => ∃ k : Nat, k ≤ 16 ∧ i = .int .i64 k) (fun i => 16 - (intOf i).toNat)
    case atStart => exact ⟨1, by omega, rfl⟩
    case round =>
      obtain ⟨k, hk, rfl⟩ := hrel
      by_cases hlt : k < 16
      · go_wp2_with (go_at_call 55; refine (HA.out _).mono ?_; rintro e w' ⟨rfl, rfl⟩)
        go_round
        case rel => exact ⟨k + 1, by omega, by go_num⟩
        case measure => simp [intOf]; omega
      · go_wp2
        go_ret
        exact ⟨ret_int HE.out.symm, rfl⟩
  · have HA := Lib.hid (fun W => l1In_15 a W true hin)
    simp only [Bool.and_eq_true, decide_eq_true_eq] at hin
    obtain ⟨m, rfl⟩ : ∃ m : Nat, a = (m : Int) := ⟨a.toNat, by omega⟩
    have hm : m < 16 := by omega
    have hm1 : 1 ≤ m := by omega
    have he := invOr_nat hm
    have hf1 := finv_pos hm hm1
    have hf2 := finv_lt hm
    have hone := finv_mul hm hm1
    have hno : ∀ b, b < 16 → fmul m b = 1 → b = finv m := fun b hb => finv_one hm hb
    generalize finv m = F at *
    have HE := Lib.hid he
    have HO := Lib.hid hone
    have HN := Lib.hid hno
    clear hin he hone hno
    go_enter Tryd.func65, Tryd.ntmps65
    go_wp2
    go_loop [3] (fun i => ∃ k : Nat, k ≤ F ∧ i = .int .i64 k) (fun i => 16 - (intOf i).toNat)
    case atStart => exact ⟨1, hf1, rfl⟩
    case round =>
      obtain ⟨k, hk, rfl⟩ := hrel
      have hlt : k < 16 := by omega
      have hM := l5Mul_any m k w hm hlt
      by_cases heq : k = F
      · have z : ((fmul m k : Int) == 1) = true := by rw [heq, HO.out]; rfl
        have HQ := Lib.hid heq
        have HM := Lib.hid hM
        clear heq hM
        generalize fmul m k = q at *
        go_wp2_with (first | (go_at_call 55; refine (HA.out _).mono ?_; rintro e w' ⟨rfl, rfl⟩) | (go_at_call 39; refine HM.out.mono ?_; rintro e w' ⟨rfl, rfl⟩))
        go_ret
        exact ⟨ret_int (by rw [HE.out, HQ.out]), rfl⟩
      · have hq1 : fmul m k ≠ 1 := fun h => heq (HN.out k hlt h)
        have z : ((fmul m k : Int) == 1) = false := by rw [beq_eq_false_iff_ne]; intro h; exact hq1 (by omega)
        have HM := Lib.hid hM
        clear hM hq1
        generalize fmul m k = q at *
        go_wp2_with (first | (go_at_call 55; refine (HA.out _).mono ?_; rintro e w' ⟨rfl, rfl⟩) | (go_at_call 39; refine HM.out.mono ?_; rintro e w' ⟨rfl, rfl⟩))
        go_round
        case rel => exact ⟨k + 1, by omega, by go_num⟩
        case measure => simp [intOf]; omega

set_option maxHeartbeats 400000 in
theorem specFieldPower_any (a n : Int) (w : World) : Calls Tryd.prog 64 #[.int .i64 a, .int .i64 n] w fun e w' => e = .returned (.int .i64 (powOr a n)) ∧ w = w' := by
  cases ha : elOk a
  · have HA := Lib.hid (l1In_el a w false ha)
    have HE := Lib.hid (powOr_l (n := n) ha)
    clear ha
    go_enter Tryd.func64, Tryd.ntmps64
    go_wp2_with (go_at_call 55; refine HA.out.mono ?_; rintro e w' ⟨rfl, rfl⟩)
    go_ret
    exact ⟨ret_int HE.out.symm, rfl⟩
  · cases hn : exOk n
    · have HA := Lib.hid (l1In_el a w true ha)
      have HB := Lib.hid (l1In_ex n w false hn)
      have HE := Lib.hid (powOr_r (a := a) hn)
      clear ha hn
      go_enter Tryd.func64, Tryd.ntmps64
      go_wp2_with (go_at_call 55; (first | ((with_reducible refine HA.out.mono ?_); rintro e w' ⟨rfl, rfl⟩) | ((with_reducible refine HB.out.mono ?_); rintro e w' ⟨rfl, rfl⟩)))
      go_ret
      exact ⟨ret_int HE.out.symm, rfl⟩
    · have HA := Lib.hid (l1In_el a w true ha)
      have HB := Lib.hid (l1In_ex n w true hn)
      obtain ⟨m, rfl, hm⟩ := elOk_nat ha
      have hk' : 0 ≤ n ∧ n ≤ 1000 := by simpa [exOk] using hn
      obtain ⟨k, rfl⟩ : ∃ k : Nat, n = (k : Int) := ⟨n.toNat, by omega⟩
      have hk : k ≤ 1000 := by omega
      have HE := Lib.hid (powOr_nat hm hk)
      clear ha hn hk'
      go_enter Tryd.func64, Tryd.ntmps64
      go_wp2_with (go_at_call 55; (first | ((with_reducible refine HA.out.mono ?_); rintro e w' ⟨rfl, rfl⟩) | ((with_reducible refine HB.out.mono ?_); rintro e w' ⟨rfl, rfl⟩)))
      go_loop [5, 6] (fun s i => ∃ j p : Nat, j ≤ k ∧ i = .int .i64 j ∧ s = .int .i64 p ∧ p < 16 ∧ p = fpow m j) (fun _ i => k - (intOf i).toNat)
      case atStart => exact ⟨0, 1, Nat.zero_le _, rfl, rfl, by omega, rfl⟩
      case round =>
        obtain ⟨j, p, hj, rfl, rfl, hp, hpp⟩ := hrel
        have HP := Lib.hid hpp
        clear hpp
        by_cases hlt : j < k
        · have HM := Lib.hid (l5Mul_any p m w hp hm)
          have HQ := Lib.hid (show fmul p m = fpow m (j + 1) by rw [fpow_succ j hm, HP.out])
          have hq16 := fmul_lt hp hm
          generalize fmul p m = q at *
          go_wp2_with (go_at_call 39; refine HM.out.mono ?_; rintro e w' ⟨rfl, rfl⟩)
          go_round
          case rel => exact ⟨j + 1, q, by omega, by go_num, rfl, hq16, HQ.out⟩
          case measure => simp [intOf]; omega
        · obtain rfl : k = j := by omega
          go_wp2
          go_ret
          exact ⟨ret_int (by rw [HE.out, HP.out]), rfl⟩

theorem l5Mul_q (a b : Nat) (w : World) (ha : a < 16) (hb : b < 16) : Calls Tryd.prog 39 #[.int .i64 a, .int .i64 b] w fun e w' => e = .returned (.int .i64 (fmul a b : Int)) ∧ w' = w := (l5Mul_any a b w ha hb).mono fun _ _ ⟨h1, h2⟩ => ⟨h1, h2.symm⟩
set_option maxHeartbeats 1000000 in
theorem specPolynomialAt_any (a : Option Addr) (c B : Nat) (xs : List Int) (x : Int) (w : World) (hx : Ints .i64 w B a xs) :
    Calls Tryd.prog 44 #[.slice a xs.length c, .int .i64 x] w fun e w' => e = .returned (.int .i64 (polOr xs x)) ∧ ∃ n, w' = w.drewN n := by
  cases hxo : elOk x
  · have HA := Lib.hid (l1In_el x w false hxo)
    have HE := Lib.hid (polOr_l (xs := xs) hxo)
    clear hx hxo
    go_enter Tryd.func44, Tryd.ntmps44
    go_wp2_with (go_at_call 55; refine HA.out.mono ?_; rintro e w' ⟨rfl, rfl⟩)
    go_ret
    exact ⟨ret_int HE.out.symm, 0, rfl⟩
  · have HA := Lib.hid (l1In_el x w true hxo)
    by_cases hl : xs.length ≤ 15
    · obtain ⟨y, rfl, hy⟩ := elOk_nat hxo
      have HX := Lib.hid hx
      clear hx hxo
      go_enter Tryd.func44, Tryd.ntmps44
      go_wp2_with (go_at_call 55; refine HA.out.mono ?_; rintro e w' ⟨rfl, rfl⟩)
      go_loopw [5, 6] (fun s i wr => ∃ k n v : Nat, k ≤ xs.length ∧ i = .int .i64 k ∧ s = .int .i64 v ∧ v < 16 ∧ v = pol (co xs) y k ∧ (xs.take k).all elOk = true ∧ wr = w.drewN n) (fun _ i _ => xs.length - (intOf i).toNat)
      case atStart => exact ⟨0, 0, 0, Nat.zero_le _, rfl, rfl, by omega, rfl, by simp, rfl⟩
      case round =>
        obtain ⟨k, n, v, hk, rfl, rfl, hv, hvv, hall, hwr⟩ := hrel
        have HV := Lib.hid hvv
        have HL := Lib.hid hall
        have HX' : Hid (Ints .i64 wr B a xs) := by show Ints .i64 wr B a xs; rw [hwr]; exact HX.out
        have HW := Lib.hid hwr
        clear hvv hall hwr
        by_cases hlt : k < xs.length
        · obtain ⟨b, off, rfl, hb, hc⟩ := HX'.out.at_ hlt
          cases he : elOk (el xs k)
          · have HI := Lib.hid (l1In_el (el xs k) wr false he)
            have HE := Lib.hid (polOr_r (xs := xs) (x := (y : Int)) (by simp [coOk, all_false elOk xs k hlt he]))
            clear he
            go_wp2_with (go_at_call 55; refine HI.out.mono ?_; rintro e w' ⟨rfl, rfl⟩)
            go_ret
            exact ⟨ret_int HE.out.symm, _, HW.out⟩
          · have HN := Lib.hid (all_take_succ elOk xs k hlt HL.out he)
            obtain ⟨q, hq, hq16⟩ := elOk_nat he
            rw [hq] at hc he
            have hqc : co xs k = q := by unfold co; rw [hq]; rfl
            have HI := Lib.hid (l1In_el (q : Int) wr true he)
            have hP := fun W => l5Mul_q v y W hv hy
            have hf := fmul_lt hv hy
            have hpol : pol (co xs) y (k + 1) = fmul v y ^^^ q := by rw [pol, hqc, HV.out]
            obtain ⟨f, hff⟩ : ∃ f, f = fmul v y := ⟨_, rfl⟩
            rw [← hff] at hP hf hpol
            obtain ⟨r, hr⟩ : ∃ r, r = f ^^^ q := ⟨_, rfl⟩
            have hr16 : r < 16 := by rw [hr]; exact xor_lt hf hq16
            have hxor : bits .xor .i64 (f : Int) (q : Int) = (r : Int) := by rw [hr]; exact xor_word f q (by omega) (by omega)
            rw [← hr] at hpol
            have HR := Lib.hid hpol.symm
            have HP := Lib.hid hP
            clear he hq hqc hff hr hpol hP
            go_wp2_with (go_at_call 55; refine HI.out.mono ?_; rintro e w' ⟨rfl, rfl⟩)
            go_quiet ((go_at_call 39; exact Calls.quiet_of_same (HP.out _)))
            go_wp2
            go_roundw
            case rel => exact ⟨k + 1, _, r, by omega, by go_num, rfl, hr16, HR.out, HN.out, by rw [HW.out, World.drewN_drewN]⟩
            case measure => simp [intOf]; omega
        · obtain rfl : xs.length = k := by omega
          have HE := Lib.hid (show polOr xs (y : Int) = (v : Int) by
            have h := HL.out
            rw [List.take_length] at h
            rw [polOr_nat hy (by simp [coOk, h, hl]), HV.out])
          go_wp2
          go_ret
          exact ⟨ret_int HE.out.symm, _, HW.out⟩
    · have hl' : 15 < xs.length := by omega
      have HE := Lib.hid (polOr_r (xs := xs) (x := x) (by simp [coOk, hl]))
      clear hx hxo hl
      go_enter Tryd.func44, Tryd.ntmps44
      go_wp2_with (go_at_call 55; refine HA.out.mono ?_; rintro e w' ⟨rfl, rfl⟩)
      go_ret
      exact ⟨ret_int HE.out.symm, 0, rfl⟩
end Go.Proofs.YtkeeijkjemcbcaaDoor
