/-
  What FieldAdd, FieldMul, FieldInverse, FieldPower and PolynomialAt answer, for all numbers and lists. Conditions: the program's two tables lie in their variables; a list that can be read.
-/
import Derived.Test.YtlaofbaglepkgaaDoorFld
import Derived.Test.YtlaofbaglepkgaaDoorBits1
namespace Go.Proofs.YtlaofbaglepkgaaDoor
open Go.RowKit

theorem isElement_is (a : Int) (w : World) (b : Bool) (h : elOk a = b) : Calls Tryd.prog 27 #[.int .i64 a] w fun e w' => e = .returned (.bool b) ∧ w = w' := by
  subst h; exact isElement_any a w

theorem fieldAdd_any (a b : Int) (w : World) : Calls Tryd.prog 14 #[.int .i64 a, .int .i64 b] w fun e w' => e = .returned (.int .i64 (addOr a b)) ∧ w = w' := by
  cases ha : elOk a
  · have HA := Lib.hid (isElement_is a w false ha)
    have HE := Lib.hid (addOr_l (b := b) ha)
    clear ha
    go_enter Tryd.func14, Tryd.ntmps14
    go_wp2_with (go_at_call 27; refine HA.out.mono ?_; rintro e w' ⟨rfl, rfl⟩)
    go_ret
    exact ⟨ret_int HE.out.symm, rfl⟩
  · cases hb : elOk b
    · have HA := Lib.hid (isElement_is a w true ha)
      have HB := Lib.hid (isElement_is b w false hb)
      have HE := Lib.hid (addOr_r (a := a) hb)
      clear ha hb
      go_enter Tryd.func14, Tryd.ntmps14
      go_wp2_with (go_at_call 27; (first | ((with_reducible refine HA.out.mono ?_); rintro e w' ⟨rfl, rfl⟩) | ((with_reducible refine HB.out.mono ?_); rintro e w' ⟨rfl, rfl⟩)))
      go_ret
      exact ⟨ret_int HE.out.symm, rfl⟩
    · have HA := Lib.hid (isElement_is a w true ha)
      have HB := Lib.hid (isElement_is b w true hb)
      obtain ⟨m, rfl, hm⟩ := elOk_nat ha
      obtain ⟨n, rfl, hn⟩ := elOk_nat hb
      have HE := Lib.hid (show bits .xor .i64 (m : Int) (n : Int) = addOr (m : Int) (n : Int) by rw [addOr_nat hm hn, xor_word m n (by omega) (by omega)])
      clear ha hb
      go_enter Tryd.func14, Tryd.ntmps14
      go_wp2_with (go_at_call 27; (first | ((with_reducible refine HA.out.mono ?_); rintro e w' ⟨rfl, rfl⟩) | ((with_reducible refine HB.out.mono ?_); rintro e w' ⟨rfl, rfl⟩)))
      go_ret
      exact ⟨ret_int HE.out, rfl⟩

theorem fieldMul_any (a b : Int) (w : World) (hT : Tabs2 w) : Calls Tryd.prog 11 #[.int .i64 a, .int .i64 b] w fun e w' => e = .returned (.int .i64 (mulOr a b)) ∧ ∃ n, w' = w.drewN n := by
  cases ha : elOk a
  · have HA := Lib.hid (isElement_is a w false ha)
    have HE := Lib.hid (mulOr_l (b := b) ha)
    clear ha hT
    go_enter Tryd.func11, Tryd.ntmps11
    go_wp2_with (go_at_call 27; refine HA.out.mono ?_; rintro e w' ⟨rfl, rfl⟩)
    go_ret
    exact ⟨ret_int HE.out.symm, 0, rfl⟩
  · cases hb : elOk b
    · have HA := Lib.hid (isElement_is a w true ha)
      have HB := Lib.hid (isElement_is b w false hb)
      have HE := Lib.hid (mulOr_r (a := a) hb)
      clear ha hb hT
      go_enter Tryd.func11, Tryd.ntmps11
      go_wp2_with (go_at_call 27; (first | ((with_reducible refine HA.out.mono ?_); rintro e w' ⟨rfl, rfl⟩) | ((with_reducible refine HB.out.mono ?_); rintro e w' ⟨rfl, rfl⟩)))
      go_ret
      exact ⟨ret_int HE.out.symm, 0, rfl⟩
    · have HA := Lib.hid (isElement_is a w true ha)
      have HB := Lib.hid (isElement_is b w true hb)
      obtain ⟨m, rfl, hm⟩ := elOk_nat ha
      obtain ⟨n, rfl, hn⟩ := elOk_nat hb
      have HE := Lib.hid (mulOr_nat hm hn)
      have HP := Lib.hid (fieldProduct_any m n w hT hm hn)
      clear ha hb hT
      go_enter Tryd.func11, Tryd.ntmps11
      go_wp2_with (first | (go_at_call 27; (first | ((with_reducible refine HA.out.mono ?_); rintro e w' ⟨rfl, rfl⟩) | ((with_reducible refine HB.out.mono ?_); rintro e w' ⟨rfl, rfl⟩))) | (go_at_call 28; refine HP.out.mono ?_; rintro e w' ⟨rfl, k, rfl⟩))
      go_ret
      exact ⟨ret_int HE.out.symm, k, rfl⟩

theorem fieldInverse_any (a : Int) (w : World) (hT : Tabs2 w) : Calls Tryd.prog 16 #[.int .i64 a] w fun e w' => e = .returned (.int .i64 (invOr a)) ∧ w = w' := by
  cases ha : elOk a
  · have HA := Lib.hid (isElement_is a w false ha)
    have HE := Lib.hid (invOr_no ha)
    clear ha hT
    go_enter Tryd.func16, Tryd.ntmps16
    go_wp2_with (go_at_call 27; refine HA.out.mono ?_; rintro e w' ⟨rfl, rfl⟩)
    go_ret
    exact ⟨ret_int HE.out.symm, rfl⟩
  · have HA := Lib.hid (isElement_is a w true ha)
    obtain ⟨m, rfl, hm⟩ := elOk_nat ha
    have he := invOr_nat hm
    by_cases h0 : m = 0
    · have z : ((m : Int) == 0) = true := by simp [h0]
      rw [show finv m = 0 by simp [finv, h0]] at he
      have HE := Lib.hid he
      clear ha hT h0 he
      go_enter Tryd.func16, Tryd.ntmps16
      go_wp2_with (go_at_call 27; refine HA.out.mono ?_; rintro e w' ⟨rfl, rfl⟩)
      go_ret
      exact ⟨ret_int HE.out.symm, rfl⟩
    · have z : ((m : Int) == 0) = false := by simp; omega
      have hc1 := hT.log hm
      have hl1 := logN_lt hm
      rw [show finv m = powN ((15 - logN m) % 15) by simp [finv, h0]] at he
      obtain ⟨p, hp⟩ : ∃ p, p = logN m := ⟨_, rfl⟩
      rw [← hp] at he hc1 hl1
      obtain ⟨i, hi⟩ : ∃ i, i = (15 - p) % 15 := ⟨_, rfl⟩
      rw [← hi] at he
      have hi15 : i < 15 := by omega
      have hc3 := hT.pow hi15
      have hr : (15 - (p : Int)) % 15 = (i : Int) := by omega
      have HE := Lib.hid he
      clear ha hT h0 he hp hi
      go_enter Tryd.func16, Tryd.ntmps16
      go_wp2_with (go_at_call 27; refine HA.out.mono ?_; rintro e w' ⟨rfl, rfl⟩)
      go_ret
      exact ⟨ret_int HE.out.symm, rfl⟩

theorem wrap64_small {n : Nat} (h : n < 9223372036854775808) : wrap64 (n : Int) = n := by unfold wrap64; omega
theorem exOk_no {n : Int} (h : exOk n = false) : n < 0 ∨ 1000 < n := by
  by_cases h0 : 0 ≤ n
  · simp [exOk, h0] at h; exact .inr h
  · exact .inl (by omega)
theorem exOk_nat {n : Int} (h : exOk n = true) : ∃ k : Nat, n = (k : Int) ∧ k ≤ 1000 := by
  have : 0 ≤ n ∧ n ≤ 1000 := by simpa [exOk] using h
  exact ⟨n.toNat, by omega, by omega⟩
set_option maxHeartbeats 400000 in
theorem fieldPower_any (a n : Int) (w : World) (hT : Tabs2 w) : Calls Tryd.prog 18 #[.int .i64 a, .int .i64 n] w fun e w' => e = .returned (.int .i64 (powOr a n)) ∧ w = w' := by
  cases ha : elOk a
  · have HA := Lib.hid (isElement_is a w false ha)
    have HE := Lib.hid (powOr_l (n := n) ha)
    clear ha hT
    go_enter Tryd.func18, Tryd.ntmps18
    go_wp2_with (go_at_call 27; refine HA.out.mono ?_; rintro e w' ⟨rfl, rfl⟩)
    go_ret
    exact ⟨ret_int HE.out.symm, rfl⟩
  · have HA := Lib.hid (isElement_is a w true ha)
    cases hn : exOk n
    · have HE := Lib.hid (powOr_r (a := a) hn)
      rcases exOk_no hn with h | h
      · clear ha hT hn
        go_enter Tryd.func18, Tryd.ntmps18
        go_wp2_with (go_at_call 27; refine HA.out.mono ?_; rintro e w' ⟨rfl, rfl⟩)
        go_ret
        exact ⟨ret_int HE.out.symm, rfl⟩
      · have h' : ¬ n < 0 := by omega
        clear ha hT hn
        go_enter Tryd.func18, Tryd.ntmps18
        go_wp2_with (go_at_call 27; refine HA.out.mono ?_; rintro e w' ⟨rfl, rfl⟩)
        go_ret
        exact ⟨ret_int HE.out.symm, rfl⟩
    · obtain ⟨m, rfl, hm⟩ := elOk_nat ha
      obtain ⟨k, rfl, hk⟩ := exOk_nat hn
      have he := powOr_nat hm hk
      clear ha hn
      by_cases hk0 : k = 0
      · have z : ((k : Int) == 0) = true := by simp [hk0]
        rw [show fpow m k = 1 by simp [fpow, hk0]] at he
        have HE := Lib.hid he
        clear hT hk0 he
        go_enter Tryd.func18, Tryd.ntmps18
        go_wp2_with (go_at_call 27; refine HA.out.mono ?_; rintro e w' ⟨rfl, rfl⟩)
        go_ret
        exact ⟨ret_int HE.out.symm, rfl⟩
      · have z : ((k : Int) == 0) = false := by simp; omega
        by_cases h0 : m = 0
        · have z1 : ((m : Int) == 0) = true := by simp [h0]
          rw [show fpow m k = 0 by simp [fpow, h0, hk0]] at he
          have HE := Lib.hid he
          clear hT hk0 he h0
          go_enter Tryd.func18, Tryd.ntmps18
          go_wp2_with (go_at_call 27; refine HA.out.mono ?_; rintro e w' ⟨rfl, rfl⟩)
          go_ret
          exact ⟨ret_int HE.out.symm, rfl⟩
        · have z1 : ((m : Int) == 0) = false := by simp; omega
          have hc1 := hT.log hm
          have hl1 := logN_lt hm
          rw [show fpow m k = powN (logN m * k % 15) by simp [fpow, h0, hk0]] at he
          obtain ⟨p, hp⟩ : ∃ p, p = logN m := ⟨_, rfl⟩
          rw [← hp] at he hc1 hl1
          obtain ⟨s, hs⟩ : ∃ s, s = p * k := ⟨_, rfl⟩
          have hs1 : s ≤ 14000 := by rw [hs]; exact Nat.mul_le_mul (show p ≤ 14 by omega) hk
          obtain ⟨i, hi⟩ : ∃ i, i = s % 15 := ⟨_, rfl⟩
          rw [← hs, ← hi] at he
          have hi15 : i < 15 := by omega
          have hc3 := hT.pow hi15
          have hr : (s : Int) % 15 = (i : Int) := by omega
          have hr2 : (s : Int).tmod 15 = (i : Int) := by rw [Int.tmod_eq_emod_of_nonneg (by omega), hr]
          have hr1 : wrap64 ((p : Int) * (k : Int)) = (s : Int) := by
            rw [hs, ← Int.natCast_mul]; rw [← hs]; exact wrap64_small (by omega)
          have HE := Lib.hid he
          clear hT h0 he hp hi hs hk0
          go_enter Tryd.func18, Tryd.ntmps18
          go_wp2_with (go_at_call 27; refine HA.out.mono ?_; rintro e w' ⟨rfl, rfl⟩)
          go_ret
          exact ⟨ret_int HE.out.symm, rfl⟩
end Go.Proofs.YtlaofbaglepkgaaDoor
