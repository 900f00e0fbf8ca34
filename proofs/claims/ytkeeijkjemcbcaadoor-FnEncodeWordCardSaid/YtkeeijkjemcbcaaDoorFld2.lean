/-
  What FieldAdd, FieldMul, FieldInverse, FieldPower and PolynomialAt answer, for all numbers and lists. Conditions: the program's two tables lie in their variables; a list that can be read.
-/
import Derived.Test.YtkeeijkjemcbcaaDoorFld
import Derived.Test.YtkeeijkjemcbcaaDoorBits1
namespace Go.Proofs.YtkeeijkjemcbcaaDoor
open Go.RowKit

theorem isElement_is (a : Int) (w : World) (b : Bool) (h : elOk a = b) : Calls Tryd.prog 41 #[.int .i64 a] w fun e w' => e = .returned (.bool b) ∧ w = w' := by
  subst h; exact isElement_any a w

theorem fieldAdd_any (a b : Int) (w : World) : Calls Tryd.prog 18 #[.int .i64 a, .int .i64 b] w fun e w' => e = .returned (.int .i64 (addOr a b)) ∧ w = w' := by
  cases ha : elOk a
  · have HA := Lib.hid (isElement_is a w false ha)
    have HE := Lib.hid (addOr_l (b := b) ha)
    clear ha
    go_enter Tryd.func18, Tryd.ntmps18
    go_wp2_with (go_at_call 41; refine HA.out.mono ?_; rintro e w' ⟨rfl, rfl⟩)
    go_ret
    exact ⟨ret_int HE.out.symm, rfl⟩
  · cases hb : elOk b
    · have HA := Lib.hid (isElement_is a w true ha)
      have HB := Lib.hid (isElement_is b w false hb)
      have HE := Lib.hid (addOr_r (a := a) hb)
      clear ha hb
      go_enter Tryd.func18, Tryd.ntmps18
      go_wp2_with (go_at_call 41; (first | ((with_reducible refine HA.out.mono ?_); rintro e w' ⟨rfl, rfl⟩) | ((with_reducible refine HB.out.mono ?_); rintro e w' ⟨rfl, rfl⟩)))
      go_ret
      exact ⟨ret_int HE.out.symm, rfl⟩
    · have HA := Lib.hid (isElement_is a w true ha)
      have HB := Lib.hid (isElement_is b w true hb)
      obtain ⟨m, rfl, hm⟩ := elOk_nat ha
      obtain ⟨n, rfl, hn⟩ := elOk_nat hb
      have HE := Lib.hid (show bits .xor .i64 (m : Int) (n : Int) = addOr (m : Int) (n : Int) by rw [addOr_nat hm hn, xor_word m n (by omega) (by omega)])
      clear ha hb
      go_enter Tryd.func18, Tryd.ntmps18
      go_wp2_with (go_at_call 41; (first | ((with_reducible refine HA.out.mono ?_); rintro e w' ⟨rfl, rfl⟩) | ((with_reducible refine HB.out.mono ?_); rintro e w' ⟨rfl, rfl⟩)))
      go_ret
      exact ⟨ret_int HE.out, rfl⟩

theorem fieldInverse_any (a : Int) (w : World) (hT : Tabs2 w) : Calls Tryd.prog 68 #[.int .i64 a] w fun e w' => e = .returned (.int .i64 (invOr a)) ∧ w = w' := by
  cases ha : elOk a
  · have HA := Lib.hid (isElement_is a w false ha)
    have HE := Lib.hid (invOr_no ha)
    clear ha hT
    go_enter Tryd.func68, Tryd.ntmps68
    go_wp2_with (go_at_call 41; refine HA.out.mono ?_; rintro e w' ⟨rfl, rfl⟩)
    go_ret
    exact ⟨ret_int HE.out.symm, rfl⟩
  · have HA := Lib.hid (isElement_is a w true ha)
    obtain ⟨m, rfl, hm⟩ := elOk_nat ha
    have he := invOr_nat hm
    by_cases h0 : m = 0
    · have z : ((m : Int) == 0) = true := by simp [h0]
      rw [show finv m = 0 by simp [finv, h0]] at he
      have HE := Lib.hid he
      clear ha hT h0 he
      go_enter Tryd.func68, Tryd.ntmps68
      go_wp2_with (go_at_call 41; refine HA.out.mono ?_; rintro e w' ⟨rfl, rfl⟩)
      go_ret
      exact ⟨ret_int HE.out.symm, rfl⟩
    · have z : ((m : Int) == 0) = false := by simp; omega
      have hc1 := hT.log hm
      have hl1 := logN_lt hm
      rw [show finv m = powN ((15 - logN m) % 15) by simp [finv, h0]] at he
      obtain ⟨p, hp⟩ : ∃ p, p = logN m := ⟨_, rfl⟩
      rw [← hp] at he hc1 hl1
      obtain ⟨i, hi⟩ : ∃ i, i = (15 - p) % 15 := ⟨_, rfl⟩
      rw [← hi] at he
      have hi15 : i < 15 := by omega
      have hc3 := hT.pow hi15
      have hr : (15 - (p : Int)) % 15 = (i : Int) := by omega
      have HE := Lib.hid he
      clear ha hT h0 he hp hi
      go_enter Tryd.func68, Tryd.ntmps68
      go_wp2_with (go_at_call 41; refine HA.out.mono ?_; rintro e w' ⟨rfl, rfl⟩)
      go_ret
      exact ⟨ret_int HE.out.symm, rfl⟩

theorem wrap64_small {n : Nat} (h : n < 9223372036854775808) : wrap64 (n : Int) = n := by unfold wrap64; omega
theorem exOk_no {n : Int} (h : exOk n = false) : n < 0 ∨ 1000 < n := by
  by_cases h0 : 0 ≤ n
  · simp [exOk, h0] at h; exact .inr h
  · exact .inl (by omega)
theorem exOk_nat {n : Int} (h : exOk n = true) : ∃ k : Nat, n = (k : Int) ∧ k ≤ 1000 := by
  have : 0 ≤ n ∧ n ≤ 1000 := by simpa [exOk] using h
  exact ⟨n.toNat, by omega, by omega⟩
end Go.Proofs.YtkeeijkjemcbcaaDoor
