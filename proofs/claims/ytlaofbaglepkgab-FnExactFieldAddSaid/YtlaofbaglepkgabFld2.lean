/-
  What FieldAdd, FieldMul, FieldInverse, FieldPower and PolynomialAt answer, for all numbers and lists. Conditions: the program's two tables lie in their variables; a list that can be read.
-/
import Derived.Test.YtlaofbaglepkgabFld
import Derived.Test.YtlaofbaglepkgabBits1
namespace Go.Proofs.Ytlaofbaglepkgab
open Go.RowKit

theorem isElement_is (a : Int) (w : World) (b : Bool) (h : elOk a = b) : Calls Try.prog 7 #[.int .i64 a] w fun e w' => e = .returned (.bool b) ∧ w = w' := by
  subst h; exact isElement_any a w

theorem fieldAdd_any (a b : Int) (w : World) : Calls Try.prog 5 #[.int .i64 a, .int .i64 b] w fun e w' => e = .returned (.int .i64 (addOr a b)) ∧ w = w' := by
  cases ha : elOk a
  · have HA := Lib.hid (isElement_is a w false ha)
    have HE := Lib.hid (addOr_l (b := b) ha)
    clear ha
    go_enter Try.func5, Try.ntmps5
    go_wp2_with (go_at_call 7; refine HA.out.mono ?_; rintro e w' ⟨rfl, rfl⟩)
    go_ret
    exact ⟨ret_int HE.out.symm, rfl⟩
  · cases hb : elOk b
    · have HA := Lib.hid (isElement_is a w true ha)
      have HB := Lib.hid (isElement_is b w false hb)
      have HE := Lib.hid (addOr_r (a := a) hb)
      clear ha hb
      go_enter Try.func5, Try.ntmps5
      go_wp2_with (go_at_call 7; (first | ((with_reducible refine HA.out.mono ?_); rintro e w' ⟨rfl, rfl⟩) | ((with_reducible refine HB.out.mono ?_); rintro e w' ⟨rfl, rfl⟩)))
      go_ret
      exact ⟨ret_int HE.out.symm, rfl⟩
    · have HA := Lib.hid (isElement_is a w true ha)
      have HB := Lib.hid (isElement_is b w true hb)
      obtain ⟨m, rfl, hm⟩ := elOk_nat ha
      obtain ⟨n, rfl, hn⟩ := elOk_nat hb
      have HE := Lib.hid (show bits .xor .i64 (m : Int) (n : Int) = addOr (m : Int) (n : Int) by rw [addOr_nat hm hn, xor_word m n (by omega) (by omega)])
      clear ha hb
      go_enter Try.func5, Try.ntmps5
      go_wp2_with (go_at_call 7; (first | ((with_reducible refine HA.out.mono ?_); rintro e w' ⟨rfl, rfl⟩) | ((with_reducible refine HB.out.mono ?_); rintro e w' ⟨rfl, rfl⟩)))
      go_ret
      exact ⟨ret_int HE.out, rfl⟩

theorem wrap64_small {n : Nat} (h : n < 9223372036854775808) : wrap64 (n : Int) = n := by unfold wrap64; omega
theorem exOk_no {n : Int} (h : exOk n = false) : n < 0 ∨ 1000 < n := by
  by_cases h0 : 0 ≤ n
  · simp [exOk, h0] at h; exact .inr h
  · exact .inl (by omega)
theorem exOk_nat {n : Int} (h : exOk n = true) : ∃ k : Nat, n = (k : Int) ∧ k ≤ 1000 := by
  have : 0 ≤ n ∧ n ≤ 1000 := by simpa [exOk] using h
  exact ⟨n.toNat, by omega, by omega⟩
end Go.Proofs.Ytlaofbaglepkgab
