/-
  What the models of FieldAdd, FieldMul, FieldInverse, FieldPower and PolynomialAt answer, for all numbers and lists. Condition: a list that can be read.
-/
import Derived.Test.YtlaofbaglepkgabFldMath
import Derived.Test.YtlaofbaglepkgabBits1
namespace Go.Proofs.Ytlaofbaglepkgab
open Go.RowKit

theorem l1In_el (a : Int) (w : World) (b : Bool) (h : elOk a = b) : Calls Try.prog 6 #[.int .i64 a, .int .i64 0, .int .i64 15] w fun e w' => e = .returned (.bool b) ∧ w = w' := by
  subst h; rw [← elOk_in]; exact l1In_any a 0 15 w
theorem l1In_ex (n : Int) (w : World) (b : Bool) (h : exOk n = b) : Calls Try.prog 6 #[.int .i64 n, .int .i64 0, .int .i64 1000] w fun e w' => e = .returned (.bool b) ∧ w = w' := by
  subst h; exact l1In_any n 0 1000 w

theorem specFieldAdd_any (a b : Int) (w : World) : Calls Try.prog 4 #[.int .i64 a, .int .i64 b] w fun e w' => e = .returned (.int .i64 (addOr a b)) ∧ w = w' := by
  cases ha : elOk a
  · have HA := Lib.hid (l1In_el a w false ha)
    have HE := Lib.hid (addOr_l (b := b) ha)
    clear ha
    go_enter Try.func4, Try.ntmps4
    go_wp2_with (go_at_call 6; refine HA.out.mono ?_; rintro e w' ⟨rfl, rfl⟩)
    go_ret
    exact ⟨ret_int HE.out.symm, rfl⟩
  · cases hb : elOk b
    · have HA := Lib.hid (l1In_el a w true ha)
      have HB := Lib.hid (l1In_el b w false hb)
      have HE := Lib.hid (addOr_r (a := a) hb)
      clear ha hb
      go_enter Try.func4, Try.ntmps4
      go_wp2_with (go_at_call 6; (first | ((with_reducible refine HA.out.mono ?_); rintro e w' ⟨rfl, rfl⟩) | ((with_reducible refine HB.out.mono ?_); rintro e w' ⟨rfl, rfl⟩)))
      go_ret
      exact ⟨ret_int HE.out.symm, rfl⟩
    · have HA := Lib.hid (l1In_el a w true ha)
      have HB := Lib.hid (l1In_el b w true hb)
      obtain ⟨m, rfl, hm⟩ := elOk_nat ha
      obtain ⟨n, rfl, hn⟩ := elOk_nat hb
      have HE := Lib.hid (show bits .xor .i64 (m : Int) (n : Int) = addOr (m : Int) (n : Int) by rw [addOr_nat hm hn, xor_word m n (by omega) (by omega)])
      clear ha hb
      go_enter Try.func4, Try.ntmps4
      go_wp2_with (go_at_call 6; (first | ((with_reducible refine HA.out.mono ?_); rintro e w' ⟨rfl, rfl⟩) | ((with_reducible refine HB.out.mono ?_); rintro e w' ⟨rfl, rfl⟩)))
      go_ret
      exact ⟨ret_int HE.out, rfl⟩

theorem l1In_15 (a : Int) (w : World) (b : Bool) (h : (decide (1 ≤ a) && decide (a ≤ 15)) = b) : Calls Try.prog 6 #[.int .i64 a, .int .i64 1, .int .i64 15] w fun e w' => e = .returned (.bool b) ∧ w = w' := by
  subst h; exact l1In_any a 1 15 w
end Go.Proofs.Ytlaofbaglepkgab
