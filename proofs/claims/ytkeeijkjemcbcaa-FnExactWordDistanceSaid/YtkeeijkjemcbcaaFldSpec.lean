/-
  What the models of FieldAdd, FieldMul, FieldInverse, FieldPower and PolynomialAt answer, for all numbers and lists. Condition: a list that can be read.
-/
import Derived.Test.YtkeeijkjemcbcaaFldMath
import Derived.Test.YtkeeijkjemcbcaaBits1
namespace Go.Proofs.Ytkeeijkjemcbcaa
open Go.RowKit

theorem l1In_el (a : Int) (w : World) (b : Bool) (h : elOk a = b) : Calls Try.prog 10 #[.int .i64 a, .int .i64 0, .int .i64 15] w fun e w' => e = .returned (.bool b) ∧ w = w' := by
  subst h; rw [← elOk_in]; exact l1In_any a 0 15 w
theorem l1In_ex (n : Int) (w : World) (b : Bool) (h : exOk n = b) : Calls Try.prog 10 #[.int .i64 n, .int .i64 0, .int .i64 1000] w fun e w' => e = .returned (.bool b) ∧ w = w' := by
  subst h; exact l1In_any n 0 1000 w

theorem l1In_15 (a : Int) (w : World) (b : Bool) (h : (decide (1 ≤ a) && decide (a ≤ 15)) = b) : Calls Try.prog 10 #[.int .i64 a, .int .i64 1, .int .i64 15] w fun e w' => e = .returned (.bool b) ∧ w = w' := by
  subst h; exact l1In_any a 1 15 w
end Go.Proofs.Ytkeeijkjemcbcaa
