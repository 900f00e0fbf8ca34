/-
  The laws of the exactness of FieldAdd, FieldMul, FieldInverse, FieldPower and PolynomialAt, walked: they return true for all numbers and lists, and write into nothing that was there. Conditions: the program's two tables lie in their variables, where they are asked.
-/
import Derived.Test.YtlaofbaglepkgabFld2
import Derived.Test.YtlaofbaglepkgabFldSpec
import Derived.Test.YtlaofbaglepkgabOne
namespace Go.Proofs.Ytlaofbaglepkgab
open Go.RowKit

theorem walkExactFieldAdd (a b : Int) (w : World) : Calls Try.prog 3 #[.int .i64 a, .int .i64 b] w fun e w' => e = .returned (.bool true) ∧ w = w' := by
  have HS := Lib.hid (specFieldAdd_any a b w)
  have HI := Lib.hid (fieldAdd_any a b w)
  generalize addOr a b = R at *
  have z : (R != R) = false := by simp
  go_enter Try.func3, Try.ntmps3
  go_wp2_with (first | (go_at_call 4; refine HS.out.mono ?_; rintro e w' ⟨rfl, rfl⟩) | (go_at_call 5; refine HI.out.mono ?_; rintro e w' ⟨rfl, rfl⟩))
  go_ret
  exact ⟨rfl, rfl⟩
end Go.Proofs.Ytlaofbaglepkgab
