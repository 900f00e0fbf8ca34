/-
  What the functions of the finite field answer, for all numbers and lists. Conditions: the program's two tables lie in their variables; a list that can be read.
-/
import Derived.Test.YtlaofbaglepkgaaFldMath
import Derived.Lib.LaidTab
namespace Go.Proofs.Ytlaofbaglepkgaa
open Go.RowKit

theorem isElement_any (a : Int) (w : World) : Calls Try.prog 10 #[.int .i64 a] w fun e w' => e = .returned (.bool (elOk a)) ∧ w = w' := by
  by_cases h1 : 0 ≤ a <;> by_cases h2 : a < 16
  all_goals
    go_enter Try.func10, Try.ntmps10
    go_wp2
    go_ret
    exact ⟨by simp [elOk, *], rfl⟩

end Go.Proofs.Ytlaofbaglepkgaa
