/-
  What the functions of the finite field answer, for all numbers and lists. Conditions: the program's two tables lie in their variables; a list that can be read.
-/
import Derived.Test.YtkeeijkjemcbcaaFldMath
import Derived.Lib.LaidTab
namespace Go.Proofs.Ytkeeijkjemcbcaa
open Go.RowKit

theorem isElement_any (a : Int) (w : World) : Calls Try.prog 11 #[.int .i64 a] w fun e w' => e = .returned (.bool (elOk a)) ∧ w = w' := by
  by_cases h1 : 0 ≤ a <;> by_cases h2 : a < 16
  all_goals
    go_enter Try.func11, Try.ntmps11
    go_wp2
    go_ret
    exact ⟨by simp [elOk, *], rfl⟩

end Go.Proofs.Ytkeeijkjemcbcaa
