/-
  The closed facts of the row of FnExactWordDistance. No condition.
-/
import Derived.Test.YtkeeijkjemcbcaaRows
import Derived.JoinedOf
import Derived.KernelRfl
namespace Go.Proofs.Ytkeeijkjemcbcaa.fnExactWordDistance
theorem facts : joinedFacts Try.pinned.checked.prog 3 Try.f3 Rows.fnExactWordDistanceSpec Rows.fnExactWordDistanceRow = true := by kernel_rfl
end Go.Proofs.Ytkeeijkjemcbcaa.fnExactWordDistance
