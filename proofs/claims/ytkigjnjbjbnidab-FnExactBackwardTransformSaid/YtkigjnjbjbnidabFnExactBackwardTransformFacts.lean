/-
  The closed facts of the row of FnExactBackwardTransform. No condition.
-/
import Derived.Test.YtkigjnjbjbnidabRows
import Derived.JoinedOf
import Derived.KernelRfl
namespace Go.Proofs.Ytkigjnjbjbnidab.fnExactBackwardTransform
theorem facts : joinedFacts Try.pinned.checked.prog 5 Try.f5 Rows.fnExactBackwardTransformSpec Rows.fnExactBackwardTransformRow = true := by kernel_rfl
end Go.Proofs.Ytkigjnjbjbnidab.fnExactBackwardTransform
