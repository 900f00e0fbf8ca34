/-
  The closed facts of the row of FnBackwardTransform. No condition.
-/
import Derived.Test.YtkigjnjbjbnidaaRows
import Derived.JoinedOf
import Derived.KernelRfl
namespace Go.Proofs.Ytkigjnjbjbnidaa.fnBackwardTransform
theorem facts : joinedFacts Try.pinned.checked.prog 5 Try.f5 Rows.fnBackwardTransformSpec Rows.fnBackwardTransformRow = true := by kernel_rfl
end Go.Proofs.Ytkigjnjbjbnidaa.fnBackwardTransform
