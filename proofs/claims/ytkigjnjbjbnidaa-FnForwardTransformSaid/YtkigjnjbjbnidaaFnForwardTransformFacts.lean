/-
  The closed facts of the row of FnForwardTransform. No condition.
-/
import Derived.Test.YtkigjnjbjbnidaaRows
import Derived.JoinedOf
import Derived.KernelRfl
namespace Go.Proofs.Ytkigjnjbjbnidaa.fnForwardTransform
theorem facts : joinedFacts Try.pinned.checked.prog 4 Try.f4 Rows.fnForwardTransformSpec Rows.fnForwardTransformRow = true := by kernel_rfl
end Go.Proofs.Ytkigjnjbjbnidaa.fnForwardTransform
