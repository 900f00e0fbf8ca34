/-
  The closed facts of the row of FnTransformRoot. No condition.
-/
import Derived.Test.YtkigjnjbjbnidaaRows
import Derived.JoinedOf
import Derived.KernelRfl
namespace Go.Proofs.Ytkigjnjbjbnidaa.fnTransformRoot
theorem facts : joinedFacts Try.pinned.checked.prog 3 Try.f3 Rows.fnTransformRootSpec Rows.fnTransformRootRow = true := by kernel_rfl
end Go.Proofs.Ytkigjnjbjbnidaa.fnTransformRoot
