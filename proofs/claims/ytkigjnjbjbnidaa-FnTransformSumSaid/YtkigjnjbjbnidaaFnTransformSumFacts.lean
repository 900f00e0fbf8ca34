/-
  The closed facts of the row of FnTransformSum. No condition.
-/
import Derived.Test.YtkigjnjbjbnidaaRows
import Derived.JoinedOf
import Derived.KernelRfl
namespace Go.Proofs.Ytkigjnjbjbnidaa.fnTransformSum
theorem facts : joinedFacts Try.pinned.checked.prog 9 Try.f9 Rows.fnTransformSumSpec Rows.fnTransformSumRow = true := by kernel_rfl
end Go.Proofs.Ytkigjnjbjbnidaa.fnTransformSum
