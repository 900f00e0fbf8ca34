/-
  The closed facts of the row of FnTransformShift. No condition.
-/
import Derived.Test.YtkigjnjbjbnidaaRows
import Derived.JoinedOf
import Derived.KernelRfl
namespace Go.Proofs.Ytkigjnjbjbnidaa.fnTransformShift
theorem facts : joinedFacts Try.pinned.checked.prog 8 Try.f8 Rows.fnTransformShiftSpec Rows.fnTransformShiftRow = true := by kernel_rfl
end Go.Proofs.Ytkigjnjbjbnidaa.fnTransformShift
