/-
  The closed facts of the row of FnTransformTwice. No condition.
-/
import Derived.Test.YtkigjnjbjbnidaaRows
import Derived.JoinedOf
import Derived.KernelRfl
namespace Go.Proofs.Ytkigjnjbjbnidaa.fnTransformTwice
theorem facts : joinedFacts Try.pinned.checked.prog 10 Try.f10 Rows.fnTransformTwiceSpec Rows.fnTransformTwiceRow = true := by kernel_rfl
end Go.Proofs.Ytkigjnjbjbnidaa.fnTransformTwice
