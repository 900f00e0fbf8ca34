/-
  The closed facts of the row of FnCheckShift. No condition.
-/
import Derived.Test.YtnmpeeailljdaaaRows
import Derived.JoinedOf
import Derived.KernelRfl
namespace Go.Proofs.Ytnmpeeailljdaaa.fnCheckShift
theorem facts : joinedFacts Try.pinned.checked.prog 9 Try.f9 Rows.fnCheckShiftSpec Rows.fnCheckShiftRow = true := by kernel_rfl
end Go.Proofs.Ytnmpeeailljdaaa.fnCheckShift
