/-
  The closed facts of the row of FnBurstDetected. No condition.
-/
import Derived.Test.YtnmpeeailljdaaaRows
import Derived.JoinedOf
import Derived.KernelRfl
namespace Go.Proofs.Ytnmpeeailljdaaa.fnBurstDetected
theorem facts : joinedFacts Try.pinned.checked.prog 8 Try.f8 Rows.fnBurstDetectedSpec Rows.fnBurstDetectedRow = true := by kernel_rfl
end Go.Proofs.Ytnmpeeailljdaaa.fnBurstDetected
