/-
  The closed facts of the row of FnExactBurstDetected. No condition.
-/
import Derived.Test.YtnmpeeailljdaaaRows
import Derived.JoinedOf
import Derived.KernelRfl
namespace Go.Proofs.Ytnmpeeailljdaaa.fnExactBurstDetected
theorem facts : joinedFacts Try.pinned.checked.prog 16 Try.f16 Rows.fnExactBurstDetectedSpec Rows.fnExactBurstDetectedRow = true := by kernel_rfl
end Go.Proofs.Ytnmpeeailljdaaa.fnExactBurstDetected
