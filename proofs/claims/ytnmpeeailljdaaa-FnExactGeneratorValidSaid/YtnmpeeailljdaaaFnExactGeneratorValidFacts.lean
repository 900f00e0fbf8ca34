/-
  The closed facts of the row of FnExactGeneratorValid. No condition.
-/
import Derived.Test.YtnmpeeailljdaaaRows
import Derived.JoinedOf
import Derived.KernelRfl
namespace Go.Proofs.Ytnmpeeailljdaaa.fnExactGeneratorValid
theorem facts : joinedFacts Try.pinned.checked.prog 11 Try.f11 Rows.fnExactGeneratorValidSpec Rows.fnExactGeneratorValidRow = true := by kernel_rfl
end Go.Proofs.Ytnmpeeailljdaaa.fnExactGeneratorValid
