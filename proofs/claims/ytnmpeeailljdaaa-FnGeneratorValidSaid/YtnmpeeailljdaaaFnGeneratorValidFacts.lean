/-
  The closed facts of the row of FnGeneratorValid. No condition.
-/
import Derived.Test.YtnmpeeailljdaaaRows
import Derived.JoinedOf
import Derived.KernelRfl
namespace Go.Proofs.Ytnmpeeailljdaaa.fnGeneratorValid
theorem facts : joinedFacts Try.pinned.checked.prog 3 Try.f3 Rows.fnGeneratorValidSpec Rows.fnGeneratorValidRow = true := by kernel_rfl
end Go.Proofs.Ytnmpeeailljdaaa.fnGeneratorValid
