/-
  The closed facts of the row of FnDegreeOf. No condition.
-/
import Derived.Test.YtnmpeeailljdaaaRows
import Derived.JoinedOf
import Derived.KernelRfl
namespace Go.Proofs.Ytnmpeeailljdaaa.fnDegreeOf
theorem facts : joinedFacts Try.pinned.checked.prog 4 Try.f4 Rows.fnDegreeOfSpec Rows.fnDegreeOfRow = true := by kernel_rfl
end Go.Proofs.Ytnmpeeailljdaaa.fnDegreeOf
