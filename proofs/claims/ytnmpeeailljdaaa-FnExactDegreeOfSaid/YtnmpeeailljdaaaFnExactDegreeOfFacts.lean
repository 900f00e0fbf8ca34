/-
  The closed facts of the row of FnExactDegreeOf. No condition.
-/
import Derived.Test.YtnmpeeailljdaaaRows
import Derived.JoinedOf
import Derived.KernelRfl
namespace Go.Proofs.Ytnmpeeailljdaaa.fnExactDegreeOf
theorem facts : joinedFacts Try.pinned.checked.prog 12 Try.f12 Rows.fnExactDegreeOfSpec Rows.fnExactDegreeOfRow = true := by kernel_rfl
end Go.Proofs.Ytnmpeeailljdaaa.fnExactDegreeOf
