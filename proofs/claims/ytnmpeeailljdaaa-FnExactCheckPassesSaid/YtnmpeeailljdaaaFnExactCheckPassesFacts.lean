/-
  The closed facts of the row of FnExactCheckPasses. No condition.
-/
import Derived.Test.YtnmpeeailljdaaaRows
import Derived.JoinedOf
import Derived.KernelRfl
namespace Go.Proofs.Ytnmpeeailljdaaa.fnExactCheckPasses
theorem facts : joinedFacts Try.pinned.checked.prog 15 Try.f15 Rows.fnExactCheckPassesSpec Rows.fnExactCheckPassesRow = true := by kernel_rfl
end Go.Proofs.Ytnmpeeailljdaaa.fnExactCheckPasses
