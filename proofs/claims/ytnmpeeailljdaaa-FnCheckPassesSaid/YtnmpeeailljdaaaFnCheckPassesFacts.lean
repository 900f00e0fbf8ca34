/-
  The closed facts of the row of FnCheckPasses. No condition.
-/
import Derived.Test.YtnmpeeailljdaaaRows
import Derived.JoinedOf
import Derived.KernelRfl
namespace Go.Proofs.Ytnmpeeailljdaaa.fnCheckPasses
theorem facts : joinedFacts Try.pinned.checked.prog 7 Try.f7 Rows.fnCheckPassesSpec Rows.fnCheckPassesRow = true := by kernel_rfl
end Go.Proofs.Ytnmpeeailljdaaa.fnCheckPasses
