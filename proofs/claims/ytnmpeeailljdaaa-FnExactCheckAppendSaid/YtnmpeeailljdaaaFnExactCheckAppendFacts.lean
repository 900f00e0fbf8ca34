/-
  The closed facts of the row of FnExactCheckAppend. No condition.
-/
import Derived.Test.YtnmpeeailljdaaaRows
import Derived.JoinedOf
import Derived.KernelRfl
namespace Go.Proofs.Ytnmpeeailljdaaa.fnExactCheckAppend
theorem facts : joinedFacts Try.pinned.checked.prog 14 Try.f14 Rows.fnExactCheckAppendSpec Rows.fnExactCheckAppendRow = true := by kernel_rfl
end Go.Proofs.Ytnmpeeailljdaaa.fnExactCheckAppend
