/-
  The closed facts of the row of FnCheckAppend. No condition.
-/
import Derived.Test.YtnmpeeailljdaaaRows
import Derived.JoinedOf
import Derived.KernelRfl
namespace Go.Proofs.Ytnmpeeailljdaaa.fnCheckAppend
theorem facts : joinedFacts Try.pinned.checked.prog 6 Try.f6 Rows.fnCheckAppendSpec Rows.fnCheckAppendRow = true := by kernel_rfl
end Go.Proofs.Ytnmpeeailljdaaa.fnCheckAppend
