/-
  The closed facts of the row of FnCheckSum. No condition.
-/
import Derived.Test.YtnmpeeailljdaaaRows
import Derived.JoinedOf
import Derived.KernelRfl
namespace Go.Proofs.Ytnmpeeailljdaaa.fnCheckSum
theorem facts : joinedFacts Try.pinned.checked.prog 10 Try.f10 Rows.fnCheckSumSpec Rows.fnCheckSumRow = true := by kernel_rfl
end Go.Proofs.Ytnmpeeailljdaaa.fnCheckSum
