/-
  The closed facts of the row of FnCheckBits. No condition.
-/
import Derived.Test.YtnmpeeailljdaaaRows
import Derived.JoinedOf
import Derived.KernelRfl
namespace Go.Proofs.Ytnmpeeailljdaaa.fnCheckBits
theorem facts : joinedFacts Try.pinned.checked.prog 5 Try.f5 Rows.fnCheckBitsSpec Rows.fnCheckBitsRow = true := by kernel_rfl
end Go.Proofs.Ytnmpeeailljdaaa.fnCheckBits
