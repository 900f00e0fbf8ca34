/-
  The closed facts of the row of FnExactCheckBits. No condition.
-/
import Derived.Test.YtnmpeeailljdaaaRows
import Derived.JoinedOf
import Derived.KernelRfl
namespace Go.Proofs.Ytnmpeeailljdaaa.fnExactCheckBits
theorem facts : joinedFacts Try.pinned.checked.prog 13 Try.f13 Rows.fnExactCheckBitsSpec Rows.fnExactCheckBitsRow = true := by kernel_rfl
end Go.Proofs.Ytnmpeeailljdaaa.fnExactCheckBits
