/-
  The closed facts of the row of FnAccessOrder. No condition.
-/
import Derived.Test.YtenihedpbklmlaaRows
import Derived.JoinedOf
import Derived.KernelRfl
namespace Go.Proofs.Ytenihedpbklmlaa.fnAccessOrder
theorem facts : joinedFacts Try.pinned.checked.prog 4 Try.f4 Rows.fnAccessOrderSpec Rows.fnAccessOrderRow = true := by kernel_rfl
end Go.Proofs.Ytenihedpbklmlaa.fnAccessOrder
