/-
  The closed facts of the row of FnGoSelect. No condition.
-/
import Derived.Test.YtenihedpbklmlaaRows
import Derived.JoinedOf
import Derived.KernelRfl
namespace Go.Proofs.Ytenihedpbklmlaa.fnGoSelect
theorem facts : joinedFacts Try.pinned.checked.prog 9 Try.f9 Rows.fnGoSelectSpec Rows.fnGoSelectRow = true := by kernel_rfl
end Go.Proofs.Ytenihedpbklmlaa.fnGoSelect
