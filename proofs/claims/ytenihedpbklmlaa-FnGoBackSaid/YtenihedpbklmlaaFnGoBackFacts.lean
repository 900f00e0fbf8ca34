/-
  The closed facts of the row of FnGoBack. No condition.
-/
import Derived.Test.YtenihedpbklmlaaRows
import Derived.JoinedOf
import Derived.KernelRfl
namespace Go.Proofs.Ytenihedpbklmlaa.fnGoBack
theorem facts : joinedFacts Try.pinned.checked.prog 7 Try.f7 Rows.fnGoBackSpec Rows.fnGoBackRow = true := by kernel_rfl
end Go.Proofs.Ytenihedpbklmlaa.fnGoBack
