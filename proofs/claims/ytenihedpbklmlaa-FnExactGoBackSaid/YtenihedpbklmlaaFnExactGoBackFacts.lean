/-
  The closed facts of the row of FnExactGoBack. No condition.
-/
import Derived.Test.YtenihedpbklmlaaRows
import Derived.JoinedOf
import Derived.KernelRfl
namespace Go.Proofs.Ytenihedpbklmlaa.fnExactGoBack
theorem facts : joinedFacts Try.pinned.checked.prog 11 Try.f11 Rows.fnExactGoBackSpec Rows.fnExactGoBackRow = true := by kernel_rfl
end Go.Proofs.Ytenihedpbklmlaa.fnExactGoBack
