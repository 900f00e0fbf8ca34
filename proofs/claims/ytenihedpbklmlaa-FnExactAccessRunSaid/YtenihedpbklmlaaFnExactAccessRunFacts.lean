/-
  The closed facts of the row of FnExactAccessRun. No condition.
-/
import Derived.Test.YtenihedpbklmlaaRows
import Derived.JoinedOf
import Derived.KernelRfl
namespace Go.Proofs.Ytenihedpbklmlaa.fnExactAccessRun
theorem facts : joinedFacts Try.pinned.checked.prog 5 Try.f5 Rows.fnExactAccessRunSpec Rows.fnExactAccessRunRow = true := by kernel_rfl
end Go.Proofs.Ytenihedpbklmlaa.fnExactAccessRun
