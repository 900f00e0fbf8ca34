/-
  The closed facts of the row of FnAccessRun. No condition.
-/
import Derived.Test.YtenihedpbklmlaaRows
import Derived.JoinedOf
import Derived.KernelRfl
namespace Go.Proofs.Ytenihedpbklmlaa.fnAccessRun
theorem facts : joinedFacts Try.pinned.checked.prog 3 Try.f3 Rows.fnAccessRunSpec Rows.fnAccessRunRow = true := by kernel_rfl
end Go.Proofs.Ytenihedpbklmlaa.fnAccessRun
