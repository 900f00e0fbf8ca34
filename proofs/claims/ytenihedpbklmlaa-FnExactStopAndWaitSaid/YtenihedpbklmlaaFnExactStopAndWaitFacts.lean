/-
  The closed facts of the row of FnExactStopAndWait. No condition.
-/
import Derived.Test.YtenihedpbklmlaaRows
import Derived.JoinedOf
import Derived.KernelRfl
namespace Go.Proofs.Ytenihedpbklmlaa.fnExactStopAndWait
theorem facts : joinedFacts Try.pinned.checked.prog 10 Try.f10 Rows.fnExactStopAndWaitSpec Rows.fnExactStopAndWaitRow = true := by kernel_rfl
end Go.Proofs.Ytenihedpbklmlaa.fnExactStopAndWait
