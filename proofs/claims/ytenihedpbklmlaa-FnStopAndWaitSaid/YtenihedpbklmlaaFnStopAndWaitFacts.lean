/-
  The closed facts of the row of FnStopAndWait. No condition.
-/
import Derived.Test.YtenihedpbklmlaaRows
import Derived.JoinedOf
import Derived.KernelRfl
namespace Go.Proofs.Ytenihedpbklmlaa.fnStopAndWait
theorem facts : joinedFacts Try.pinned.checked.prog 6 Try.f6 Rows.fnStopAndWaitSpec Rows.fnStopAndWaitRow = true := by kernel_rfl
end Go.Proofs.Ytenihedpbklmlaa.fnStopAndWait
