/-
  The closed facts of the row of FnSelectRepeat. No condition.
-/
import Derived.Test.YtenihedpbklmlaaRows
import Derived.JoinedOf
import Derived.KernelRfl
namespace Go.Proofs.Ytenihedpbklmlaa.fnSelectRepeat
theorem facts : joinedFacts Try.pinned.checked.prog 8 Try.f8 Rows.fnSelectRepeatSpec Rows.fnSelectRepeatRow = true := by kernel_rfl
end Go.Proofs.Ytenihedpbklmlaa.fnSelectRepeat
