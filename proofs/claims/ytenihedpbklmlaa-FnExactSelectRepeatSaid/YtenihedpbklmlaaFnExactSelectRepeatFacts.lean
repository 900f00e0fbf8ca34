/-
  The closed facts of the row of FnExactSelectRepeat. No condition.
-/
import Derived.Test.YtenihedpbklmlaaRows
import Derived.JoinedOf
import Derived.KernelRfl
namespace Go.Proofs.Ytenihedpbklmlaa.fnExactSelectRepeat
theorem facts : joinedFacts Try.pinned.checked.prog 12 Try.f12 Rows.fnExactSelectRepeatSpec Rows.fnExactSelectRepeatRow = true := by kernel_rfl
end Go.Proofs.Ytenihedpbklmlaa.fnExactSelectRepeat
