/-
  The closed facts of the row of FnShiftPeriod. No condition.
-/
import Derived.Test.YtamfjmfffpdcfaaRows
import Derived.JoinedOf
import Derived.KernelRfl
namespace Go.Proofs.Ytamfjmfffpdcfaa.fnShiftPeriod
theorem facts : joinedFacts Try.pinned.checked.prog 4 Try.f4 Rows.fnShiftPeriodSpec Rows.fnShiftPeriodRow = true := by kernel_rfl
end Go.Proofs.Ytamfjmfffpdcfaa.fnShiftPeriod
