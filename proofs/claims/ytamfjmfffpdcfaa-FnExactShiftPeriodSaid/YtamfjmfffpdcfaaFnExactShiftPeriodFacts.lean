/-
  The closed facts of the row of FnExactShiftPeriod. No condition.
-/
import Derived.Test.YtamfjmfffpdcfaaRows
import Derived.JoinedOf
import Derived.KernelRfl
namespace Go.Proofs.Ytamfjmfffpdcfaa.fnExactShiftPeriod
theorem facts : joinedFacts Try.pinned.checked.prog 11 Try.f11 Rows.fnExactShiftPeriodSpec Rows.fnExactShiftPeriodRow = true := by kernel_rfl
end Go.Proofs.Ytamfjmfffpdcfaa.fnExactShiftPeriod
