/-
  The closed facts of the row of FnShiftRecurrence. No condition.
-/
import Derived.Test.YtamfjmfffpdcfaaRows
import Derived.JoinedOf
import Derived.KernelRfl
namespace Go.Proofs.Ytamfjmfffpdcfaa.fnShiftRecurrence
theorem facts : joinedFacts Try.pinned.checked.prog 9 Try.f9 Rows.fnShiftRecurrenceSpec Rows.fnShiftRecurrenceRow = true := by kernel_rfl
end Go.Proofs.Ytamfjmfffpdcfaa.fnShiftRecurrence
