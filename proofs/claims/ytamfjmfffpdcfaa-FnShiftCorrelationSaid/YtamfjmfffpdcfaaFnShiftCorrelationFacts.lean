/-
  The closed facts of the row of FnShiftCorrelation. No condition.
-/
import Derived.Test.YtamfjmfffpdcfaaRows
import Derived.JoinedOf
import Derived.KernelRfl
namespace Go.Proofs.Ytamfjmfffpdcfaa.fnShiftCorrelation
theorem facts : joinedFacts Try.pinned.checked.prog 8 Try.f8 Rows.fnShiftCorrelationSpec Rows.fnShiftCorrelationRow = true := by kernel_rfl
end Go.Proofs.Ytamfjmfffpdcfaa.fnShiftCorrelation
