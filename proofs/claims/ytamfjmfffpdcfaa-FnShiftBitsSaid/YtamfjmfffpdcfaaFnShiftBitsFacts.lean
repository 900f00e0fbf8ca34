/-
  The closed facts of the row of FnShiftBits. No condition.
-/
import Derived.Test.YtamfjmfffpdcfaaRows
import Derived.JoinedOf
import Derived.KernelRfl
namespace Go.Proofs.Ytamfjmfffpdcfaa.fnShiftBits
theorem facts : joinedFacts Try.pinned.checked.prog 3 Try.f3 Rows.fnShiftBitsSpec Rows.fnShiftBitsRow = true := by kernel_rfl
end Go.Proofs.Ytamfjmfffpdcfaa.fnShiftBits
