/-
  The closed facts of the row of FnExactShiftBits. No condition.
-/
import Derived.Test.YtamfjmfffpdcfaaRows
import Derived.JoinedOf
import Derived.KernelRfl
namespace Go.Proofs.Ytamfjmfffpdcfaa.fnExactShiftBits
theorem facts : joinedFacts Try.pinned.checked.prog 10 Try.f10 Rows.fnExactShiftBitsSpec Rows.fnExactShiftBitsRow = true := by kernel_rfl
end Go.Proofs.Ytamfjmfffpdcfaa.fnExactShiftBits
