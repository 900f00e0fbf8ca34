/-
  The closed facts of the row of FnShiftBalance. No condition.
-/
import Derived.Test.YtamfjmfffpdcfaaRows
import Derived.JoinedOf
import Derived.KernelRfl
namespace Go.Proofs.Ytamfjmfffpdcfaa.fnShiftBalance
theorem facts : joinedFacts Try.pinned.checked.prog 7 Try.f7 Rows.fnShiftBalanceSpec Rows.fnShiftBalanceRow = true := by kernel_rfl
end Go.Proofs.Ytamfjmfffpdcfaa.fnShiftBalance
