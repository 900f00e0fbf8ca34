/-
  The closed facts of the row of FnPeakOf. No condition.
-/
import Derived.Test.YtckjlonlkckhdaaRows
import Derived.JoinedOf
import Derived.KernelRfl
namespace Go.Proofs.Ytckjlonlkckhdaa.fnPeakOf
theorem facts : joinedFacts Try.pinned.checked.prog 3 Try.f3 Rows.fnPeakOfSpec Rows.fnPeakOfRow = true := by kernel_rfl
end Go.Proofs.Ytckjlonlkckhdaa.fnPeakOf
