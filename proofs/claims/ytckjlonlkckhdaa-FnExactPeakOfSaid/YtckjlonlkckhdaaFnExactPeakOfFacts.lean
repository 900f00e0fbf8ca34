/-
  The closed facts of the row of FnExactPeakOf. No condition.
-/
import Derived.Test.YtckjlonlkckhdaaRows
import Derived.JoinedOf
import Derived.KernelRfl
namespace Go.Proofs.Ytckjlonlkckhdaa.fnExactPeakOf
theorem facts : joinedFacts Try.pinned.checked.prog 8 Try.f8 Rows.fnExactPeakOfSpec Rows.fnExactPeakOfRow = true := by kernel_rfl
end Go.Proofs.Ytckjlonlkckhdaa.fnExactPeakOf
