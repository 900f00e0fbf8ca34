/-
  The closed facts of the row of FnExactApplyGain. No condition.
-/
import Derived.Test.YtckjlonlkckhdaaRows
import Derived.JoinedOf
import Derived.KernelRfl
namespace Go.Proofs.Ytckjlonlkckhdaa.fnExactApplyGain
theorem facts : joinedFacts Try.pinned.checked.prog 10 Try.f10 Rows.fnExactApplyGainSpec Rows.fnExactApplyGainRow = true := by kernel_rfl
end Go.Proofs.Ytckjlonlkckhdaa.fnExactApplyGain
