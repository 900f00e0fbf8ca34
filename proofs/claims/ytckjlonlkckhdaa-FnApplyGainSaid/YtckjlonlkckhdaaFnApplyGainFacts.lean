/-
  The closed facts of the row of FnApplyGain. No condition.
-/
import Derived.Test.YtckjlonlkckhdaaRows
import Derived.JoinedOf
import Derived.KernelRfl
namespace Go.Proofs.Ytckjlonlkckhdaa.fnApplyGain
theorem facts : joinedFacts Try.pinned.checked.prog 5 Try.f5 Rows.fnApplyGainSpec Rows.fnApplyGainRow = true := by kernel_rfl
end Go.Proofs.Ytckjlonlkckhdaa.fnApplyGain
