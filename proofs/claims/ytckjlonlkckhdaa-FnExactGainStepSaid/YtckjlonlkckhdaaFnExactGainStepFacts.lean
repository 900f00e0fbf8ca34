/-
  The closed facts of the row of FnExactGainStep. No condition.
-/
import Derived.Test.YtckjlonlkckhdaaRows
import Derived.JoinedOf
import Derived.KernelRfl
namespace Go.Proofs.Ytckjlonlkckhdaa.fnExactGainStep
theorem facts : joinedFacts Try.pinned.checked.prog 9 Try.f9 Rows.fnExactGainStepSpec Rows.fnExactGainStepRow = true := by kernel_rfl
end Go.Proofs.Ytckjlonlkckhdaa.fnExactGainStep
