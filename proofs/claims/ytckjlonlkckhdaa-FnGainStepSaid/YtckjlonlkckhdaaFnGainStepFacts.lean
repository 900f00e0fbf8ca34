/-
  The closed facts of the row of FnGainStep. No condition.
-/
import Derived.Test.YtckjlonlkckhdaaRows
import Derived.JoinedOf
import Derived.KernelRfl
namespace Go.Proofs.Ytckjlonlkckhdaa.fnGainStep
theorem facts : joinedFacts Try.pinned.checked.prog 4 Try.f4 Rows.fnGainStepSpec Rows.fnGainStepRow = true := by kernel_rfl
end Go.Proofs.Ytckjlonlkckhdaa.fnGainStep
