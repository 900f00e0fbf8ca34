/-
  The closed facts of the row of FnExactPowerStep. No condition.
-/
import Derived.Test.YtlgcacoggikfcaaRows
import Derived.JoinedOf
import Derived.KernelRfl
namespace Go.Proofs.Ytlgcacoggikfcaa.fnExactPowerStep
theorem facts : joinedFacts Try.pinned.checked.prog 10 Try.f10 Rows.fnExactPowerStepSpec Rows.fnExactPowerStepRow = true := by kernel_rfl
end Go.Proofs.Ytlgcacoggikfcaa.fnExactPowerStep
