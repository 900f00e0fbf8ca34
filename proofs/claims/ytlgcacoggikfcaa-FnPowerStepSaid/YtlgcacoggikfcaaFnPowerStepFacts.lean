/-
  The closed facts of the row of FnPowerStep. No condition.
-/
import Derived.Test.YtlgcacoggikfcaaRows
import Derived.JoinedOf
import Derived.KernelRfl
namespace Go.Proofs.Ytlgcacoggikfcaa.fnPowerStep
theorem facts : joinedFacts Try.pinned.checked.prog 5 Try.f5 Rows.fnPowerStepSpec Rows.fnPowerStepRow = true := by kernel_rfl
end Go.Proofs.Ytlgcacoggikfcaa.fnPowerStep
