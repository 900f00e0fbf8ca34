/-
  The closed facts of the row of FnPowerNoise. No condition.
-/
import Derived.Test.YtlgcacoggikfcaaRows
import Derived.JoinedOf
import Derived.KernelRfl
namespace Go.Proofs.Ytlgcacoggikfcaa.fnPowerNoise
theorem facts : joinedFacts Try.pinned.checked.prog 7 Try.f7 Rows.fnPowerNoiseSpec Rows.fnPowerNoiseRow = true := by kernel_rfl
end Go.Proofs.Ytlgcacoggikfcaa.fnPowerNoise
