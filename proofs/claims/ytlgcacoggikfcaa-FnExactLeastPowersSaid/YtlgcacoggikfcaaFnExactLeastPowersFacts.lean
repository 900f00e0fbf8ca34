/-
  The closed facts of the row of FnExactLeastPowers. No condition.
-/
import Derived.Test.YtlgcacoggikfcaaRows
import Derived.JoinedOf
import Derived.KernelRfl
namespace Go.Proofs.Ytlgcacoggikfcaa.fnExactLeastPowers
theorem facts : joinedFacts Try.pinned.checked.prog 11 Try.f11 Rows.fnExactLeastPowersSpec Rows.fnExactLeastPowersRow = true := by kernel_rfl
end Go.Proofs.Ytlgcacoggikfcaa.fnExactLeastPowers
