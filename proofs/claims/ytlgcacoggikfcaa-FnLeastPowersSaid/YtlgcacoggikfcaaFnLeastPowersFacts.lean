/-
  The closed facts of the row of FnLeastPowers. No condition.
-/
import Derived.Test.YtlgcacoggikfcaaRows
import Derived.JoinedOf
import Derived.KernelRfl
namespace Go.Proofs.Ytlgcacoggikfcaa.fnLeastPowers
theorem facts : joinedFacts Try.pinned.checked.prog 6 Try.f6 Rows.fnLeastPowersSpec Rows.fnLeastPowersRow = true := by kernel_rfl
end Go.Proofs.Ytlgcacoggikfcaa.fnLeastPowers
