/-
  The closed facts of the row of FnExactLeastCosts. No condition.
-/
import Derived.Test.YtnmhiagnmfpipaaRows
import Derived.JoinedOf
import Derived.KernelRfl
namespace Go.Proofs.Ytnmhiagnmfpipaa.fnExactLeastCosts
theorem facts : joinedFacts Try.pinned.checked.prog 11 Try.f11 Rows.fnExactLeastCostsSpec Rows.fnExactLeastCostsRow = true := by kernel_rfl
end Go.Proofs.Ytnmhiagnmfpipaa.fnExactLeastCosts
