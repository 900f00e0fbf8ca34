/-
  The closed facts of the row of FnLeastCosts. No condition.
-/
import Derived.Test.YtnmhiagnmfpipaaRows
import Derived.JoinedOf
import Derived.KernelRfl
namespace Go.Proofs.Ytnmhiagnmfpipaa.fnLeastCosts
theorem facts : joinedFacts Try.pinned.checked.prog 4 Try.f4 Rows.fnLeastCostsSpec Rows.fnLeastCostsRow = true := by kernel_rfl
end Go.Proofs.Ytnmhiagnmfpipaa.fnLeastCosts
