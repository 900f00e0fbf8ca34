/-
  The closed facts of the row of FnExactCostsValid. No condition.
-/
import Derived.Test.YtnmhiagnmfpipaaRows
import Derived.JoinedOf
import Derived.KernelRfl
namespace Go.Proofs.Ytnmhiagnmfpipaa.fnExactCostsValid
theorem facts : joinedFacts Try.pinned.checked.prog 10 Try.f10 Rows.fnExactCostsValidSpec Rows.fnExactCostsValidRow = true := by kernel_rfl
end Go.Proofs.Ytnmhiagnmfpipaa.fnExactCostsValid
