/-
  The closed facts of the row of FnCostsValid. No condition.
-/
import Derived.Test.YtnmhiagnmfpipaaRows
import Derived.JoinedOf
import Derived.KernelRfl
namespace Go.Proofs.Ytnmhiagnmfpipaa.fnCostsValid
theorem facts : joinedFacts Try.pinned.checked.prog 3 Try.f3 Rows.fnCostsValidSpec Rows.fnCostsValidRow = true := by kernel_rfl
end Go.Proofs.Ytnmhiagnmfpipaa.fnCostsValid
