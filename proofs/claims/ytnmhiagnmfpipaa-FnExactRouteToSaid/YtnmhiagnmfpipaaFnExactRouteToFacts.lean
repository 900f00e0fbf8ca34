/-
  The closed facts of the row of FnExactRouteTo. No condition.
-/
import Derived.Test.YtnmhiagnmfpipaaRows
import Derived.JoinedOf
import Derived.KernelRfl
namespace Go.Proofs.Ytnmhiagnmfpipaa.fnExactRouteTo
theorem facts : joinedFacts Try.pinned.checked.prog 13 Try.f13 Rows.fnExactRouteToSpec Rows.fnExactRouteToRow = true := by kernel_rfl
end Go.Proofs.Ytnmhiagnmfpipaa.fnExactRouteTo
