/-
  The closed facts of the row of FnRouteTo. No condition.
-/
import Derived.Test.YtnmhiagnmfpipaaRows
import Derived.JoinedOf
import Derived.KernelRfl
namespace Go.Proofs.Ytnmhiagnmfpipaa.fnRouteTo
theorem facts : joinedFacts Try.pinned.checked.prog 6 Try.f6 Rows.fnRouteToSpec Rows.fnRouteToRow = true := by kernel_rfl
end Go.Proofs.Ytnmhiagnmfpipaa.fnRouteTo
