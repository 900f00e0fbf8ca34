/-
  The closed facts of the row of FnRouteBack. No condition.
-/
import Derived.Test.YtnmhiagnmfpipaaRows
import Derived.JoinedOf
import Derived.KernelRfl
namespace Go.Proofs.Ytnmhiagnmfpipaa.fnRouteBack
theorem facts : joinedFacts Try.pinned.checked.prog 9 Try.f9 Rows.fnRouteBackSpec Rows.fnRouteBackRow = true := by kernel_rfl
end Go.Proofs.Ytnmhiagnmfpipaa.fnRouteBack
