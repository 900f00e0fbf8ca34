/-
  The closed facts of the row of FnExactNextStation. No condition.
-/
import Derived.Test.YtnmhiagnmfpipaaRows
import Derived.JoinedOf
import Derived.KernelRfl
namespace Go.Proofs.Ytnmhiagnmfpipaa.fnExactNextStation
theorem facts : joinedFacts Try.pinned.checked.prog 12 Try.f12 Rows.fnExactNextStationSpec Rows.fnExactNextStationRow = true := by kernel_rfl
end Go.Proofs.Ytnmhiagnmfpipaa.fnExactNextStation
