/-
  The closed facts of the row of FnNextStation. No condition.
-/
import Derived.Test.YtnmhiagnmfpipaaRows
import Derived.JoinedOf
import Derived.KernelRfl
namespace Go.Proofs.Ytnmhiagnmfpipaa.fnNextStation
theorem facts : joinedFacts Try.pinned.checked.prog 5 Try.f5 Rows.fnNextStationSpec Rows.fnNextStationRow = true := by kernel_rfl
end Go.Proofs.Ytnmhiagnmfpipaa.fnNextStation
