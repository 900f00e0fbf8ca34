/-
  The closed facts of the row of FnRouteSlots. No condition.
-/
import Derived.Test.YtnmhiagnmfpipaaRows
import Derived.JoinedOf
import Derived.KernelRfl
namespace Go.Proofs.Ytnmhiagnmfpipaa.fnRouteSlots
theorem facts : joinedFacts Try.pinned.checked.prog 8 Try.f8 Rows.fnRouteSlotsSpec Rows.fnRouteSlotsRow = true := by kernel_rfl
end Go.Proofs.Ytnmhiagnmfpipaa.fnRouteSlots
