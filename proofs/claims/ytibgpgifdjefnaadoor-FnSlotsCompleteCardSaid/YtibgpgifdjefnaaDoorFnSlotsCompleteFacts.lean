/-
  The closed facts of the row of FnSlotsComplete. No condition.
-/
import Derived.Test.YtibgpgifdjefnaaDoorRows
import Derived.JoinedOf
import Derived.KernelRfl
namespace Go.Proofs.YtibgpgifdjefnaaDoor.fnSlotsComplete
theorem facts : joinedFacts Tryd.pinned.checked.prog 5 Tryd.f5 Rows.fnSlotsCompleteSpec Rows.fnSlotsCompleteRow = true := by kernel_rfl
end Go.Proofs.YtibgpgifdjefnaaDoor.fnSlotsComplete
