/-
  The closed facts of the row of FnBestSlots. No condition.
-/
import Derived.Test.YtibgpgifdjefnaaDoorRows
import Derived.JoinedOf
import Derived.KernelRfl
namespace Go.Proofs.YtibgpgifdjefnaaDoor.fnBestSlots
theorem facts : joinedFacts Tryd.pinned.checked.prog 3 Tryd.f3 Rows.fnBestSlotsSpec Rows.fnBestSlotsRow = true := by kernel_rfl
end Go.Proofs.YtibgpgifdjefnaaDoor.fnBestSlots
