/-
  The closed facts of the row of FnExactBestSlots. No condition.
-/
import Derived.Test.YtibgpgifdjefnaaRows
import Derived.JoinedOf
import Derived.KernelRfl
namespace Go.Proofs.Ytibgpgifdjefnaa.fnExactBestSlots
theorem facts : joinedFacts Try.pinned.checked.prog 9 Try.f9 Rows.fnExactBestSlotsSpec Rows.fnExactBestSlotsRow = true := by kernel_rfl
end Go.Proofs.Ytibgpgifdjefnaa.fnExactBestSlots
