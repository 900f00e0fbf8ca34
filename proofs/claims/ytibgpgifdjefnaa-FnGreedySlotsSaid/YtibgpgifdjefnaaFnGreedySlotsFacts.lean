/-
  The closed facts of the row of FnGreedySlots. No condition.
-/
import Derived.Test.YtibgpgifdjefnaaRows
import Derived.JoinedOf
import Derived.KernelRfl
namespace Go.Proofs.Ytibgpgifdjefnaa.fnGreedySlots
theorem facts : joinedFacts Try.pinned.checked.prog 5 Try.f5 Rows.fnGreedySlotsSpec Rows.fnGreedySlotsRow = true := by kernel_rfl
end Go.Proofs.Ytibgpgifdjefnaa.fnGreedySlots
