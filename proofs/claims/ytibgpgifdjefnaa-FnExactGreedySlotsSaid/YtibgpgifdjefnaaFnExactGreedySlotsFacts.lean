/-
  The closed facts of the row of FnExactGreedySlots. No condition.
-/
import Derived.Test.YtibgpgifdjefnaaRows
import Derived.JoinedOf
import Derived.KernelRfl
namespace Go.Proofs.Ytibgpgifdjefnaa.fnExactGreedySlots
theorem facts : joinedFacts Try.pinned.checked.prog 8 Try.f8 Rows.fnExactGreedySlotsSpec Rows.fnExactGreedySlotsRow = true := by kernel_rfl
end Go.Proofs.Ytibgpgifdjefnaa.fnExactGreedySlots
