/-
  The closed facts of the row of FnSlotsValid. No condition.
-/
import Derived.Test.YtibgpgifdjefnaaRows
import Derived.JoinedOf
import Derived.KernelRfl
namespace Go.Proofs.Ytibgpgifdjefnaa.fnSlotsValid
theorem facts : joinedFacts Try.pinned.checked.prog 4 Try.f4 Rows.fnSlotsValidSpec Rows.fnSlotsValidRow = true := by kernel_rfl
end Go.Proofs.Ytibgpgifdjefnaa.fnSlotsValid
