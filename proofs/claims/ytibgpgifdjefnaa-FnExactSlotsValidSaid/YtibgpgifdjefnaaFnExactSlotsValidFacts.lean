/-
  The closed facts of the row of FnExactSlotsValid. No condition.
-/
import Derived.Test.YtibgpgifdjefnaaRows
import Derived.JoinedOf
import Derived.KernelRfl
namespace Go.Proofs.Ytibgpgifdjefnaa.fnExactSlotsValid
theorem facts : joinedFacts Try.pinned.checked.prog 7 Try.f7 Rows.fnExactSlotsValidSpec Rows.fnExactSlotsValidRow = true := by kernel_rfl
end Go.Proofs.Ytibgpgifdjefnaa.fnExactSlotsValid
