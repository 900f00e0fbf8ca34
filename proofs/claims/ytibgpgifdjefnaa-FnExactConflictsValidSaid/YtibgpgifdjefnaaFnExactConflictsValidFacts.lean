/-
  The closed facts of the row of FnExactConflictsValid. No condition.
-/
import Derived.Test.YtibgpgifdjefnaaRows
import Derived.JoinedOf
import Derived.KernelRfl
namespace Go.Proofs.Ytibgpgifdjefnaa.fnExactConflictsValid
theorem facts : joinedFacts Try.pinned.checked.prog 6 Try.f6 Rows.fnExactConflictsValidSpec Rows.fnExactConflictsValidRow = true := by kernel_rfl
end Go.Proofs.Ytibgpgifdjefnaa.fnExactConflictsValid
