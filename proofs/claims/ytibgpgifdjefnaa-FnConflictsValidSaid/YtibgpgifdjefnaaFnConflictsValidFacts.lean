/-
  The closed facts of the row of FnConflictsValid. No condition.
-/
import Derived.Test.YtibgpgifdjefnaaRows
import Derived.JoinedOf
import Derived.KernelRfl
namespace Go.Proofs.Ytibgpgifdjefnaa.fnConflictsValid
theorem facts : joinedFacts Try.pinned.checked.prog 3 Try.f3 Rows.fnConflictsValidSpec Rows.fnConflictsValidRow = true := by kernel_rfl
end Go.Proofs.Ytibgpgifdjefnaa.fnConflictsValid
