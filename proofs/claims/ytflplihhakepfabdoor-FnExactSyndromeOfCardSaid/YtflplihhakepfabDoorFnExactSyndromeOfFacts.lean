/-
  The closed facts of the row of FnExactSyndromeOf. No condition.
-/
import Derived.Test.YtflplihhakepfabDoorRows
import Derived.JoinedOf
import Derived.KernelRfl
namespace Go.Proofs.YtflplihhakepfabDoor.fnExactSyndromeOf
theorem facts : joinedFacts Tryd.pinned.checked.prog 3 Tryd.f3 Rows.fnExactSyndromeOfSpec Rows.fnExactSyndromeOfRow = true := by kernel_rfl
end Go.Proofs.YtflplihhakepfabDoor.fnExactSyndromeOf
