/-
  The closed facts of the row of FnSyndromeOf. No condition.
-/
import Derived.Test.YtflplihhakepfaaDoorRows
import Derived.JoinedOf
import Derived.KernelRfl
namespace Go.Proofs.YtflplihhakepfaaDoor.fnSyndromeOf
theorem facts : joinedFacts Tryd.pinned.checked.prog 4 Tryd.f4 Rows.fnSyndromeOfSpec Rows.fnSyndromeOfRow = true := by kernel_rfl
end Go.Proofs.YtflplihhakepfaaDoor.fnSyndromeOf
