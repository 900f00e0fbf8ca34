/-
  The closed facts of the row of FnWordTurn. No condition.
-/
import Derived.Test.YtkeeijkjemcbcaaDoorRows
import Derived.JoinedOf
import Derived.KernelRfl
namespace Go.Proofs.YtkeeijkjemcbcaaDoor.fnWordTurn
theorem facts : joinedFacts Tryd.pinned.checked.prog 8 Tryd.f8 Rows.fnWordTurnSpec Rows.fnWordTurnRow = true := by kernel_rfl
end Go.Proofs.YtkeeijkjemcbcaaDoor.fnWordTurn
