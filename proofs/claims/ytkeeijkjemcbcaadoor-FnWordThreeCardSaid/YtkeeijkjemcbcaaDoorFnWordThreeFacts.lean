/-
  The closed facts of the row of FnWordThree. No condition.
-/
import Derived.Test.YtkeeijkjemcbcaaDoorRows
import Derived.JoinedOf
import Derived.KernelRfl
namespace Go.Proofs.YtkeeijkjemcbcaaDoor.fnWordThree
theorem facts : joinedFacts Tryd.pinned.checked.prog 7 Tryd.f7 Rows.fnWordThreeSpec Rows.fnWordThreeRow = true := by kernel_rfl
end Go.Proofs.YtkeeijkjemcbcaaDoor.fnWordThree
