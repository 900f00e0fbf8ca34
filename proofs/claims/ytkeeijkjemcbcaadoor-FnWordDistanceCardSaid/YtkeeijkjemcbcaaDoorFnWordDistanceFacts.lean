/-
  The closed facts of the row of FnWordDistance. No condition.
-/
import Derived.Test.YtkeeijkjemcbcaaDoorRows
import Derived.JoinedOf
import Derived.KernelRfl
namespace Go.Proofs.YtkeeijkjemcbcaaDoor.fnWordDistance
theorem facts : joinedFacts Tryd.pinned.checked.prog 5 Tryd.f5 Rows.fnWordDistanceSpec Rows.fnWordDistanceRow = true := by kernel_rfl
end Go.Proofs.YtkeeijkjemcbcaaDoor.fnWordDistance
