/-
  The closed facts of the row of FnEncodeWord. No condition.
-/
import Derived.Test.YtkeeijkjemcbcaaDoorRows
import Derived.JoinedOf
import Derived.KernelRfl
namespace Go.Proofs.YtkeeijkjemcbcaaDoor.fnEncodeWord
theorem facts : joinedFacts Tryd.pinned.checked.prog 3 Tryd.f3 Rows.fnEncodeWordSpec Rows.fnEncodeWordRow = true := by kernel_rfl
end Go.Proofs.YtkeeijkjemcbcaaDoor.fnEncodeWord
