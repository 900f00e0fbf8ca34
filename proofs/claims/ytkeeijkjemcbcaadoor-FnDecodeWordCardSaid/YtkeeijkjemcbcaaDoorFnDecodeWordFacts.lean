/-
  The closed facts of the row of FnDecodeWord. No condition.
-/
import Derived.Test.YtkeeijkjemcbcaaDoorRows
import Derived.JoinedOf
import Derived.KernelRfl
namespace Go.Proofs.YtkeeijkjemcbcaaDoor.fnDecodeWord
theorem facts : joinedFacts Tryd.pinned.checked.prog 6 Tryd.f6 Rows.fnDecodeWordSpec Rows.fnDecodeWordRow = true := by kernel_rfl
end Go.Proofs.YtkeeijkjemcbcaaDoor.fnDecodeWord
