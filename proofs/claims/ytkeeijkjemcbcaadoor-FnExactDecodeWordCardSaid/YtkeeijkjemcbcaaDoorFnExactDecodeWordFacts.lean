/-
  The closed facts of the row of FnExactDecodeWord. No condition.
-/
import Derived.Test.YtkeeijkjemcbcaaDoorRows
import Derived.JoinedOf
import Derived.KernelRfl
namespace Go.Proofs.YtkeeijkjemcbcaaDoor.fnExactDecodeWord
theorem facts : joinedFacts Tryd.pinned.checked.prog 12 Tryd.f12 Rows.fnExactDecodeWordSpec Rows.fnExactDecodeWordRow = true := by kernel_rfl
end Go.Proofs.YtkeeijkjemcbcaaDoor.fnExactDecodeWord
