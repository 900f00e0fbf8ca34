/-
  The closed facts of the row of FnExactEncodeWord. No condition.
-/
import Derived.Test.YtkeeijkjemcbcaaDoorRows
import Derived.JoinedOf
import Derived.KernelRfl
namespace Go.Proofs.YtkeeijkjemcbcaaDoor.fnExactEncodeWord
theorem facts : joinedFacts Tryd.pinned.checked.prog 10 Tryd.f10 Rows.fnExactEncodeWordSpec Rows.fnExactEncodeWordRow = true := by kernel_rfl
end Go.Proofs.YtkeeijkjemcbcaaDoor.fnExactEncodeWord
