/-
  The closed facts of the row of FnExactWordSyndromes. No condition.
-/
import Derived.Test.YtkeeijkjemcbcaaDoorRows
import Derived.JoinedOf
import Derived.KernelRfl
namespace Go.Proofs.YtkeeijkjemcbcaaDoor.fnExactWordSyndromes
theorem facts : joinedFacts Tryd.pinned.checked.prog 11 Tryd.f11 Rows.fnExactWordSyndromesSpec Rows.fnExactWordSyndromesRow = true := by kernel_rfl
end Go.Proofs.YtkeeijkjemcbcaaDoor.fnExactWordSyndromes
