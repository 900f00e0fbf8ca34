/-
  The closed facts of the row of FnWordSyndromes. No condition.
-/
import Derived.Test.YtkeeijkjemcbcaaDoorRows
import Derived.JoinedOf
import Derived.KernelRfl
namespace Go.Proofs.YtkeeijkjemcbcaaDoor.fnWordSyndromes
theorem facts : joinedFacts Tryd.pinned.checked.prog 4 Tryd.f4 Rows.fnWordSyndromesSpec Rows.fnWordSyndromesRow = true := by kernel_rfl
end Go.Proofs.YtkeeijkjemcbcaaDoor.fnWordSyndromes
