/-
  The closed facts of the row of FnWordOne. No condition.
-/
import Derived.Test.YtkeeijkjemcbcaaDoorRows
import Derived.JoinedOf
import Derived.KernelRfl
namespace Go.Proofs.YtkeeijkjemcbcaaDoor.fnWordOne
theorem facts : joinedFacts Tryd.pinned.checked.prog 9 Tryd.f9 Rows.fnWordOneSpec Rows.fnWordOneRow = true := by kernel_rfl
end Go.Proofs.YtkeeijkjemcbcaaDoor.fnWordOne
