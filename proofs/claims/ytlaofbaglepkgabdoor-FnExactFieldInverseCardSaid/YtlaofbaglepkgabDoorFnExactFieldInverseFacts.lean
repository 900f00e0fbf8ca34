/-
  The closed facts of the row of FnExactFieldInverse. No condition.
-/
import Derived.Test.YtlaofbaglepkgabDoorRows
import Derived.JoinedOf
import Derived.KernelRfl
namespace Go.Proofs.YtlaofbaglepkgabDoor.fnExactFieldInverse
theorem facts : joinedFacts Tryd.pinned.checked.prog 4 Tryd.f4 Rows.fnExactFieldInverseSpec Rows.fnExactFieldInverseRow = true := by kernel_rfl
end Go.Proofs.YtlaofbaglepkgabDoor.fnExactFieldInverse
