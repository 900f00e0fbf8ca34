/-
  The closed facts of the row of FnExactFieldMul. No condition.
-/
import Derived.Test.YtlaofbaglepkgabDoorRows
import Derived.JoinedOf
import Derived.KernelRfl
namespace Go.Proofs.YtlaofbaglepkgabDoor.fnExactFieldMul
theorem facts : joinedFacts Tryd.pinned.checked.prog 3 Tryd.f3 Rows.fnExactFieldMulSpec Rows.fnExactFieldMulRow = true := by kernel_rfl
end Go.Proofs.YtlaofbaglepkgabDoor.fnExactFieldMul
