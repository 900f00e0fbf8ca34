/-
  The closed facts of the row of FnExactFieldPower. No condition.
-/
import Derived.Test.YtlaofbaglepkgabDoorRows
import Derived.JoinedOf
import Derived.KernelRfl
namespace Go.Proofs.YtlaofbaglepkgabDoor.fnExactFieldPower
theorem facts : joinedFacts Tryd.pinned.checked.prog 5 Tryd.f5 Rows.fnExactFieldPowerSpec Rows.fnExactFieldPowerRow = true := by kernel_rfl
end Go.Proofs.YtlaofbaglepkgabDoor.fnExactFieldPower
