/-
  The closed facts of the row of FnFieldPower. No condition.
-/
import Derived.Test.YtlaofbaglepkgaaDoorRows
import Derived.JoinedOf
import Derived.KernelRfl
namespace Go.Proofs.YtlaofbaglepkgaaDoor.fnFieldPower
theorem facts : joinedFacts Tryd.pinned.checked.prog 5 Tryd.f5 Rows.fnFieldPowerSpec Rows.fnFieldPowerRow = true := by kernel_rfl
end Go.Proofs.YtlaofbaglepkgaaDoor.fnFieldPower
