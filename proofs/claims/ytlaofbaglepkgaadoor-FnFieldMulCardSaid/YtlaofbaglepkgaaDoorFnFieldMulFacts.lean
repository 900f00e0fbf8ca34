/-
  The closed facts of the row of FnFieldMul. No condition.
-/
import Derived.Test.YtlaofbaglepkgaaDoorRows
import Derived.JoinedOf
import Derived.KernelRfl
namespace Go.Proofs.YtlaofbaglepkgaaDoor.fnFieldMul
theorem facts : joinedFacts Tryd.pinned.checked.prog 3 Tryd.f3 Rows.fnFieldMulSpec Rows.fnFieldMulRow = true := by kernel_rfl
end Go.Proofs.YtlaofbaglepkgaaDoor.fnFieldMul
