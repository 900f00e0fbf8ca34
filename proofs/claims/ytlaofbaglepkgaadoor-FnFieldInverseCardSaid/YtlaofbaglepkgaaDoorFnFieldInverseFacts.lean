/-
  The closed facts of the row of FnFieldInverse. No condition.
-/
import Derived.Test.YtlaofbaglepkgaaDoorRows
import Derived.JoinedOf
import Derived.KernelRfl
namespace Go.Proofs.YtlaofbaglepkgaaDoor.fnFieldInverse
theorem facts : joinedFacts Tryd.pinned.checked.prog 4 Tryd.f4 Rows.fnFieldInverseSpec Rows.fnFieldInverseRow = true := by kernel_rfl
end Go.Proofs.YtlaofbaglepkgaaDoor.fnFieldInverse
