/-
  The closed facts of the row of FnFieldSquare. No condition.
-/
import Derived.Test.YtlaofbaglepkgaaDoorRows
import Derived.JoinedOf
import Derived.KernelRfl
namespace Go.Proofs.YtlaofbaglepkgaaDoor.fnFieldSquare
theorem facts : joinedFacts Tryd.pinned.checked.prog 8 Tryd.f8 Rows.fnFieldSquareSpec Rows.fnFieldSquareRow = true := by kernel_rfl
end Go.Proofs.YtlaofbaglepkgaaDoor.fnFieldSquare
