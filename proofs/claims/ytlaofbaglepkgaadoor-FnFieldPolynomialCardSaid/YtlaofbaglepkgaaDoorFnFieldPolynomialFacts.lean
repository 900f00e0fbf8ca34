/-
  The closed facts of the row of FnFieldPolynomial. No condition.
-/
import Derived.Test.YtlaofbaglepkgaaDoorRows
import Derived.JoinedOf
import Derived.KernelRfl
namespace Go.Proofs.YtlaofbaglepkgaaDoor.fnFieldPolynomial
theorem facts : joinedFacts Tryd.pinned.checked.prog 7 Tryd.f7 Rows.fnFieldPolynomialSpec Rows.fnFieldPolynomialRow = true := by kernel_rfl
end Go.Proofs.YtlaofbaglepkgaaDoor.fnFieldPolynomial
