/-
  The closed facts of the row of FnPolynomialAt. No condition.
-/
import Derived.Test.YtlaofbaglepkgaaDoorRows
import Derived.JoinedOf
import Derived.KernelRfl
namespace Go.Proofs.YtlaofbaglepkgaaDoor.fnPolynomialAt
theorem facts : joinedFacts Tryd.pinned.checked.prog 6 Tryd.f6 Rows.fnPolynomialAtSpec Rows.fnPolynomialAtRow = true := by kernel_rfl
end Go.Proofs.YtlaofbaglepkgaaDoor.fnPolynomialAt
