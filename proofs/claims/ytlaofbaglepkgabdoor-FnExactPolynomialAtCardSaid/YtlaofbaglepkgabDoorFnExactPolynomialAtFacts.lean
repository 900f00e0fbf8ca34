/-
  The closed facts of the row of FnExactPolynomialAt. No condition.
-/
import Derived.Test.YtlaofbaglepkgabDoorRows
import Derived.JoinedOf
import Derived.KernelRfl
namespace Go.Proofs.YtlaofbaglepkgabDoor.fnExactPolynomialAt
theorem facts : joinedFacts Tryd.pinned.checked.prog 6 Tryd.f6 Rows.fnExactPolynomialAtSpec Rows.fnExactPolynomialAtRow = true := by kernel_rfl
end Go.Proofs.YtlaofbaglepkgabDoor.fnExactPolynomialAt
