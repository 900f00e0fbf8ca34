/-
  The closed facts of the row of FnExactFieldAdd. No condition.
-/
import Derived.Test.YtlaofbaglepkgabRows
import Derived.JoinedOf
import Derived.KernelRfl
namespace Go.Proofs.Ytlaofbaglepkgab.fnExactFieldAdd
theorem facts : joinedFacts Try.pinned.checked.prog 3 Try.f3 Rows.fnExactFieldAddSpec Rows.fnExactFieldAddRow = true := by kernel_rfl
end Go.Proofs.Ytlaofbaglepkgab.fnExactFieldAdd
