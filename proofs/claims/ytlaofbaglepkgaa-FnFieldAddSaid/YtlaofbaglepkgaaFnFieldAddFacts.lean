/-
  The closed facts of the row of FnFieldAdd. No condition.
-/
import Derived.Test.YtlaofbaglepkgaaRows
import Derived.JoinedOf
import Derived.KernelRfl
namespace Go.Proofs.Ytlaofbaglepkgaa.fnFieldAdd
theorem facts : joinedFacts Try.pinned.checked.prog 3 Try.f3 Rows.fnFieldAddSpec Rows.fnFieldAddRow = true := by kernel_rfl
end Go.Proofs.Ytlaofbaglepkgaa.fnFieldAdd
