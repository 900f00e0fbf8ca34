/-
  The closed facts of the row of FnFieldGenerator. No condition.
-/
import Derived.Test.YtlaofbaglepkgaaDoorRows
import Derived.JoinedOf
import Derived.KernelRfl
namespace Go.Proofs.YtlaofbaglepkgaaDoor.fnFieldGenerator
theorem facts : joinedFacts Tryd.pinned.checked.prog 9 Tryd.f9 Rows.fnFieldGeneratorSpec Rows.fnFieldGeneratorRow = true := by kernel_rfl
end Go.Proofs.YtlaofbaglepkgaaDoor.fnFieldGenerator
