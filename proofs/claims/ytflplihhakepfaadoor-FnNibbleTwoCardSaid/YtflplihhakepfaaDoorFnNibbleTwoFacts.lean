/-
  The closed facts of the row of FnNibbleTwo. No condition.
-/
import Derived.Test.YtflplihhakepfaaDoorRows
import Derived.JoinedOf
import Derived.KernelRfl
namespace Go.Proofs.YtflplihhakepfaaDoor.fnNibbleTwo
theorem facts : joinedFacts Tryd.pinned.checked.prog 9 Tryd.f9 Rows.fnNibbleTwoSpec Rows.fnNibbleTwoRow = true := by kernel_rfl
end Go.Proofs.YtflplihhakepfaaDoor.fnNibbleTwo
