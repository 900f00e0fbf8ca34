/-
  The closed facts of the row of FnEncodeNibble. No condition.
-/
import Derived.Test.YtflplihhakepfaaDoorRows
import Derived.JoinedOf
import Derived.KernelRfl
namespace Go.Proofs.YtflplihhakepfaaDoor.fnEncodeNibble
theorem facts : joinedFacts Tryd.pinned.checked.prog 3 Tryd.f3 Rows.fnEncodeNibbleSpec Rows.fnEncodeNibbleRow = true := by kernel_rfl
end Go.Proofs.YtflplihhakepfaaDoor.fnEncodeNibble
