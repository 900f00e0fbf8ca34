/-
  The closed facts of the row of FnDecodeNibble. No condition.
-/
import Derived.Test.YtflplihhakepfaaDoorRows
import Derived.JoinedOf
import Derived.KernelRfl
namespace Go.Proofs.YtflplihhakepfaaDoor.fnDecodeNibble
theorem facts : joinedFacts Tryd.pinned.checked.prog 5 Tryd.f5 Rows.fnDecodeNibbleSpec Rows.fnDecodeNibbleRow = true := by kernel_rfl
end Go.Proofs.YtflplihhakepfaaDoor.fnDecodeNibble
