/-
  The closed facts of the row of FnExactDecodeNibble. No condition.
-/
import Derived.Test.YtflplihhakepfabDoorRows
import Derived.JoinedOf
import Derived.KernelRfl
namespace Go.Proofs.YtflplihhakepfabDoor.fnExactDecodeNibble
theorem facts : joinedFacts Tryd.pinned.checked.prog 4 Tryd.f4 Rows.fnExactDecodeNibbleSpec Rows.fnExactDecodeNibbleRow = true := by kernel_rfl
end Go.Proofs.YtflplihhakepfabDoor.fnExactDecodeNibble
