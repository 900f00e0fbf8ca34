/-
  The closed facts of the row of FnExactDecodeBlocks. No condition.
-/
import Derived.Test.YtflplihhakepfabDoorRows
import Derived.JoinedOf
import Derived.KernelRfl
namespace Go.Proofs.YtflplihhakepfabDoor.fnExactDecodeBlocks
theorem facts : joinedFacts Tryd.pinned.checked.prog 5 Tryd.f5 Rows.fnExactDecodeBlocksSpec Rows.fnExactDecodeBlocksRow = true := by kernel_rfl
end Go.Proofs.YtflplihhakepfabDoor.fnExactDecodeBlocks
