/-
  The closed facts of the row of FnDecodeBlocks. No condition.
-/
import Derived.Test.YtflplihhakepfaaDoorRows
import Derived.JoinedOf
import Derived.KernelRfl
namespace Go.Proofs.YtflplihhakepfaaDoor.fnDecodeBlocks
theorem facts : joinedFacts Tryd.pinned.checked.prog 7 Tryd.f7 Rows.fnDecodeBlocksSpec Rows.fnDecodeBlocksRow = true := by kernel_rfl
end Go.Proofs.YtflplihhakepfaaDoor.fnDecodeBlocks
