/-
  The closed facts of the row of FnEncodeBlocks. No condition.
-/
import Derived.Test.YtflplihhakepfaaDoorRows
import Derived.JoinedOf
import Derived.KernelRfl
namespace Go.Proofs.YtflplihhakepfaaDoor.fnEncodeBlocks
theorem facts : joinedFacts Tryd.pinned.checked.prog 6 Tryd.f6 Rows.fnEncodeBlocksSpec Rows.fnEncodeBlocksRow = true := by kernel_rfl
end Go.Proofs.YtflplihhakepfaaDoor.fnEncodeBlocks
