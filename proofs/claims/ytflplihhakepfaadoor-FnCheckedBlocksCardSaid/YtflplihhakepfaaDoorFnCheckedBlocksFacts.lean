/-
  The closed facts of the row of FnCheckedBlocks. No condition.
-/
import Derived.Test.YtflplihhakepfaaDoorRows
import Derived.JoinedOf
import Derived.KernelRfl
namespace Go.Proofs.YtflplihhakepfaaDoor.fnCheckedBlocks
theorem facts : joinedFacts Tryd.pinned.checked.prog 8 Tryd.f8 Rows.fnCheckedBlocksSpec Rows.fnCheckedBlocksRow = true := by kernel_rfl
end Go.Proofs.YtflplihhakepfaaDoor.fnCheckedBlocks
