/-
  The closed facts of the row of FnExactEncodeBlocks. No condition.
-/
import Derived.Test.YtflplihhakepfabRows
import Derived.JoinedOf
import Derived.KernelRfl
namespace Go.Proofs.Ytflplihhakepfab.fnExactEncodeBlocks
theorem facts : joinedFacts Try.pinned.checked.prog 4 Try.f4 Rows.fnExactEncodeBlocksSpec Rows.fnExactEncodeBlocksRow = true := by kernel_rfl
end Go.Proofs.Ytflplihhakepfab.fnExactEncodeBlocks
