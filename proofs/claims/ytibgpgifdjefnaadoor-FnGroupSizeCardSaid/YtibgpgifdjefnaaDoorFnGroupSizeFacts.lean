/-
  The closed facts of the row of FnGroupSize. No condition.
-/
import Derived.Test.YtibgpgifdjefnaaDoorRows
import Derived.JoinedOf
import Derived.KernelRfl
namespace Go.Proofs.YtibgpgifdjefnaaDoor.fnGroupSize
theorem facts : joinedFacts Tryd.pinned.checked.prog 4 Tryd.f4 Rows.fnGroupSizeSpec Rows.fnGroupSizeRow = true := by kernel_rfl
end Go.Proofs.YtibgpgifdjefnaaDoor.fnGroupSize
