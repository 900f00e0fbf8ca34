/-
  The closed facts of the row of FnExactGroupSize. No condition.
-/
import Derived.Test.YtibgpgifdjefnaaDoorRows
import Derived.JoinedOf
import Derived.KernelRfl
namespace Go.Proofs.YtibgpgifdjefnaaDoor.fnExactGroupSize
theorem facts : joinedFacts Tryd.pinned.checked.prog 6 Tryd.f6 Rows.fnExactGroupSizeSpec Rows.fnExactGroupSizeRow = true := by kernel_rfl
end Go.Proofs.YtibgpgifdjefnaaDoor.fnExactGroupSize
