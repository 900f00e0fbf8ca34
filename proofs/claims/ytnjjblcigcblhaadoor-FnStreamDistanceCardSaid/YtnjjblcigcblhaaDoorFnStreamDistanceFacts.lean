/-
  The closed facts of the row of FnStreamDistance. No condition.
-/
import Derived.Test.YtnjjblcigcblhaaDoorRows
import Derived.JoinedOf
import Derived.KernelRfl
namespace Go.Proofs.YtnjjblcigcblhaaDoor.fnStreamDistance
theorem facts : joinedFacts Tryd.pinned.checked.prog 7 Tryd.f7 Rows.fnStreamDistanceSpec Rows.fnStreamDistanceRow = true := by kernel_rfl
end Go.Proofs.YtnjjblcigcblhaaDoor.fnStreamDistance
