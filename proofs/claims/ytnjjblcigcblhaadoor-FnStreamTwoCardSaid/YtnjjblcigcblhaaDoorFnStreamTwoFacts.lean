/-
  The closed facts of the row of FnStreamTwo. No condition.
-/
import Derived.Test.YtnjjblcigcblhaaDoorRows
import Derived.JoinedOf
import Derived.KernelRfl
namespace Go.Proofs.YtnjjblcigcblhaaDoor.fnStreamTwo
theorem facts : joinedFacts Tryd.pinned.checked.prog 6 Tryd.f6 Rows.fnStreamTwoSpec Rows.fnStreamTwoRow = true := by kernel_rfl
end Go.Proofs.YtnjjblcigcblhaaDoor.fnStreamTwo
