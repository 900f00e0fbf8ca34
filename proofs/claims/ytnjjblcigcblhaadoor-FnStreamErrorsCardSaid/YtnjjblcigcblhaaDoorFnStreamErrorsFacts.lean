/-
  The closed facts of the row of FnStreamErrors. No condition.
-/
import Derived.Test.YtnjjblcigcblhaaDoorRows
import Derived.JoinedOf
import Derived.KernelRfl
namespace Go.Proofs.YtnjjblcigcblhaaDoor.fnStreamErrors
theorem facts : joinedFacts Tryd.pinned.checked.prog 5 Tryd.f5 Rows.fnStreamErrorsSpec Rows.fnStreamErrorsRow = true := by kernel_rfl
end Go.Proofs.YtnjjblcigcblhaaDoor.fnStreamErrors
