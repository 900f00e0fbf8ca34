/-
  The closed facts of the row of FnExactStreamErrors. No condition.
-/
import Derived.Test.YtnjjblcigcblhaaDoorRows
import Derived.JoinedOf
import Derived.KernelRfl
namespace Go.Proofs.YtnjjblcigcblhaaDoor.fnExactStreamErrors
theorem facts : joinedFacts Tryd.pinned.checked.prog 10 Tryd.f10 Rows.fnExactStreamErrorsSpec Rows.fnExactStreamErrorsRow = true := by kernel_rfl
end Go.Proofs.YtnjjblcigcblhaaDoor.fnExactStreamErrors
