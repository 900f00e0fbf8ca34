/-
  The closed facts of the row of FnExactEncodeStream. No condition.
-/
import Derived.Test.YtnjjblcigcblhaaDoorRows
import Derived.JoinedOf
import Derived.KernelRfl
namespace Go.Proofs.YtnjjblcigcblhaaDoor.fnExactEncodeStream
theorem facts : joinedFacts Tryd.pinned.checked.prog 8 Tryd.f8 Rows.fnExactEncodeStreamSpec Rows.fnExactEncodeStreamRow = true := by kernel_rfl
end Go.Proofs.YtnjjblcigcblhaaDoor.fnExactEncodeStream
