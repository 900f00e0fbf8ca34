/-
  The closed facts of the row of FnExactDecodeStream. No condition.
-/
import Derived.Test.YtnjjblcigcblhaaDoorRows
import Derived.JoinedOf
import Derived.KernelRfl
namespace Go.Proofs.YtnjjblcigcblhaaDoor.fnExactDecodeStream
theorem facts : joinedFacts Tryd.pinned.checked.prog 9 Tryd.f9 Rows.fnExactDecodeStreamSpec Rows.fnExactDecodeStreamRow = true := by kernel_rfl
end Go.Proofs.YtnjjblcigcblhaaDoor.fnExactDecodeStream
