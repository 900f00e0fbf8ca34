/-
  The closed facts of the row of FnDecodeStream. No condition.
-/
import Derived.Test.YtnjjblcigcblhaaDoorRows
import Derived.JoinedOf
import Derived.KernelRfl
namespace Go.Proofs.YtnjjblcigcblhaaDoor.fnDecodeStream
theorem facts : joinedFacts Tryd.pinned.checked.prog 4 Tryd.f4 Rows.fnDecodeStreamSpec Rows.fnDecodeStreamRow = true := by kernel_rfl
end Go.Proofs.YtnjjblcigcblhaaDoor.fnDecodeStream
