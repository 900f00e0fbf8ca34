/-
  The closed facts of the row of FnEncodeStream. No condition.
-/
import Derived.Test.YtnjjblcigcblhaaDoorRows
import Derived.JoinedOf
import Derived.KernelRfl
namespace Go.Proofs.YtnjjblcigcblhaaDoor.fnEncodeStream
theorem facts : joinedFacts Tryd.pinned.checked.prog 3 Tryd.f3 Rows.fnEncodeStreamSpec Rows.fnEncodeStreamRow = true := by kernel_rfl
end Go.Proofs.YtnjjblcigcblhaaDoor.fnEncodeStream
