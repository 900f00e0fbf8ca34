/-
  The closed facts of the row of FnExactInterleaveBits. No condition.
-/
import Derived.Test.YtmhngakfjlkchaaRows
import Derived.JoinedOf
import Derived.KernelRfl
namespace Go.Proofs.Ytmhngakfjlkchaa.fnExactInterleaveBits
theorem facts : joinedFacts Try.pinned.checked.prog 6 Try.f6 Rows.fnExactInterleaveBitsSpec Rows.fnExactInterleaveBitsRow = true := by kernel_rfl
end Go.Proofs.Ytmhngakfjlkchaa.fnExactInterleaveBits
