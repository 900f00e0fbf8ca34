/-
  The closed facts of the row of FnInterleaveBits. No condition.
-/
import Derived.Test.YtmhngakfjlkchaaRows
import Derived.JoinedOf
import Derived.KernelRfl
namespace Go.Proofs.Ytmhngakfjlkchaa.fnInterleaveBits
theorem facts : joinedFacts Try.pinned.checked.prog 3 Try.f3 Rows.fnInterleaveBitsSpec Rows.fnInterleaveBitsRow = true := by kernel_rfl
end Go.Proofs.Ytmhngakfjlkchaa.fnInterleaveBits
