/-
  The closed facts of the row of FnExactDeinterleaveBits. No condition.
-/
import Derived.Test.YtmhngakfjlkchaaRows
import Derived.JoinedOf
import Derived.KernelRfl
namespace Go.Proofs.Ytmhngakfjlkchaa.fnExactDeinterleaveBits
theorem facts : joinedFacts Try.pinned.checked.prog 7 Try.f7 Rows.fnExactDeinterleaveBitsSpec Rows.fnExactDeinterleaveBitsRow = true := by kernel_rfl
end Go.Proofs.Ytmhngakfjlkchaa.fnExactDeinterleaveBits
