/-
  The closed facts of the row of FnDeinterleaveBits. No condition.
-/
import Derived.Test.YtmhngakfjlkchaaRows
import Derived.JoinedOf
import Derived.KernelRfl
namespace Go.Proofs.Ytmhngakfjlkchaa.fnDeinterleaveBits
theorem facts : joinedFacts Try.pinned.checked.prog 4 Try.f4 Rows.fnDeinterleaveBitsSpec Rows.fnDeinterleaveBitsRow = true := by kernel_rfl
end Go.Proofs.Ytmhngakfjlkchaa.fnDeinterleaveBits
