/-
  The closed facts of the row of FnSliceBits. No condition.
-/
import Derived.Test.YtmolpeemifngcaaRows
import Derived.JoinedOf
import Derived.KernelRfl
namespace Go.Proofs.Ytmolpeemifngcaa.fnSliceBits
theorem facts : joinedFacts Try.pinned.checked.prog 6 Try.f6 Rows.fnSliceBitsSpec Rows.fnSliceBitsRow = true := by kernel_rfl
end Go.Proofs.Ytmolpeemifngcaa.fnSliceBits
