/-
  The closed facts of the row of FnExactSliceBits. No condition.
-/
import Derived.Test.YtmolpeemifngcaaRows
import Derived.JoinedOf
import Derived.KernelRfl
namespace Go.Proofs.Ytmolpeemifngcaa.fnExactSliceBits
theorem facts : joinedFacts Try.pinned.checked.prog 12 Try.f12 Rows.fnExactSliceBitsSpec Rows.fnExactSliceBitsRow = true := by kernel_rfl
end Go.Proofs.Ytmolpeemifngcaa.fnExactSliceBits
