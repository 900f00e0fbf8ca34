/-
  The closed facts of the row of FnSignalValid. No condition.
-/
import Derived.Test.YtmolpeemifngcaaRows
import Derived.JoinedOf
import Derived.KernelRfl
namespace Go.Proofs.Ytmolpeemifngcaa.fnSignalValid
theorem facts : joinedFacts Try.pinned.checked.prog 4 Try.f4 Rows.fnSignalValidSpec Rows.fnSignalValidRow = true := by kernel_rfl
end Go.Proofs.Ytmolpeemifngcaa.fnSignalValid
