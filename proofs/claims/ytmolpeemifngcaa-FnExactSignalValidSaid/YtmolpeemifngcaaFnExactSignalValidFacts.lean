/-
  The closed facts of the row of FnExactSignalValid. No condition.
-/
import Derived.Test.YtmolpeemifngcaaRows
import Derived.JoinedOf
import Derived.KernelRfl
namespace Go.Proofs.Ytmolpeemifngcaa.fnExactSignalValid
theorem facts : joinedFacts Try.pinned.checked.prog 10 Try.f10 Rows.fnExactSignalValidSpec Rows.fnExactSignalValidRow = true := by kernel_rfl
end Go.Proofs.Ytmolpeemifngcaa.fnExactSignalValid
