/-
  The closed facts of the row of FnRemoveMean. No condition.
-/
import Derived.Test.YtckjlonlkckhdaaRows
import Derived.JoinedOf
import Derived.KernelRfl
namespace Go.Proofs.Ytckjlonlkckhdaa.fnRemoveMean
theorem facts : joinedFacts Try.pinned.checked.prog 6 Try.f6 Rows.fnRemoveMeanSpec Rows.fnRemoveMeanRow = true := by kernel_rfl
end Go.Proofs.Ytckjlonlkckhdaa.fnRemoveMean
