/-
  The closed facts of the row of FnExactRemoveMean. No condition.
-/
import Derived.Test.YtckjlonlkckhdaaRows
import Derived.JoinedOf
import Derived.KernelRfl
namespace Go.Proofs.Ytckjlonlkckhdaa.fnExactRemoveMean
theorem facts : joinedFacts Try.pinned.checked.prog 11 Try.f11 Rows.fnExactRemoveMeanSpec Rows.fnExactRemoveMeanRow = true := by kernel_rfl
end Go.Proofs.Ytckjlonlkckhdaa.fnExactRemoveMean
