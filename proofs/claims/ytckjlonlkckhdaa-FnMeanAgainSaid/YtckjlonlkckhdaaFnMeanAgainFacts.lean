/-
  The closed facts of the row of FnMeanAgain. No condition.
-/
import Derived.Test.YtckjlonlkckhdaaRows
import Derived.JoinedOf
import Derived.KernelRfl
namespace Go.Proofs.Ytckjlonlkckhdaa.fnMeanAgain
theorem facts : joinedFacts Try.pinned.checked.prog 7 Try.f7 Rows.fnMeanAgainSpec Rows.fnMeanAgainRow = true := by kernel_rfl
end Go.Proofs.Ytckjlonlkckhdaa.fnMeanAgain
