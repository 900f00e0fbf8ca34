/-
  The closed facts of the row of FnDespreadSums. No condition.
-/
import Derived.Test.YtnnknfpkbhcghaaRows
import Derived.JoinedOf
import Derived.KernelRfl
namespace Go.Proofs.Ytnnknfpkbhcghaa.fnDespreadSums
theorem facts : joinedFacts Try.pinned.checked.prog 6 Try.f6 Rows.fnDespreadSumsSpec Rows.fnDespreadSumsRow = true := by kernel_rfl
end Go.Proofs.Ytnnknfpkbhcghaa.fnDespreadSums
