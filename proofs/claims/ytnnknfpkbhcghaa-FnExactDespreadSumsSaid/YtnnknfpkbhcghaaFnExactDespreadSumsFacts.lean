/-
  The closed facts of the row of FnExactDespreadSums. No condition.
-/
import Derived.Test.YtnnknfpkbhcghaaRows
import Derived.JoinedOf
import Derived.KernelRfl
namespace Go.Proofs.Ytnnknfpkbhcghaa.fnExactDespreadSums
theorem facts : joinedFacts Try.pinned.checked.prog 12 Try.f12 Rows.fnExactDespreadSumsSpec Rows.fnExactDespreadSumsRow = true := by kernel_rfl
end Go.Proofs.Ytnnknfpkbhcghaa.fnExactDespreadSums
