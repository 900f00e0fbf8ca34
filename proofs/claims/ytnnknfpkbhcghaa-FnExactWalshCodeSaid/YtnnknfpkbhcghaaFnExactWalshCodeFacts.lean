/-
  The closed facts of the row of FnExactWalshCode. No condition.
-/
import Derived.Test.YtnnknfpkbhcghaaRows
import Derived.JoinedOf
import Derived.KernelRfl
namespace Go.Proofs.Ytnnknfpkbhcghaa.fnExactWalshCode
theorem facts : joinedFacts Try.pinned.checked.prog 9 Try.f9 Rows.fnExactWalshCodeSpec Rows.fnExactWalshCodeRow = true := by kernel_rfl
end Go.Proofs.Ytnnknfpkbhcghaa.fnExactWalshCode
