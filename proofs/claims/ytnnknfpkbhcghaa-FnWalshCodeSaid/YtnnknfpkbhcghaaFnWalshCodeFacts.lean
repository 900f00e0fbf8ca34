/-
  The closed facts of the row of FnWalshCode. No condition.
-/
import Derived.Test.YtnnknfpkbhcghaaRows
import Derived.JoinedOf
import Derived.KernelRfl
namespace Go.Proofs.Ytnnknfpkbhcghaa.fnWalshCode
theorem facts : joinedFacts Try.pinned.checked.prog 3 Try.f3 Rows.fnWalshCodeSpec Rows.fnWalshCodeRow = true := by kernel_rfl
end Go.Proofs.Ytnnknfpkbhcghaa.fnWalshCode
