/-
  The closed facts of the row of FnWalshGroup. No condition.
-/
import Derived.Test.YtnnknfpkbhcghaaRows
import Derived.JoinedOf
import Derived.KernelRfl
namespace Go.Proofs.Ytnnknfpkbhcghaa.fnWalshGroup
theorem facts : joinedFacts Try.pinned.checked.prog 8 Try.f8 Rows.fnWalshGroupSpec Rows.fnWalshGroupRow = true := by kernel_rfl
end Go.Proofs.Ytnnknfpkbhcghaa.fnWalshGroup
