/-
  The closed facts of the row of FnSpreadBits. No condition.
-/
import Derived.Test.YtnnknfpkbhcghaaRows
import Derived.JoinedOf
import Derived.KernelRfl
namespace Go.Proofs.Ytnnknfpkbhcghaa.fnSpreadBits
theorem facts : joinedFacts Try.pinned.checked.prog 4 Try.f4 Rows.fnSpreadBitsSpec Rows.fnSpreadBitsRow = true := by kernel_rfl
end Go.Proofs.Ytnnknfpkbhcghaa.fnSpreadBits
