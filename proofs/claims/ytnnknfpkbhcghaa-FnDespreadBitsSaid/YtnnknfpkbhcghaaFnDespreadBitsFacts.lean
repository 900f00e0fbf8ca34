/-
  The closed facts of the row of FnDespreadBits. No condition.
-/
import Derived.Test.YtnnknfpkbhcghaaRows
import Derived.JoinedOf
import Derived.KernelRfl
namespace Go.Proofs.Ytnnknfpkbhcghaa.fnDespreadBits
theorem facts : joinedFacts Try.pinned.checked.prog 7 Try.f7 Rows.fnDespreadBitsSpec Rows.fnDespreadBitsRow = true := by kernel_rfl
end Go.Proofs.Ytnnknfpkbhcghaa.fnDespreadBits
