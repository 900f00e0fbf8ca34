/-
  The closed facts of the row of FnExactDespreadBits. No condition.
-/
import Derived.Test.YtnnknfpkbhcghaaRows
import Derived.JoinedOf
import Derived.KernelRfl
namespace Go.Proofs.Ytnnknfpkbhcghaa.fnExactDespreadBits
theorem facts : joinedFacts Try.pinned.checked.prog 13 Try.f13 Rows.fnExactDespreadBitsSpec Rows.fnExactDespreadBitsRow = true := by kernel_rfl
end Go.Proofs.Ytnnknfpkbhcghaa.fnExactDespreadBits
