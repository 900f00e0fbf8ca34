/-
  The closed facts of the row of FnExactSpreadBits. No condition.
-/
import Derived.Test.YtnnknfpkbhcghaaRows
import Derived.JoinedOf
import Derived.KernelRfl
namespace Go.Proofs.Ytnnknfpkbhcghaa.fnExactSpreadBits
theorem facts : joinedFacts Try.pinned.checked.prog 10 Try.f10 Rows.fnExactSpreadBitsSpec Rows.fnExactSpreadBitsRow = true := by kernel_rfl
end Go.Proofs.Ytnnknfpkbhcghaa.fnExactSpreadBits
