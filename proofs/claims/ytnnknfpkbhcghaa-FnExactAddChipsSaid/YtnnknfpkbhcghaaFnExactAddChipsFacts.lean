/-
  The closed facts of the row of FnExactAddChips. No condition.
-/
import Derived.Test.YtnnknfpkbhcghaaRows
import Derived.JoinedOf
import Derived.KernelRfl
namespace Go.Proofs.Ytnnknfpkbhcghaa.fnExactAddChips
theorem facts : joinedFacts Try.pinned.checked.prog 11 Try.f11 Rows.fnExactAddChipsSpec Rows.fnExactAddChipsRow = true := by kernel_rfl
end Go.Proofs.Ytnnknfpkbhcghaa.fnExactAddChips
