/-
  The closed facts of the row of FnAddChips. No condition.
-/
import Derived.Test.YtnnknfpkbhcghaaRows
import Derived.JoinedOf
import Derived.KernelRfl
namespace Go.Proofs.Ytnnknfpkbhcghaa.fnAddChips
theorem facts : joinedFacts Try.pinned.checked.prog 5 Try.f5 Rows.fnAddChipsSpec Rows.fnAddChipsRow = true := by kernel_rfl
end Go.Proofs.Ytnnknfpkbhcghaa.fnAddChips
