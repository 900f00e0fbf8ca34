/-
  The closed facts of the row of FnFindPattern. No condition.
-/
import Derived.Test.YtdnnpnaaohfgaaaRows
import Derived.JoinedOf
import Derived.KernelRfl
namespace Go.Proofs.Ytdnnpnaaohfgaaa.fnFindPattern
theorem facts : joinedFacts Try.pinned.checked.prog 6 Try.f6 Rows.fnFindPatternSpec Rows.fnFindPatternRow = true := by kernel_rfl
end Go.Proofs.Ytdnnpnaaohfgaaa.fnFindPattern
