/-
  The closed facts of the row of FnUndoFilter. No condition.
-/
import Derived.Test.YtdnnpnaaohfgaaaRows
import Derived.JoinedOf
import Derived.KernelRfl
namespace Go.Proofs.Ytdnnpnaaohfgaaa.fnUndoFilter
theorem facts : joinedFacts Try.pinned.checked.prog 9 Try.f9 Rows.fnUndoFilterSpec Rows.fnUndoFilterRow = true := by kernel_rfl
end Go.Proofs.Ytdnnpnaaohfgaaa.fnUndoFilter
