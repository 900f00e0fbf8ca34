/-
  The closed facts of the row of FnExactUndoFilter. No condition.
-/
import Derived.Test.YtdnnpnaaohfgaabRows
import Derived.JoinedOf
import Derived.KernelRfl
namespace Go.Proofs.Ytdnnpnaaohfgaab.fnExactUndoFilter
theorem facts : joinedFacts Try.pinned.checked.prog 11 Try.f11 Rows.fnExactUndoFilterSpec Rows.fnExactUndoFilterRow = true := by kernel_rfl
end Go.Proofs.Ytdnnpnaaohfgaab.fnExactUndoFilter
