/-
  The closed facts of the row of FnUndoExact. No condition.
-/
import Derived.Test.YtdnnpnaaohfgaaaRows
import Derived.JoinedOf
import Derived.KernelRfl
namespace Go.Proofs.Ytdnnpnaaohfgaaa.fnUndoExact
theorem facts : joinedFacts Try.pinned.checked.prog 10 Try.f10 Rows.fnUndoExactSpec Rows.fnUndoExactRow = true := by kernel_rfl
end Go.Proofs.Ytdnnpnaaohfgaaa.fnUndoExact
