/-
  The closed facts of the row of FnExactFindPattern. No condition.
-/
import Derived.Test.YtdnnpnaaohfgaabRows
import Derived.JoinedOf
import Derived.KernelRfl
namespace Go.Proofs.Ytdnnpnaaohfgaab.fnExactFindPattern
theorem facts : joinedFacts Try.pinned.checked.prog 8 Try.f8 Rows.fnExactFindPatternSpec Rows.fnExactFindPatternRow = true := by kernel_rfl
end Go.Proofs.Ytdnnpnaaohfgaab.fnExactFindPattern
