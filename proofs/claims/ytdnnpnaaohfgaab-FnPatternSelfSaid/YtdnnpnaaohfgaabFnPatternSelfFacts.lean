/-
  The closed facts of the row of FnPatternSelf. No condition.
-/
import Derived.Test.YtdnnpnaaohfgaabRows
import Derived.JoinedOf
import Derived.KernelRfl
namespace Go.Proofs.Ytdnnpnaaohfgaab.fnPatternSelf
theorem facts : joinedFacts Try.pinned.checked.prog 4 Try.f4 Rows.fnPatternSelfSpec Rows.fnPatternSelfRow = true := by kernel_rfl
end Go.Proofs.Ytdnnpnaaohfgaab.fnPatternSelf
