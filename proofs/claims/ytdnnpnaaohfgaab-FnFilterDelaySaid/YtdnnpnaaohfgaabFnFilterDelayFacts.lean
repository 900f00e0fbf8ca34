/-
  The closed facts of the row of FnFilterDelay. No condition.
-/
import Derived.Test.YtdnnpnaaohfgaabRows
import Derived.JoinedOf
import Derived.KernelRfl
namespace Go.Proofs.Ytdnnpnaaohfgaab.fnFilterDelay
theorem facts : joinedFacts Try.pinned.checked.prog 3 Try.f3 Rows.fnFilterDelaySpec Rows.fnFilterDelayRow = true := by kernel_rfl
end Go.Proofs.Ytdnnpnaaohfgaab.fnFilterDelay
