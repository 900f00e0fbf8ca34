/-
  The closed facts of the row of FnExactRaiseRate. No condition.
-/
import Derived.Test.YtdnnpnaaohfgaabRows
import Derived.JoinedOf
import Derived.KernelRfl
namespace Go.Proofs.Ytdnnpnaaohfgaab.fnExactRaiseRate
theorem facts : joinedFacts Try.pinned.checked.prog 9 Try.f9 Rows.fnExactRaiseRateSpec Rows.fnExactRaiseRateRow = true := by kernel_rfl
end Go.Proofs.Ytdnnpnaaohfgaab.fnExactRaiseRate
