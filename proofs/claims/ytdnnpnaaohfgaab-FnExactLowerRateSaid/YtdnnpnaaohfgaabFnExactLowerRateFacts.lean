/-
  The closed facts of the row of FnExactLowerRate. No condition.
-/
import Derived.Test.YtdnnpnaaohfgaabRows
import Derived.JoinedOf
import Derived.KernelRfl
namespace Go.Proofs.Ytdnnpnaaohfgaab.fnExactLowerRate
theorem facts : joinedFacts Try.pinned.checked.prog 10 Try.f10 Rows.fnExactLowerRateSpec Rows.fnExactLowerRateRow = true := by kernel_rfl
end Go.Proofs.Ytdnnpnaaohfgaab.fnExactLowerRate
