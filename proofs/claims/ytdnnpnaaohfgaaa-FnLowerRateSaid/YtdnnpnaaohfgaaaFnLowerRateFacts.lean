/-
  The closed facts of the row of FnLowerRate. No condition.
-/
import Derived.Test.YtdnnpnaaohfgaaaRows
import Derived.JoinedOf
import Derived.KernelRfl
namespace Go.Proofs.Ytdnnpnaaohfgaaa.fnLowerRate
theorem facts : joinedFacts Try.pinned.checked.prog 8 Try.f8 Rows.fnLowerRateSpec Rows.fnLowerRateRow = true := by kernel_rfl
end Go.Proofs.Ytdnnpnaaohfgaaa.fnLowerRate
