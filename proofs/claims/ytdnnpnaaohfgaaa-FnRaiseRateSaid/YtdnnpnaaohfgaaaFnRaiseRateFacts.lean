/-
  The closed facts of the row of FnRaiseRate. No condition.
-/
import Derived.Test.YtdnnpnaaohfgaaaRows
import Derived.JoinedOf
import Derived.KernelRfl
namespace Go.Proofs.Ytdnnpnaaohfgaaa.fnRaiseRate
theorem facts : joinedFacts Try.pinned.checked.prog 7 Try.f7 Rows.fnRaiseRateSpec Rows.fnRaiseRateRow = true := by kernel_rfl
end Go.Proofs.Ytdnnpnaaohfgaaa.fnRaiseRate
