/-
  The closed facts of the row of FnExactCorrelateAt. No condition.
-/
import Derived.Test.YtdnnpnaaohfgaabRows
import Derived.JoinedOf
import Derived.KernelRfl
namespace Go.Proofs.Ytdnnpnaaohfgaab.fnExactCorrelateAt
theorem facts : joinedFacts Try.pinned.checked.prog 7 Try.f7 Rows.fnExactCorrelateAtSpec Rows.fnExactCorrelateAtRow = true := by kernel_rfl
end Go.Proofs.Ytdnnpnaaohfgaab.fnExactCorrelateAt
