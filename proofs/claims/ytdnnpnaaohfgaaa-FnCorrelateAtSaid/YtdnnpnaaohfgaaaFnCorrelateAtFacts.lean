/-
  The closed facts of the row of FnCorrelateAt. No condition.
-/
import Derived.Test.YtdnnpnaaohfgaaaRows
import Derived.JoinedOf
import Derived.KernelRfl
namespace Go.Proofs.Ytdnnpnaaohfgaaa.fnCorrelateAt
theorem facts : joinedFacts Try.pinned.checked.prog 5 Try.f5 Rows.fnCorrelateAtSpec Rows.fnCorrelateAtRow = true := by kernel_rfl
end Go.Proofs.Ytdnnpnaaohfgaaa.fnCorrelateAt
