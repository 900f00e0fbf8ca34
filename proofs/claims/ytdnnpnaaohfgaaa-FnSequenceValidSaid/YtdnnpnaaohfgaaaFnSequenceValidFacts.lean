/-
  The closed facts of the row of FnSequenceValid. No condition.
-/
import Derived.Test.YtdnnpnaaohfgaaaRows
import Derived.JoinedOf
import Derived.KernelRfl
namespace Go.Proofs.Ytdnnpnaaohfgaaa.fnSequenceValid
theorem facts : joinedFacts Try.pinned.checked.prog 3 Try.f3 Rows.fnSequenceValidSpec Rows.fnSequenceValidRow = true := by kernel_rfl
end Go.Proofs.Ytdnnpnaaohfgaaa.fnSequenceValid
