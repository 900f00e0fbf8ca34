/-
  The closed facts of the row of FnExactSequenceValid. No condition.
-/
import Derived.Test.YtdnnpnaaohfgaabRows
import Derived.JoinedOf
import Derived.KernelRfl
namespace Go.Proofs.Ytdnnpnaaohfgaab.fnExactSequenceValid
theorem facts : joinedFacts Try.pinned.checked.prog 5 Try.f5 Rows.fnExactSequenceValidSpec Rows.fnExactSequenceValidRow = true := by kernel_rfl
end Go.Proofs.Ytdnnpnaaohfgaab.fnExactSequenceValid
