/-
  The closed facts of the row of FnFilterSequence. No condition.
-/
import Derived.Test.YtdnnpnaaohfgaaaRows
import Derived.JoinedOf
import Derived.KernelRfl
namespace Go.Proofs.Ytdnnpnaaohfgaaa.fnFilterSequence
theorem facts : joinedFacts Try.pinned.checked.prog 4 Try.f4 Rows.fnFilterSequenceSpec Rows.fnFilterSequenceRow = true := by kernel_rfl
end Go.Proofs.Ytdnnpnaaohfgaaa.fnFilterSequence
