/-
  The closed facts of the row of FnExactFilterSequence. No condition.
-/
import Derived.Test.YtdnnpnaaohfgaabRows
import Derived.JoinedOf
import Derived.KernelRfl
namespace Go.Proofs.Ytdnnpnaaohfgaab.fnExactFilterSequence
theorem facts : joinedFacts Try.pinned.checked.prog 6 Try.f6 Rows.fnExactFilterSequenceSpec Rows.fnExactFilterSequenceRow = true := by kernel_rfl
end Go.Proofs.Ytdnnpnaaohfgaab.fnExactFilterSequence
