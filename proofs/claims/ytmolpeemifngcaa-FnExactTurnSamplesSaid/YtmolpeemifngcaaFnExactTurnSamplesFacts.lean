/-
  The closed facts of the row of FnExactTurnSamples. No condition.
-/
import Derived.Test.YtmolpeemifngcaaRows
import Derived.JoinedOf
import Derived.KernelRfl
namespace Go.Proofs.Ytmolpeemifngcaa.fnExactTurnSamples
theorem facts : joinedFacts Try.pinned.checked.prog 13 Try.f13 Rows.fnExactTurnSamplesSpec Rows.fnExactTurnSamplesRow = true := by kernel_rfl
end Go.Proofs.Ytmolpeemifngcaa.fnExactTurnSamples
