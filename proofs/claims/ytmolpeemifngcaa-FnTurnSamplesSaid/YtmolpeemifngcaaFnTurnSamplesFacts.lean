/-
  The closed facts of the row of FnTurnSamples. No condition.
-/
import Derived.Test.YtmolpeemifngcaaRows
import Derived.JoinedOf
import Derived.KernelRfl
namespace Go.Proofs.Ytmolpeemifngcaa.fnTurnSamples
theorem facts : joinedFacts Try.pinned.checked.prog 7 Try.f7 Rows.fnTurnSamplesSpec Rows.fnTurnSamplesRow = true := by kernel_rfl
end Go.Proofs.Ytmolpeemifngcaa.fnTurnSamples
