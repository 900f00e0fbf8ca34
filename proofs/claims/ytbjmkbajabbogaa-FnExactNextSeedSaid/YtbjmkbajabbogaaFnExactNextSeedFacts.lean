/-
  The closed facts of the row of FnExactNextSeed. No condition.
-/
import Derived.Test.YtbjmkbajabbogaaRows
import Derived.JoinedOf
import Derived.KernelRfl
namespace Go.Proofs.Ytbjmkbajabbogaa.fnExactNextSeed
theorem facts : joinedFacts Try.pinned.checked.prog 9 Try.f9 Rows.fnExactNextSeedSpec Rows.fnExactNextSeedRow = true := by kernel_rfl
end Go.Proofs.Ytbjmkbajabbogaa.fnExactNextSeed
