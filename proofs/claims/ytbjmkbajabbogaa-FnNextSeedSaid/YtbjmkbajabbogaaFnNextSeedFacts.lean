/-
  The closed facts of the row of FnNextSeed. No condition.
-/
import Derived.Test.YtbjmkbajabbogaaRows
import Derived.JoinedOf
import Derived.KernelRfl
namespace Go.Proofs.Ytbjmkbajabbogaa.fnNextSeed
theorem facts : joinedFacts Try.pinned.checked.prog 4 Try.f4 Rows.fnNextSeedSpec Rows.fnNextSeedRow = true := by kernel_rfl
end Go.Proofs.Ytbjmkbajabbogaa.fnNextSeed
