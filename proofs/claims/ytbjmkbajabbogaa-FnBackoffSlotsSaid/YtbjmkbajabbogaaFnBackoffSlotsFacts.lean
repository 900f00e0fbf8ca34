/-
  The closed facts of the row of FnBackoffSlots. No condition.
-/
import Derived.Test.YtbjmkbajabbogaaRows
import Derived.JoinedOf
import Derived.KernelRfl
namespace Go.Proofs.Ytbjmkbajabbogaa.fnBackoffSlots
theorem facts : joinedFacts Try.pinned.checked.prog 5 Try.f5 Rows.fnBackoffSlotsSpec Rows.fnBackoffSlotsRow = true := by kernel_rfl
end Go.Proofs.Ytbjmkbajabbogaa.fnBackoffSlots
