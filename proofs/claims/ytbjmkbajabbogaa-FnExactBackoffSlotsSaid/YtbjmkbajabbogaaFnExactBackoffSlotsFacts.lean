/-
  The closed facts of the row of FnExactBackoffSlots. No condition.
-/
import Derived.Test.YtbjmkbajabbogaaRows
import Derived.JoinedOf
import Derived.KernelRfl
namespace Go.Proofs.Ytbjmkbajabbogaa.fnExactBackoffSlots
theorem facts : joinedFacts Try.pinned.checked.prog 10 Try.f10 Rows.fnExactBackoffSlotsSpec Rows.fnExactBackoffSlotsRow = true := by kernel_rfl
end Go.Proofs.Ytbjmkbajabbogaa.fnExactBackoffSlots
