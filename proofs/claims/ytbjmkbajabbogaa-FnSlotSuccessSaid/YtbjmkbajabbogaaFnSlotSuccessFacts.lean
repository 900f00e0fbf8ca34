/-
  The closed facts of the row of FnSlotSuccess. No condition.
-/
import Derived.Test.YtbjmkbajabbogaaRows
import Derived.JoinedOf
import Derived.KernelRfl
namespace Go.Proofs.Ytbjmkbajabbogaa.fnSlotSuccess
theorem facts : joinedFacts Try.pinned.checked.prog 3 Try.f3 Rows.fnSlotSuccessSpec Rows.fnSlotSuccessRow = true := by kernel_rfl
end Go.Proofs.Ytbjmkbajabbogaa.fnSlotSuccess
