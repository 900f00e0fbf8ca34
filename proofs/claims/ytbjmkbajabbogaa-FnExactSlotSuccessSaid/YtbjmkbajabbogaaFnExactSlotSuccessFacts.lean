/-
  The closed facts of the row of FnExactSlotSuccess. No condition.
-/
import Derived.Test.YtbjmkbajabbogaaRows
import Derived.JoinedOf
import Derived.KernelRfl
namespace Go.Proofs.Ytbjmkbajabbogaa.fnExactSlotSuccess
theorem facts : joinedFacts Try.pinned.checked.prog 8 Try.f8 Rows.fnExactSlotSuccessSpec Rows.fnExactSlotSuccessRow = true := by kernel_rfl
end Go.Proofs.Ytbjmkbajabbogaa.fnExactSlotSuccess
