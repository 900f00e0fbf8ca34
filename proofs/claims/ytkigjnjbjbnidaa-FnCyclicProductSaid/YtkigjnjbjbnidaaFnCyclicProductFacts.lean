/-
  The closed facts of the row of FnCyclicProduct. No condition.
-/
import Derived.Test.YtkigjnjbjbnidaaRows
import Derived.JoinedOf
import Derived.KernelRfl
namespace Go.Proofs.Ytkigjnjbjbnidaa.fnCyclicProduct
theorem facts : joinedFacts Try.pinned.checked.prog 6 Try.f6 Rows.fnCyclicProductSpec Rows.fnCyclicProductRow = true := by kernel_rfl
end Go.Proofs.Ytkigjnjbjbnidaa.fnCyclicProduct
