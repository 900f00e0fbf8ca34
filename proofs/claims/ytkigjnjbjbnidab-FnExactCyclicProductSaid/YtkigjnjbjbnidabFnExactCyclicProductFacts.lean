/-
  The closed facts of the row of FnExactCyclicProduct. No condition.
-/
import Derived.Test.YtkigjnjbjbnidabRows
import Derived.JoinedOf
import Derived.KernelRfl
namespace Go.Proofs.Ytkigjnjbjbnidab.fnExactCyclicProduct
theorem facts : joinedFacts Try.pinned.checked.prog 6 Try.f6 Rows.fnExactCyclicProductSpec Rows.fnExactCyclicProductRow = true := by kernel_rfl
end Go.Proofs.Ytkigjnjbjbnidab.fnExactCyclicProduct
