/-
  The closed facts of the row of FnExactTransformRoot. No condition.
-/
import Derived.Test.YtkigjnjbjbnidabRows
import Derived.JoinedOf
import Derived.KernelRfl
namespace Go.Proofs.Ytkigjnjbjbnidab.fnExactTransformRoot
theorem facts : joinedFacts Try.pinned.checked.prog 3 Try.f3 Rows.fnExactTransformRootSpec Rows.fnExactTransformRootRow = true := by kernel_rfl
end Go.Proofs.Ytkigjnjbjbnidab.fnExactTransformRoot
