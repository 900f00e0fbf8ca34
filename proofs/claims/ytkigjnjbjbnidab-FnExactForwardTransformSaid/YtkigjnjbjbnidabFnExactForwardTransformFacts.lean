/-
  The closed facts of the row of FnExactForwardTransform. No condition.
-/
import Derived.Test.YtkigjnjbjbnidabRows
import Derived.JoinedOf
import Derived.KernelRfl
namespace Go.Proofs.Ytkigjnjbjbnidab.fnExactForwardTransform
theorem facts : joinedFacts Try.pinned.checked.prog 4 Try.f4 Rows.fnExactForwardTransformSpec Rows.fnExactForwardTransformRow = true := by kernel_rfl
end Go.Proofs.Ytkigjnjbjbnidab.fnExactForwardTransform
