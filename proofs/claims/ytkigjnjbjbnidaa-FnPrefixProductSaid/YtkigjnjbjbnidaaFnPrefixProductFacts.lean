/-
  The closed facts of the row of FnPrefixProduct. No condition.
-/
import Derived.Test.YtkigjnjbjbnidaaRows
import Derived.JoinedOf
import Derived.KernelRfl
namespace Go.Proofs.Ytkigjnjbjbnidaa.fnPrefixProduct
theorem facts : joinedFacts Try.pinned.checked.prog 7 Try.f7 Rows.fnPrefixProductSpec Rows.fnPrefixProductRow = true := by kernel_rfl
end Go.Proofs.Ytkigjnjbjbnidaa.fnPrefixProduct
