/-
  The closed facts of the row of FnExactLinksValid. No condition.
-/
import Derived.Test.YtlgcacoggikfcaaRows
import Derived.JoinedOf
import Derived.KernelRfl
namespace Go.Proofs.Ytlgcacoggikfcaa.fnExactLinksValid
theorem facts : joinedFacts Try.pinned.checked.prog 8 Try.f8 Rows.fnExactLinksValidSpec Rows.fnExactLinksValidRow = true := by kernel_rfl
end Go.Proofs.Ytlgcacoggikfcaa.fnExactLinksValid
