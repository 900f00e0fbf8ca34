/-
  The closed facts of the row of FnExactLinksMeet. No condition.
-/
import Derived.Test.YtlgcacoggikfcaaRows
import Derived.JoinedOf
import Derived.KernelRfl
namespace Go.Proofs.Ytlgcacoggikfcaa.fnExactLinksMeet
theorem facts : joinedFacts Try.pinned.checked.prog 9 Try.f9 Rows.fnExactLinksMeetSpec Rows.fnExactLinksMeetRow = true := by kernel_rfl
end Go.Proofs.Ytlgcacoggikfcaa.fnExactLinksMeet
