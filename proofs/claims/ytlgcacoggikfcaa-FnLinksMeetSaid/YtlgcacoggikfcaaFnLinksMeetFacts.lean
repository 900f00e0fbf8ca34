/-
  The closed facts of the row of FnLinksMeet. No condition.
-/
import Derived.Test.YtlgcacoggikfcaaRows
import Derived.JoinedOf
import Derived.KernelRfl
namespace Go.Proofs.Ytlgcacoggikfcaa.fnLinksMeet
theorem facts : joinedFacts Try.pinned.checked.prog 4 Try.f4 Rows.fnLinksMeetSpec Rows.fnLinksMeetRow = true := by kernel_rfl
end Go.Proofs.Ytlgcacoggikfcaa.fnLinksMeet
