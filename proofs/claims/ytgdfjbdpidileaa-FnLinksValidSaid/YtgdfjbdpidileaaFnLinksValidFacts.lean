/-
  The closed facts of the row of FnLinksValid. No condition.
-/
import Derived.Test.YtgdfjbdpidileaaRows
import Derived.JoinedOf
import Derived.KernelRfl
namespace Go.Proofs.Ytgdfjbdpidileaa.fnLinksValid
theorem facts : joinedFacts Try.pinned.checked.prog 3 Try.f3 Rows.fnLinksValidSpec Rows.fnLinksValidRow = true := by kernel_rfl
end Go.Proofs.Ytgdfjbdpidileaa.fnLinksValid
