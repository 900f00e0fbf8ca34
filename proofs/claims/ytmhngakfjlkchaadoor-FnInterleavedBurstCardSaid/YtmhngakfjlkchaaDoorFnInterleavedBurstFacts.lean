/-
  The closed facts of the row of FnInterleavedBurst. No condition.
-/
import Derived.Test.YtmhngakfjlkchaaDoorRows
import Derived.JoinedOf
import Derived.KernelRfl
namespace Go.Proofs.YtmhngakfjlkchaaDoor.fnInterleavedBurst
theorem facts : joinedFacts Tryd.pinned.checked.prog 3 Tryd.f3 Rows.fnInterleavedBurstSpec Rows.fnInterleavedBurstRow = true := by kernel_rfl
end Go.Proofs.YtmhngakfjlkchaaDoor.fnInterleavedBurst
