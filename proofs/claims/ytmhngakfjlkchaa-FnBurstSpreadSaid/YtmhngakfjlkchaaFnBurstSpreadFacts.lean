/-
  The closed facts of the row of FnBurstSpread. No condition.
-/
import Derived.Test.YtmhngakfjlkchaaRows
import Derived.JoinedOf
import Derived.KernelRfl
namespace Go.Proofs.Ytmhngakfjlkchaa.fnBurstSpread
theorem facts : joinedFacts Try.pinned.checked.prog 5 Try.f5 Rows.fnBurstSpreadSpec Rows.fnBurstSpreadRow = true := by kernel_rfl
end Go.Proofs.Ytmhngakfjlkchaa.fnBurstSpread
