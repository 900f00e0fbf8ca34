/-
  The closed facts of the row of FnExactBurstSpread. No condition.
-/
import Derived.Test.YtmhngakfjlkchaaRows
import Derived.JoinedOf
import Derived.KernelRfl
namespace Go.Proofs.Ytmhngakfjlkchaa.fnExactBurstSpread
theorem facts : joinedFacts Try.pinned.checked.prog 8 Try.f8 Rows.fnExactBurstSpreadSpec Rows.fnExactBurstSpreadRow = true := by kernel_rfl
end Go.Proofs.Ytmhngakfjlkchaa.fnExactBurstSpread
