/-
  The closed facts of the row of FnExactSignalPower. No condition.
-/
import Derived.Test.YtmolpeemifngcaaRows
import Derived.JoinedOf
import Derived.KernelRfl
namespace Go.Proofs.Ytmolpeemifngcaa.fnExactSignalPower
theorem facts : joinedFacts Try.pinned.checked.prog 14 Try.f14 Rows.fnExactSignalPowerSpec Rows.fnExactSignalPowerRow = true := by kernel_rfl
end Go.Proofs.Ytmolpeemifngcaa.fnExactSignalPower
