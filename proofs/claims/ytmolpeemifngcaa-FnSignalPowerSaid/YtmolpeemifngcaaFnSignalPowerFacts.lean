/-
  The closed facts of the row of FnSignalPower. No condition.
-/
import Derived.Test.YtmolpeemifngcaaRows
import Derived.JoinedOf
import Derived.KernelRfl
namespace Go.Proofs.Ytmolpeemifngcaa.fnSignalPower
theorem facts : joinedFacts Try.pinned.checked.prog 8 Try.f8 Rows.fnSignalPowerSpec Rows.fnSignalPowerRow = true := by kernel_rfl
end Go.Proofs.Ytmolpeemifngcaa.fnSignalPower
