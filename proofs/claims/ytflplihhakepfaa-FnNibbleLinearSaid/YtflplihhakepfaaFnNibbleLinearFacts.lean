/-
  The closed facts of the row of FnNibbleLinear. No condition.
-/
import Derived.Test.YtflplihhakepfaaRows
import Derived.JoinedOf
import Derived.KernelRfl
namespace Go.Proofs.Ytflplihhakepfaa.fnNibbleLinear
theorem facts : joinedFacts Try.pinned.checked.prog 3 Try.f3 Rows.fnNibbleLinearSpec Rows.fnNibbleLinearRow = true := by kernel_rfl
end Go.Proofs.Ytflplihhakepfaa.fnNibbleLinear
