/-
  The closed facts of the row of FnExactEncodeNibble. No condition.
-/
import Derived.Test.YtflplihhakepfabRows
import Derived.JoinedOf
import Derived.KernelRfl
namespace Go.Proofs.Ytflplihhakepfab.fnExactEncodeNibble
theorem facts : joinedFacts Try.pinned.checked.prog 3 Try.f3 Rows.fnExactEncodeNibbleSpec Rows.fnExactEncodeNibbleRow = true := by kernel_rfl
end Go.Proofs.Ytflplihhakepfab.fnExactEncodeNibble
