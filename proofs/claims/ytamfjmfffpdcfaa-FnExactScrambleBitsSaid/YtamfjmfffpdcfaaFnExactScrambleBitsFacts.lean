/-
  The closed facts of the row of FnExactScrambleBits. No condition.
-/
import Derived.Test.YtamfjmfffpdcfaaRows
import Derived.JoinedOf
import Derived.KernelRfl
namespace Go.Proofs.Ytamfjmfffpdcfaa.fnExactScrambleBits
theorem facts : joinedFacts Try.pinned.checked.prog 12 Try.f12 Rows.fnExactScrambleBitsSpec Rows.fnExactScrambleBitsRow = true := by kernel_rfl
end Go.Proofs.Ytamfjmfffpdcfaa.fnExactScrambleBits
