/-
  The closed facts of the row of FnScrambleBits. No condition.
-/
import Derived.Test.YtamfjmfffpdcfaaRows
import Derived.JoinedOf
import Derived.KernelRfl
namespace Go.Proofs.Ytamfjmfffpdcfaa.fnScrambleBits
theorem facts : joinedFacts Try.pinned.checked.prog 5 Try.f5 Rows.fnScrambleBitsSpec Rows.fnScrambleBitsRow = true := by kernel_rfl
end Go.Proofs.Ytamfjmfffpdcfaa.fnScrambleBits
