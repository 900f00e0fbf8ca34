/-
  The closed facts of the row of FnScrambledStream. No condition.
-/
import Derived.Test.YtamfjmfffpdcfaaRows
import Derived.JoinedOf
import Derived.KernelRfl
namespace Go.Proofs.Ytamfjmfffpdcfaa.fnScrambledStream
theorem facts : joinedFacts Try.pinned.checked.prog 6 Try.f6 Rows.fnScrambledStreamSpec Rows.fnScrambledStreamRow = true := by kernel_rfl
end Go.Proofs.Ytamfjmfffpdcfaa.fnScrambledStream
