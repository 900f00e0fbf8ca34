/-
  The closed facts of the row of FnCutLink. No condition.
-/
import Derived.Test.YtnmhiagnmfpipaaRows
import Derived.JoinedOf
import Derived.KernelRfl
namespace Go.Proofs.Ytnmhiagnmfpipaa.fnCutLink
theorem facts : joinedFacts Try.pinned.checked.prog 7 Try.f7 Rows.fnCutLinkSpec Rows.fnCutLinkRow = true := by kernel_rfl
end Go.Proofs.Ytnmhiagnmfpipaa.fnCutLink
