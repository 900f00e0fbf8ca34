/-
  The closed facts of the row of FnExactCutLink. No condition.
-/
import Derived.Test.YtnmhiagnmfpipaaRows
import Derived.JoinedOf
import Derived.KernelRfl
namespace Go.Proofs.Ytnmhiagnmfpipaa.fnExactCutLink
theorem facts : joinedFacts Try.pinned.checked.prog 14 Try.f14 Rows.fnExactCutLinkSpec Rows.fnExactCutLinkRow = true := by kernel_rfl
end Go.Proofs.Ytnmhiagnmfpipaa.fnExactCutLink
