/-
  The closed facts of the row of FnFilterGroups. No condition.
-/
import Derived.Test.YtdnnpnaaohfgaaaRows
import Derived.JoinedOf
import Derived.KernelRfl
namespace Go.Proofs.Ytdnnpnaaohfgaaa.fnFilterGroups
theorem facts : joinedFacts Try.pinned.checked.prog 11 Try.f11 Rows.fnFilterGroupsSpec Rows.fnFilterGroupsRow = true := by kernel_rfl
end Go.Proofs.Ytdnnpnaaohfgaaa.fnFilterGroups
