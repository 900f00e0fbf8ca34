/-
  No cell of these rows narrows 'for every input' (looked for: loops, veiled, ifaces, maps, wideKeys, modest, calm, conditions, laid).
  DERIVED. THE GIVEN ROWS OF THIS SEAT. 12 by the template 'for every input the law returns true; each argument reads behind the call as it read before'; 0 by the template 'total and deterministic' (their statements: YtnmhiagnmfpipaaTotals.lean).
  GIVEN WITH THE SEED: the statements are not yours to turn. If you find one false, say at which input.
  Laid BY PROGRAM, IN A SANDBOX (cutbox-rows.mjs): the forced cells as the released guide's own fill.sh prints them over the translation 664fd6323a688c6d… (all of the seat's roots in one cut). By AI agents, Wed Nov 11 2026. No macro, syntax, notation, axiom, sorry.
-/
import Derived.Test.YtnmhiagnmfpipaaChecked
import GoSem.Claim
import GoSem.ClaimJoined
import GoSem.ClaimMapViews
import Derived.JoinedTies
import Derived.KernelRfl
namespace Go.Proofs.Ytnmhiagnmfpipaa
/- THE CELL 'sum', in the pinned program and in every row, IS THE sha256 OF THE DUMP (.gsa) THAT YtnmhiagnmfpipaaProg.lean LOADS. Nothing in Lean hashes anything: it is a label: what it is worth is what the hold of that sum in a sandbox is worth. -/
noncomputable def Try.pinned : Pinned := { name := "ytnmhiagnmfpipaa", sum := "664fd6323a688c6d629aa1f73b61864002c2dccf5d6cab8fc5dffe51a01e1c0f", checked := Try.checked }
namespace Rows
def none {H : Type} : Left H := { results := [], args := [] }

/-- 'laws.FnCostsValid': WHATEVER THE INPUT: true; the input reads as it did. -/
def fnCostsValidSpec : ChangeSpec := { name := "fnCostsValid", fn := fun _ => fun
  | [d] => { results := [.lit (.bool true)], args := [d] }
  | _ => none }
def fnCostsValidRow : OpenClaim := { program := "ytnmhiagnmfpipaa", sum := "664fd6323a688c6d629aa1f73b61864002c2dccf5d6cab8fc5dffe51a01e1c0f", func := "loop.example/softwareradio/laws.FnCostsValid", spec := "fnCostsValid", apart := false }
def FnCostsValidSaid : Prop := fnCostsValidRow.holds Try.pinned (OpenSpec.ofChange fnCostsValidSpec)

/-- ITS FALSE NEIGHBOUR: 'it returns false'. Refute it at one input. -/
def fnCostsValidWrong : ChangeSpec := { name := "fnCostsValid", fn := fun _ => fun
  | [d] => { results := [.lit (.bool false)], args := [d] }
  | _ => none }
def FnCostsValidWrongFalsely : Prop := fnCostsValidRow.holds Try.pinned (OpenSpec.ofChange fnCostsValidWrong)

/-- 'laws.FnLeastCosts': WHATEVER THE INPUT: true; the input reads as it did. -/
def fnLeastCostsSpec : ChangeSpec := { name := "fnLeastCosts", fn := fun _ => fun
  | [d] => { results := [.lit (.bool true)], args := [d] }
  | _ => none }
def fnLeastCostsRow : OpenClaim := { program := "ytnmhiagnmfpipaa", sum := "664fd6323a688c6d629aa1f73b61864002c2dccf5d6cab8fc5dffe51a01e1c0f", func := "loop.example/softwareradio/laws.FnLeastCosts", spec := "fnLeastCosts", unfollowed := true, recurses := true, apart := false }
def FnLeastCostsSaid : Prop := fnLeastCostsRow.holds Try.pinned (OpenSpec.ofChange fnLeastCostsSpec)

/-- ITS FALSE NEIGHBOUR: 'it returns false'. Refute it at one input. -/
def fnLeastCostsWrong : ChangeSpec := { name := "fnLeastCosts", fn := fun _ => fun
  | [d] => { results := [.lit (.bool false)], args := [d] }
  | _ => none }
def FnLeastCostsWrongFalsely : Prop := fnLeastCostsRow.holds Try.pinned (OpenSpec.ofChange fnLeastCostsWrong)

/-- 'laws.FnNextStation': WHATEVER THE INPUT: true; the input reads as it did. -/
def fnNextStationSpec : ChangeSpec := { name := "fnNextStation", fn := fun _ => fun
  | [d] => { results := [.lit (.bool true)], args := [d] }
  | _ => none }
def fnNextStationRow : OpenClaim := { program := "ytnmhiagnmfpipaa", sum := "664fd6323a688c6d629aa1f73b61864002c2dccf5d6cab8fc5dffe51a01e1c0f", func := "loop.example/softwareradio/laws.FnNextStation", spec := "fnNextStation", unfollowed := true, recurses := true, apart := false }
def FnNextStationSaid : Prop := fnNextStationRow.holds Try.pinned (OpenSpec.ofChange fnNextStationSpec)

/-- ITS FALSE NEIGHBOUR: 'it returns false'. Refute it at one input. -/
def fnNextStationWrong : ChangeSpec := { name := "fnNextStation", fn := fun _ => fun
  | [d] => { results := [.lit (.bool false)], args := [d] }
  | _ => none }
def FnNextStationWrongFalsely : Prop := fnNextStationRow.holds Try.pinned (OpenSpec.ofChange fnNextStationWrong)

/-- 'laws.FnRouteTo': WHATEVER THE INPUT: true; the input reads as it did. -/
def fnRouteToSpec : ChangeSpec := { name := "fnRouteTo", fn := fun _ => fun
  | [d] => { results := [.lit (.bool true)], args := [d] }
  | _ => none }
def fnRouteToRow : OpenClaim := { program := "ytnmhiagnmfpipaa", sum := "664fd6323a688c6d629aa1f73b61864002c2dccf5d6cab8fc5dffe51a01e1c0f", func := "loop.example/softwareradio/laws.FnRouteTo", spec := "fnRouteTo", unfollowed := true, recurses := true, apart := false }
def FnRouteToSaid : Prop := fnRouteToRow.holds Try.pinned (OpenSpec.ofChange fnRouteToSpec)

/-- ITS FALSE NEIGHBOUR: 'it returns false'. Refute it at one input. -/
def fnRouteToWrong : ChangeSpec := { name := "fnRouteTo", fn := fun _ => fun
  | [d] => { results := [.lit (.bool false)], args := [d] }
  | _ => none }
def FnRouteToWrongFalsely : Prop := fnRouteToRow.holds Try.pinned (OpenSpec.ofChange fnRouteToWrong)

/-- 'laws.FnCutLink': WHATEVER THE INPUT: true; the input reads as it did. -/
def fnCutLinkSpec : ChangeSpec := { name := "fnCutLink", fn := fun _ => fun
  | [d] => { results := [.lit (.bool true)], args := [d] }
  | _ => none }
def fnCutLinkRow : OpenClaim := { program := "ytnmhiagnmfpipaa", sum := "664fd6323a688c6d629aa1f73b61864002c2dccf5d6cab8fc5dffe51a01e1c0f", func := "loop.example/softwareradio/laws.FnCutLink", spec := "fnCutLink", unfollowed := true, recurses := true, apart := false }
def FnCutLinkSaid : Prop := fnCutLinkRow.holds Try.pinned (OpenSpec.ofChange fnCutLinkSpec)

/-- ITS FALSE NEIGHBOUR: 'it returns false'. Refute it at one input. -/
def fnCutLinkWrong : ChangeSpec := { name := "fnCutLink", fn := fun _ => fun
  | [d] => { results := [.lit (.bool false)], args := [d] }
  | _ => none }
def FnCutLinkWrongFalsely : Prop := fnCutLinkRow.holds Try.pinned (OpenSpec.ofChange fnCutLinkWrong)

/-- 'laws.FnRouteSlots': WHATEVER THE INPUT: true; the input reads as it did. -/
def fnRouteSlotsSpec : ChangeSpec := { name := "fnRouteSlots", fn := fun _ => fun
  | [d] => { results := [.lit (.bool true)], args := [d] }
  | _ => none }
def fnRouteSlotsRow : OpenClaim := { program := "ytnmhiagnmfpipaa", sum := "664fd6323a688c6d629aa1f73b61864002c2dccf5d6cab8fc5dffe51a01e1c0f", func := "loop.example/softwareradio/laws.FnRouteSlots", spec := "fnRouteSlots", unfollowed := true, recurses := true, apart := false }
def FnRouteSlotsSaid : Prop := fnRouteSlotsRow.holds Try.pinned (OpenSpec.ofChange fnRouteSlotsSpec)

/-- ITS FALSE NEIGHBOUR: 'it returns false'. Refute it at one input. -/
def fnRouteSlotsWrong : ChangeSpec := { name := "fnRouteSlots", fn := fun _ => fun
  | [d] => { results := [.lit (.bool false)], args := [d] }
  | _ => none }
def FnRouteSlotsWrongFalsely : Prop := fnRouteSlotsRow.holds Try.pinned (OpenSpec.ofChange fnRouteSlotsWrong)

/-- 'laws.FnRouteBack': WHATEVER THE INPUT: true; the input reads as it did. -/
def fnRouteBackSpec : ChangeSpec := { name := "fnRouteBack", fn := fun _ => fun
  | [d] => { results := [.lit (.bool true)], args := [d] }
  | _ => none }
def fnRouteBackRow : OpenClaim := { program := "ytnmhiagnmfpipaa", sum := "664fd6323a688c6d629aa1f73b61864002c2dccf5d6cab8fc5dffe51a01e1c0f", func := "loop.example/softwareradio/laws.FnRouteBack", spec := "fnRouteBack", unfollowed := true, recurses := true, apart := false }
def FnRouteBackSaid : Prop := fnRouteBackRow.holds Try.pinned (OpenSpec.ofChange fnRouteBackSpec)

/-- ITS FALSE NEIGHBOUR: 'it returns false'. Refute it at one input. -/
def fnRouteBackWrong : ChangeSpec := { name := "fnRouteBack", fn := fun _ => fun
  | [d] => { results := [.lit (.bool false)], args := [d] }
  | _ => none }
def FnRouteBackWrongFalsely : Prop := fnRouteBackRow.holds Try.pinned (OpenSpec.ofChange fnRouteBackWrong)

/-- 'laws.FnExactCostsValid': WHATEVER THE INPUT: true; the input reads as it did. -/
def fnExactCostsValidSpec : ChangeSpec := { name := "fnExactCostsValid", fn := fun _ => fun
  | [d] => { results := [.lit (.bool true)], args := [d] }
  | _ => none }
def fnExactCostsValidRow : OpenClaim := { program := "ytnmhiagnmfpipaa", sum := "664fd6323a688c6d629aa1f73b61864002c2dccf5d6cab8fc5dffe51a01e1c0f", func := "loop.example/softwareradio/laws.FnExactCostsValid", spec := "fnExactCostsValid", apart := false }
def FnExactCostsValidSaid : Prop := fnExactCostsValidRow.holds Try.pinned (OpenSpec.ofChange fnExactCostsValidSpec)

/-- ITS FALSE NEIGHBOUR: 'it returns false'. Refute it at one input. -/
def fnExactCostsValidWrong : ChangeSpec := { name := "fnExactCostsValid", fn := fun _ => fun
  | [d] => { results := [.lit (.bool false)], args := [d] }
  | _ => none }
def FnExactCostsValidWrongFalsely : Prop := fnExactCostsValidRow.holds Try.pinned (OpenSpec.ofChange fnExactCostsValidWrong)

/-- 'laws.FnExactLeastCosts': WHATEVER THE INPUT: true; the input reads as it did. -/
def fnExactLeastCostsSpec : ChangeSpec := { name := "fnExactLeastCosts", fn := fun _ => fun
  | [d1, d2] => { results := [.lit (.bool true)], args := [d1, d2] }
  | _ => none }
def fnExactLeastCostsRow : OpenClaim := { program := "ytnmhiagnmfpipaa", sum := "664fd6323a688c6d629aa1f73b61864002c2dccf5d6cab8fc5dffe51a01e1c0f", func := "loop.example/softwareradio/laws.FnExactLeastCosts", spec := "fnExactLeastCosts", unfollowed := true, recurses := true, apart := false }
def FnExactLeastCostsSaid : Prop := fnExactLeastCostsRow.holds Try.pinned (OpenSpec.ofChange fnExactLeastCostsSpec)

/-- ITS FALSE NEIGHBOUR: 'it returns false'. Refute it at one input. -/
def fnExactLeastCostsWrong : ChangeSpec := { name := "fnExactLeastCosts", fn := fun _ => fun
  | [d1, d2] => { results := [.lit (.bool false)], args := [d1, d2] }
  | _ => none }
def FnExactLeastCostsWrongFalsely : Prop := fnExactLeastCostsRow.holds Try.pinned (OpenSpec.ofChange fnExactLeastCostsWrong)

/-- 'laws.FnExactNextStation': WHATEVER THE INPUT: true; the input reads as it did. -/
def fnExactNextStationSpec : ChangeSpec := { name := "fnExactNextStation", fn := fun _ => fun
  | [d1, d2, d3] => { results := [.lit (.bool true)], args := [d1, d2, d3] }
  | _ => none }
def fnExactNextStationRow : OpenClaim := { program := "ytnmhiagnmfpipaa", sum := "664fd6323a688c6d629aa1f73b61864002c2dccf5d6cab8fc5dffe51a01e1c0f", func := "loop.example/softwareradio/laws.FnExactNextStation", spec := "fnExactNextStation", unfollowed := true, recurses := true, apart := false }
def FnExactNextStationSaid : Prop := fnExactNextStationRow.holds Try.pinned (OpenSpec.ofChange fnExactNextStationSpec)

/-- ITS FALSE NEIGHBOUR: 'it returns false'. Refute it at one input. -/
def fnExactNextStationWrong : ChangeSpec := { name := "fnExactNextStation", fn := fun _ => fun
  | [d1, d2, d3] => { results := [.lit (.bool false)], args := [d1, d2, d3] }
  | _ => none }
def FnExactNextStationWrongFalsely : Prop := fnExactNextStationRow.holds Try.pinned (OpenSpec.ofChange fnExactNextStationWrong)

/-- 'laws.FnExactRouteTo': WHATEVER THE INPUT: true; the input reads as it did. -/
def fnExactRouteToSpec : ChangeSpec := { name := "fnExactRouteTo", fn := fun _ => fun
  | [d1, d2, d3] => { results := [.lit (.bool true)], args := [d1, d2, d3] }
  | _ => none }
def fnExactRouteToRow : OpenClaim := { program := "ytnmhiagnmfpipaa", sum := "664fd6323a688c6d629aa1f73b61864002c2dccf5d6cab8fc5dffe51a01e1c0f", func := "loop.example/softwareradio/laws.FnExactRouteTo", spec := "fnExactRouteTo", unfollowed := true, recurses := true, apart := false }
def FnExactRouteToSaid : Prop := fnExactRouteToRow.holds Try.pinned (OpenSpec.ofChange fnExactRouteToSpec)

/-- ITS FALSE NEIGHBOUR: 'it returns false'. Refute it at one input. -/
def fnExactRouteToWrong : ChangeSpec := { name := "fnExactRouteTo", fn := fun _ => fun
  | [d1, d2, d3] => { results := [.lit (.bool false)], args := [d1, d2, d3] }
  | _ => none }
def FnExactRouteToWrongFalsely : Prop := fnExactRouteToRow.holds Try.pinned (OpenSpec.ofChange fnExactRouteToWrong)

/-- 'laws.FnExactCutLink': WHATEVER THE INPUT: true; the input reads as it did. -/
def fnExactCutLinkSpec : ChangeSpec := { name := "fnExactCutLink", fn := fun _ => fun
  | [d1, d2, d3] => { results := [.lit (.bool true)], args := [d1, d2, d3] }
  | _ => none }
def fnExactCutLinkRow : OpenClaim := { program := "ytnmhiagnmfpipaa", sum := "664fd6323a688c6d629aa1f73b61864002c2dccf5d6cab8fc5dffe51a01e1c0f", func := "loop.example/softwareradio/laws.FnExactCutLink", spec := "fnExactCutLink", apart := false }
def FnExactCutLinkSaid : Prop := fnExactCutLinkRow.holds Try.pinned (OpenSpec.ofChange fnExactCutLinkSpec)

/-- ITS FALSE NEIGHBOUR: 'it returns false'. Refute it at one input. -/
def fnExactCutLinkWrong : ChangeSpec := { name := "fnExactCutLink", fn := fun _ => fun
  | [d1, d2, d3] => { results := [.lit (.bool false)], args := [d1, d2, d3] }
  | _ => none }
def FnExactCutLinkWrongFalsely : Prop := fnExactCutLinkRow.holds Try.pinned (OpenSpec.ofChange fnExactCutLinkWrong)

/- THE SECOND FORM. 'bulk': how many values and letters a reading holds, each counted each time it is reached (what is shared counts as often as it is met; a slice's spare places count too). A statement '..UptoSaid' is the law's where the arguments, and the package variables that the reading takes, are together of bulk at most 1048576: NARROWER than '..Said'. Prove '..Said' where nothing that the law and all that it calls make is longer than what came in: it says more and counts as full. Else prove '..UptoSaid'. A law counts once. -/
mutual
def uptoBulk {H : Type} : DataW H → Nat
  | .lit (.string bytes) => bytes.length + 1
  | .lit _ => 1
  | .nil => 1
  | .ptr d => uptoBulk d + 1
  | .slice elems spare => uptoBulkAll elems + uptoBulkAll spare + 1
  | .agg parts => uptoBulkAll parts + 1
  | .iface _ d => uptoBulk d + 1
  | .map entries => uptoBulkEntries entries + 1
  | .held _ => 1
def uptoBulkAll {H : Type} : List (DataW H) → Nat
  | [] => 0
  | d :: r => uptoBulk d + uptoBulkAll r
def uptoBulkEntries {H : Type} : List (Lit × DataW H) → Nat
  | [] => 0
  | x :: r => uptoBulkEntry x + uptoBulkEntries r
def uptoBulkEntry {H : Type} : Lit × DataW H → Nat
  | (.string bytes, d) => bytes.length + uptoBulk d + 1
  | (_, d) => uptoBulk d + 1
 end
def uptoSmall : (H : Type) → List (DataW H) → Bool := fun _ ds => decide (uptoBulkAll ds ≤ 1048576)
def OpenSpec.upto (s : _root_.Go.ChangeSpec) : _root_.Go.OpenSpec := { _root_.Go.OpenSpec.ofChange s with cond := some uptoSmall }

/-- 'laws.FnCostsValid', WHERE WHAT IT READS IS OF BULK AT MOST 1048576: true; the input reads as it did. -/
def fnCostsValidUptoRow : OpenClaim := { program := "ytnmhiagnmfpipaa", sum := "664fd6323a688c6d629aa1f73b61864002c2dccf5d6cab8fc5dffe51a01e1c0f", func := "loop.example/softwareradio/laws.FnCostsValid", spec := "fnCostsValid", apart := false, narrowed := true }
def FnCostsValidUptoSaid : Prop := fnCostsValidUptoRow.holds Try.pinned (OpenSpec.upto fnCostsValidSpec)

/-- 'laws.FnLeastCosts', WHERE WHAT IT READS IS OF BULK AT MOST 1048576: true; the input reads as it did. -/
def fnLeastCostsUptoRow : OpenClaim := { program := "ytnmhiagnmfpipaa", sum := "664fd6323a688c6d629aa1f73b61864002c2dccf5d6cab8fc5dffe51a01e1c0f", func := "loop.example/softwareradio/laws.FnLeastCosts", spec := "fnLeastCosts", unfollowed := true, recurses := true, apart := false, narrowed := true }
def FnLeastCostsUptoSaid : Prop := fnLeastCostsUptoRow.holds Try.pinned (OpenSpec.upto fnLeastCostsSpec)

/-- 'laws.FnNextStation', WHERE WHAT IT READS IS OF BULK AT MOST 1048576: true; the input reads as it did. -/
def fnNextStationUptoRow : OpenClaim := { program := "ytnmhiagnmfpipaa", sum := "664fd6323a688c6d629aa1f73b61864002c2dccf5d6cab8fc5dffe51a01e1c0f", func := "loop.example/softwareradio/laws.FnNextStation", spec := "fnNextStation", unfollowed := true, recurses := true, apart := false, narrowed := true }
def FnNextStationUptoSaid : Prop := fnNextStationUptoRow.holds Try.pinned (OpenSpec.upto fnNextStationSpec)

/-- 'laws.FnRouteTo', WHERE WHAT IT READS IS OF BULK AT MOST 1048576: true; the input reads as it did. -/
def fnRouteToUptoRow : OpenClaim := { program := "ytnmhiagnmfpipaa", sum := "664fd6323a688c6d629aa1f73b61864002c2dccf5d6cab8fc5dffe51a01e1c0f", func := "loop.example/softwareradio/laws.FnRouteTo", spec := "fnRouteTo", unfollowed := true, recurses := true, apart := false, narrowed := true }
def FnRouteToUptoSaid : Prop := fnRouteToUptoRow.holds Try.pinned (OpenSpec.upto fnRouteToSpec)

/-- 'laws.FnCutLink', WHERE WHAT IT READS IS OF BULK AT MOST 1048576: true; the input reads as it did. -/
def fnCutLinkUptoRow : OpenClaim := { program := "ytnmhiagnmfpipaa", sum := "664fd6323a688c6d629aa1f73b61864002c2dccf5d6cab8fc5dffe51a01e1c0f", func := "loop.example/softwareradio/laws.FnCutLink", spec := "fnCutLink", unfollowed := true, recurses := true, apart := false, narrowed := true }
def FnCutLinkUptoSaid : Prop := fnCutLinkUptoRow.holds Try.pinned (OpenSpec.upto fnCutLinkSpec)

/-- 'laws.FnRouteSlots', WHERE WHAT IT READS IS OF BULK AT MOST 1048576: true; the input reads as it did. -/
def fnRouteSlotsUptoRow : OpenClaim := { program := "ytnmhiagnmfpipaa", sum := "664fd6323a688c6d629aa1f73b61864002c2dccf5d6cab8fc5dffe51a01e1c0f", func := "loop.example/softwareradio/laws.FnRouteSlots", spec := "fnRouteSlots", unfollowed := true, recurses := true, apart := false, narrowed := true }
def FnRouteSlotsUptoSaid : Prop := fnRouteSlotsUptoRow.holds Try.pinned (OpenSpec.upto fnRouteSlotsSpec)

/-- 'laws.FnRouteBack', WHERE WHAT IT READS IS OF BULK AT MOST 1048576: true; the input reads as it did. -/
def fnRouteBackUptoRow : OpenClaim := { program := "ytnmhiagnmfpipaa", sum := "664fd6323a688c6d629aa1f73b61864002c2dccf5d6cab8fc5dffe51a01e1c0f", func := "loop.example/softwareradio/laws.FnRouteBack", spec := "fnRouteBack", unfollowed := true, recurses := true, apart := false, narrowed := true }
def FnRouteBackUptoSaid : Prop := fnRouteBackUptoRow.holds Try.pinned (OpenSpec.upto fnRouteBackSpec)

/-- 'laws.FnExactCostsValid', WHERE WHAT IT READS IS OF BULK AT MOST 1048576: true; the input reads as it did. -/
def fnExactCostsValidUptoRow : OpenClaim := { program := "ytnmhiagnmfpipaa", sum := "664fd6323a688c6d629aa1f73b61864002c2dccf5d6cab8fc5dffe51a01e1c0f", func := "loop.example/softwareradio/laws.FnExactCostsValid", spec := "fnExactCostsValid", apart := false, narrowed := true }
def FnExactCostsValidUptoSaid : Prop := fnExactCostsValidUptoRow.holds Try.pinned (OpenSpec.upto fnExactCostsValidSpec)

/-- 'laws.FnExactLeastCosts', WHERE WHAT IT READS IS OF BULK AT MOST 1048576: true; the input reads as it did. -/
def fnExactLeastCostsUptoRow : OpenClaim := { program := "ytnmhiagnmfpipaa", sum := "664fd6323a688c6d629aa1f73b61864002c2dccf5d6cab8fc5dffe51a01e1c0f", func := "loop.example/softwareradio/laws.FnExactLeastCosts", spec := "fnExactLeastCosts", unfollowed := true, recurses := true, apart := false, narrowed := true }
def FnExactLeastCostsUptoSaid : Prop := fnExactLeastCostsUptoRow.holds Try.pinned (OpenSpec.upto fnExactLeastCostsSpec)

/-- 'laws.FnExactNextStation', WHERE WHAT IT READS IS OF BULK AT MOST 1048576: true; the input reads as it did. -/
def fnExactNextStationUptoRow : OpenClaim := { program := "ytnmhiagnmfpipaa", sum := "664fd6323a688c6d629aa1f73b61864002c2dccf5d6cab8fc5dffe51a01e1c0f", func := "loop.example/softwareradio/laws.FnExactNextStation", spec := "fnExactNextStation", unfollowed := true, recurses := true, apart := false, narrowed := true }
def FnExactNextStationUptoSaid : Prop := fnExactNextStationUptoRow.holds Try.pinned (OpenSpec.upto fnExactNextStationSpec)

/-- 'laws.FnExactRouteTo', WHERE WHAT IT READS IS OF BULK AT MOST 1048576: true; the input reads as it did. -/
def fnExactRouteToUptoRow : OpenClaim := { program := "ytnmhiagnmfpipaa", sum := "664fd6323a688c6d629aa1f73b61864002c2dccf5d6cab8fc5dffe51a01e1c0f", func := "loop.example/softwareradio/laws.FnExactRouteTo", spec := "fnExactRouteTo", unfollowed := true, recurses := true, apart := false, narrowed := true }
def FnExactRouteToUptoSaid : Prop := fnExactRouteToUptoRow.holds Try.pinned (OpenSpec.upto fnExactRouteToSpec)

/-- 'laws.FnExactCutLink', WHERE WHAT IT READS IS OF BULK AT MOST 1048576: true; the input reads as it did. -/
def fnExactCutLinkUptoRow : OpenClaim := { program := "ytnmhiagnmfpipaa", sum := "664fd6323a688c6d629aa1f73b61864002c2dccf5d6cab8fc5dffe51a01e1c0f", func := "loop.example/softwareradio/laws.FnExactCutLink", spec := "fnExactCutLink", apart := false, narrowed := true }
def FnExactCutLinkUptoSaid : Prop := fnExactCutLinkUptoRow.holds Try.pinned (OpenSpec.upto fnExactCutLinkSpec)

end Rows
end Go.Proofs.Ytnmhiagnmfpipaa
