/-
  No cell of these rows narrows 'for every input' (looked for: loops, veiled, ifaces, maps, wideKeys, modest, calm, conditions, laid).
  DERIVED. THE GIVEN ROWS OF THIS SEAT. 7 by the template 'for every input the law returns true; each argument reads behind the call as it read before'; 0 by the template 'total and deterministic' (their statements: YtibgpgifdjefnaaTotals.lean).
  GIVEN WITH THE SEED: the statements are not yours to turn. If you find one false, say at which input.
  Laid BY PROGRAM, IN A SANDBOX (cutbox-rows.mjs): the forced cells as the released guide's own fill.sh prints them over the translation 5bfc13d41e4202dd… (all of the seat's roots in one cut). By AI agents, Wed Nov 11 2026. No macro, syntax, notation, axiom, sorry.
-/
import Derived.Test.YtibgpgifdjefnaaChecked
import GoSem.Claim
import GoSem.ClaimJoined
import GoSem.ClaimMapViews
import Derived.JoinedTies
import Derived.KernelRfl
namespace Go.Proofs.Ytibgpgifdjefnaa
/- THE CELL 'sum', in the pinned program and in every row, IS THE sha256 OF THE DUMP (.gsa) THAT YtibgpgifdjefnaaProg.lean LOADS. Nothing in Lean hashes anything: it is a label: what it is worth is what the hold of that sum in a sandbox is worth. -/
noncomputable def Try.pinned : Pinned := { name := "ytibgpgifdjefnaa", sum := "5bfc13d41e4202dd4a251f0c52d0fe9dd1831cf20478ae64330e3e48c81228b3", checked := Try.checked }
namespace Rows
def none {H : Type} : Left H := { results := [], args := [] }

/-- 'laws.FnConflictsValid': WHATEVER THE INPUT: true; the input reads as it did. -/
def fnConflictsValidSpec : ChangeSpec := { name := "fnConflictsValid", fn := fun _ => fun
  | [d] => { results := [.lit (.bool true)], args := [d] }
  | _ => none }
def fnConflictsValidRow : OpenClaim := { program := "ytibgpgifdjefnaa", sum := "5bfc13d41e4202dd4a251f0c52d0fe9dd1831cf20478ae64330e3e48c81228b3", func := "loop.example/softwareradio/laws.FnConflictsValid", spec := "fnConflictsValid", apart := false }
def FnConflictsValidSaid : Prop := fnConflictsValidRow.holds Try.pinned (OpenSpec.ofChange fnConflictsValidSpec)

/-- ITS FALSE NEIGHBOUR: 'it returns false'. Refute it at one input. -/
def fnConflictsValidWrong : ChangeSpec := { name := "fnConflictsValid", fn := fun _ => fun
  | [d] => { results := [.lit (.bool false)], args := [d] }
  | _ => none }
def FnConflictsValidWrongFalsely : Prop := fnConflictsValidRow.holds Try.pinned (OpenSpec.ofChange fnConflictsValidWrong)

/-- 'laws.FnSlotsValid': WHATEVER THE INPUT: true; the input reads as it did. -/
def fnSlotsValidSpec : ChangeSpec := { name := "fnSlotsValid", fn := fun _ => fun
  | [d] => { results := [.lit (.bool true)], args := [d] }
  | _ => none }
def fnSlotsValidRow : OpenClaim := { program := "ytibgpgifdjefnaa", sum := "5bfc13d41e4202dd4a251f0c52d0fe9dd1831cf20478ae64330e3e48c81228b3", func := "loop.example/softwareradio/laws.FnSlotsValid", spec := "fnSlotsValid", apart := false }
def FnSlotsValidSaid : Prop := fnSlotsValidRow.holds Try.pinned (OpenSpec.ofChange fnSlotsValidSpec)

/-- ITS FALSE NEIGHBOUR: 'it returns false'. Refute it at one input. -/
def fnSlotsValidWrong : ChangeSpec := { name := "fnSlotsValid", fn := fun _ => fun
  | [d] => { results := [.lit (.bool false)], args := [d] }
  | _ => none }
def FnSlotsValidWrongFalsely : Prop := fnSlotsValidRow.holds Try.pinned (OpenSpec.ofChange fnSlotsValidWrong)

/-- 'laws.FnGreedySlots': WHATEVER THE INPUT: true; the input reads as it did. -/
def fnGreedySlotsSpec : ChangeSpec := { name := "fnGreedySlots", fn := fun _ => fun
  | [d] => { results := [.lit (.bool true)], args := [d] }
  | _ => none }
def fnGreedySlotsRow : OpenClaim := { program := "ytibgpgifdjefnaa", sum := "5bfc13d41e4202dd4a251f0c52d0fe9dd1831cf20478ae64330e3e48c81228b3", func := "loop.example/softwareradio/laws.FnGreedySlots", spec := "fnGreedySlots", apart := false }
def FnGreedySlotsSaid : Prop := fnGreedySlotsRow.holds Try.pinned (OpenSpec.ofChange fnGreedySlotsSpec)

/-- ITS FALSE NEIGHBOUR: 'it returns false'. Refute it at one input. -/
def fnGreedySlotsWrong : ChangeSpec := { name := "fnGreedySlots", fn := fun _ => fun
  | [d] => { results := [.lit (.bool false)], args := [d] }
  | _ => none }
def FnGreedySlotsWrongFalsely : Prop := fnGreedySlotsRow.holds Try.pinned (OpenSpec.ofChange fnGreedySlotsWrong)

/-- 'laws.FnExactConflictsValid': WHATEVER THE INPUT: true; the input reads as it did. -/
def fnExactConflictsValidSpec : ChangeSpec := { name := "fnExactConflictsValid", fn := fun _ => fun
  | [d] => { results := [.lit (.bool true)], args := [d] }
  | _ => none }
def fnExactConflictsValidRow : OpenClaim := { program := "ytibgpgifdjefnaa", sum := "5bfc13d41e4202dd4a251f0c52d0fe9dd1831cf20478ae64330e3e48c81228b3", func := "loop.example/softwareradio/laws.FnExactConflictsValid", spec := "fnExactConflictsValid", apart := false }
def FnExactConflictsValidSaid : Prop := fnExactConflictsValidRow.holds Try.pinned (OpenSpec.ofChange fnExactConflictsValidSpec)

/-- ITS FALSE NEIGHBOUR: 'it returns false'. Refute it at one input. -/
def fnExactConflictsValidWrong : ChangeSpec := { name := "fnExactConflictsValid", fn := fun _ => fun
  | [d] => { results := [.lit (.bool false)], args := [d] }
  | _ => none }
def FnExactConflictsValidWrongFalsely : Prop := fnExactConflictsValidRow.holds Try.pinned (OpenSpec.ofChange fnExactConflictsValidWrong)

/-- 'laws.FnExactSlotsValid': WHATEVER THE INPUT: true; the input reads as it did. -/
def fnExactSlotsValidSpec : ChangeSpec := { name := "fnExactSlotsValid", fn := fun _ => fun
  | [d1, d2] => { results := [.lit (.bool true)], args := [d1, d2] }
  | _ => none }
def fnExactSlotsValidRow : OpenClaim := { program := "ytibgpgifdjefnaa", sum := "5bfc13d41e4202dd4a251f0c52d0fe9dd1831cf20478ae64330e3e48c81228b3", func := "loop.example/softwareradio/laws.FnExactSlotsValid", spec := "fnExactSlotsValid", apart := false }
def FnExactSlotsValidSaid : Prop := fnExactSlotsValidRow.holds Try.pinned (OpenSpec.ofChange fnExactSlotsValidSpec)

/-- ITS FALSE NEIGHBOUR: 'it returns false'. Refute it at one input. -/
def fnExactSlotsValidWrong : ChangeSpec := { name := "fnExactSlotsValid", fn := fun _ => fun
  | [d1, d2] => { results := [.lit (.bool false)], args := [d1, d2] }
  | _ => none }
def FnExactSlotsValidWrongFalsely : Prop := fnExactSlotsValidRow.holds Try.pinned (OpenSpec.ofChange fnExactSlotsValidWrong)

/-- 'laws.FnExactGreedySlots': WHATEVER THE INPUT: true; the input reads as it did. -/
def fnExactGreedySlotsSpec : ChangeSpec := { name := "fnExactGreedySlots", fn := fun _ => fun
  | [d] => { results := [.lit (.bool true)], args := [d] }
  | _ => none }
def fnExactGreedySlotsRow : OpenClaim := { program := "ytibgpgifdjefnaa", sum := "5bfc13d41e4202dd4a251f0c52d0fe9dd1831cf20478ae64330e3e48c81228b3", func := "loop.example/softwareradio/laws.FnExactGreedySlots", spec := "fnExactGreedySlots", apart := false }
def FnExactGreedySlotsSaid : Prop := fnExactGreedySlotsRow.holds Try.pinned (OpenSpec.ofChange fnExactGreedySlotsSpec)

/-- ITS FALSE NEIGHBOUR: 'it returns false'. Refute it at one input. -/
def fnExactGreedySlotsWrong : ChangeSpec := { name := "fnExactGreedySlots", fn := fun _ => fun
  | [d] => { results := [.lit (.bool false)], args := [d] }
  | _ => none }
def FnExactGreedySlotsWrongFalsely : Prop := fnExactGreedySlotsRow.holds Try.pinned (OpenSpec.ofChange fnExactGreedySlotsWrong)

/-- 'laws.FnExactBestSlots': WHATEVER THE INPUT: true; the input reads as it did. -/
def fnExactBestSlotsSpec : ChangeSpec := { name := "fnExactBestSlots", fn := fun _ => fun
  | [d] => { results := [.lit (.bool true)], args := [d] }
  | _ => none }
def fnExactBestSlotsRow : OpenClaim := { program := "ytibgpgifdjefnaa", sum := "5bfc13d41e4202dd4a251f0c52d0fe9dd1831cf20478ae64330e3e48c81228b3", func := "loop.example/softwareradio/laws.FnExactBestSlots", spec := "fnExactBestSlots", recurses := true, apart := false }
def FnExactBestSlotsSaid : Prop := fnExactBestSlotsRow.holds Try.pinned (OpenSpec.ofChange fnExactBestSlotsSpec)

/-- ITS FALSE NEIGHBOUR: 'it returns false'. Refute it at one input. -/
def fnExactBestSlotsWrong : ChangeSpec := { name := "fnExactBestSlots", fn := fun _ => fun
  | [d] => { results := [.lit (.bool false)], args := [d] }
  | _ => none }
def FnExactBestSlotsWrongFalsely : Prop := fnExactBestSlotsRow.holds Try.pinned (OpenSpec.ofChange fnExactBestSlotsWrong)

/- THE SECOND FORM. 'bulk': how many values and letters a reading holds, each counted each time it is reached (what is shared counts as often as it is met; a slice's spare places count too). A statement '..UptoSaid' is the law's where the arguments, and the package variables that the reading takes, are together of bulk at most 1048576: NARROWER than '..Said'. Prove '..Said' where nothing that the law and all that it calls make is longer than what came in: it says more and counts as full. Else prove '..UptoSaid'. A law counts once. -/
mutual
def uptoBulk {H : Type} : DataW H → Nat
  | .lit (.string bytes) => bytes.length + 1
  | .lit _ => 1
  | .nil => 1
  | .ptr d => uptoBulk d + 1
  | .slice elems spare => uptoBulkAll elems + uptoBulkAll spare + 1
  | .agg parts => uptoBulkAll parts + 1
  | .iface _ d => uptoBulk d + 1
  | .map entries => uptoBulkEntries entries + 1
  | .held _ => 1
def uptoBulkAll {H : Type} : List (DataW H) → Nat
  | [] => 0
  | d :: r => uptoBulk d + uptoBulkAll r
def uptoBulkEntries {H : Type} : List (Lit × DataW H) → Nat
  | [] => 0
  | x :: r => uptoBulkEntry x + uptoBulkEntries r
def uptoBulkEntry {H : Type} : Lit × DataW H → Nat
  | (.string bytes, d) => bytes.length + uptoBulk d + 1
  | (_, d) => uptoBulk d + 1
 end
def uptoSmall : (H : Type) → List (DataW H) → Bool := fun _ ds => decide (uptoBulkAll ds ≤ 1048576)
def OpenSpec.upto (s : _root_.Go.ChangeSpec) : _root_.Go.OpenSpec := { _root_.Go.OpenSpec.ofChange s with cond := some uptoSmall }

/-- 'laws.FnConflictsValid', WHERE WHAT IT READS IS OF BULK AT MOST 1048576: true; the input reads as it did. -/
def fnConflictsValidUptoRow : OpenClaim := { program := "ytibgpgifdjefnaa", sum := "5bfc13d41e4202dd4a251f0c52d0fe9dd1831cf20478ae64330e3e48c81228b3", func := "loop.example/softwareradio/laws.FnConflictsValid", spec := "fnConflictsValid", apart := false, narrowed := true }
def FnConflictsValidUptoSaid : Prop := fnConflictsValidUptoRow.holds Try.pinned (OpenSpec.upto fnConflictsValidSpec)

/-- 'laws.FnSlotsValid', WHERE WHAT IT READS IS OF BULK AT MOST 1048576: true; the input reads as it did. -/
def fnSlotsValidUptoRow : OpenClaim := { program := "ytibgpgifdjefnaa", sum := "5bfc13d41e4202dd4a251f0c52d0fe9dd1831cf20478ae64330e3e48c81228b3", func := "loop.example/softwareradio/laws.FnSlotsValid", spec := "fnSlotsValid", apart := false, narrowed := true }
def FnSlotsValidUptoSaid : Prop := fnSlotsValidUptoRow.holds Try.pinned (OpenSpec.upto fnSlotsValidSpec)

/-- 'laws.FnGreedySlots', WHERE WHAT IT READS IS OF BULK AT MOST 1048576: true; the input reads as it did. -/
def fnGreedySlotsUptoRow : OpenClaim := { program := "ytibgpgifdjefnaa", sum := "5bfc13d41e4202dd4a251f0c52d0fe9dd1831cf20478ae64330e3e48c81228b3", func := "loop.example/softwareradio/laws.FnGreedySlots", spec := "fnGreedySlots", apart := false, narrowed := true }
def FnGreedySlotsUptoSaid : Prop := fnGreedySlotsUptoRow.holds Try.pinned (OpenSpec.upto fnGreedySlotsSpec)

/-- 'laws.FnExactConflictsValid', WHERE WHAT IT READS IS OF BULK AT MOST 1048576: true; the input reads as it did. -/
def fnExactConflictsValidUptoRow : OpenClaim := { program := "ytibgpgifdjefnaa", sum := "5bfc13d41e4202dd4a251f0c52d0fe9dd1831cf20478ae64330e3e48c81228b3", func := "loop.example/softwareradio/laws.FnExactConflictsValid", spec := "fnExactConflictsValid", apart := false, narrowed := true }
def FnExactConflictsValidUptoSaid : Prop := fnExactConflictsValidUptoRow.holds Try.pinned (OpenSpec.upto fnExactConflictsValidSpec)

/-- 'laws.FnExactSlotsValid', WHERE WHAT IT READS IS OF BULK AT MOST 1048576: true; the input reads as it did. -/
def fnExactSlotsValidUptoRow : OpenClaim := { program := "ytibgpgifdjefnaa", sum := "5bfc13d41e4202dd4a251f0c52d0fe9dd1831cf20478ae64330e3e48c81228b3", func := "loop.example/softwareradio/laws.FnExactSlotsValid", spec := "fnExactSlotsValid", apart := false, narrowed := true }
def FnExactSlotsValidUptoSaid : Prop := fnExactSlotsValidUptoRow.holds Try.pinned (OpenSpec.upto fnExactSlotsValidSpec)

/-- 'laws.FnExactGreedySlots', WHERE WHAT IT READS IS OF BULK AT MOST 1048576: true; the input reads as it did. -/
def fnExactGreedySlotsUptoRow : OpenClaim := { program := "ytibgpgifdjefnaa", sum := "5bfc13d41e4202dd4a251f0c52d0fe9dd1831cf20478ae64330e3e48c81228b3", func := "loop.example/softwareradio/laws.FnExactGreedySlots", spec := "fnExactGreedySlots", apart := false, narrowed := true }
def FnExactGreedySlotsUptoSaid : Prop := fnExactGreedySlotsUptoRow.holds Try.pinned (OpenSpec.upto fnExactGreedySlotsSpec)

/-- 'laws.FnExactBestSlots', WHERE WHAT IT READS IS OF BULK AT MOST 1048576: true; the input reads as it did. -/
def fnExactBestSlotsUptoRow : OpenClaim := { program := "ytibgpgifdjefnaa", sum := "5bfc13d41e4202dd4a251f0c52d0fe9dd1831cf20478ae64330e3e48c81228b3", func := "loop.example/softwareradio/laws.FnExactBestSlots", spec := "fnExactBestSlots", recurses := true, apart := false, narrowed := true }
def FnExactBestSlotsUptoSaid : Prop := fnExactBestSlotsUptoRow.holds Try.pinned (OpenSpec.upto fnExactBestSlotsSpec)

end Rows
end Go.Proofs.Ytibgpgifdjefnaa
