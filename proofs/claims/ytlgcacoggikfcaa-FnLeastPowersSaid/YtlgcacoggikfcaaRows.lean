/-
  No cell of these rows narrows 'for every input' (looked for: loops, veiled, ifaces, maps, wideKeys, modest, calm, conditions, laid).
  DERIVED. THE GIVEN ROWS OF THIS SEAT. 9 by the template 'for every input the law returns true; each argument reads behind the call as it read before'; 0 by the template 'total and deterministic' (their statements: YtlgcacoggikfcaaTotals.lean).
  GIVEN WITH THE SEED: the statements are not yours to turn. If you find one false, say at which input.
  Laid BY PROGRAM, IN A SANDBOX (cutbox-rows.mjs): the forced cells as the released guide's own fill.sh prints them over the translation 90385970009e1222… (all of the seat's roots in one cut). By AI agents, Wed Nov 11 2026. No macro, syntax, notation, axiom, sorry.
-/
import Derived.Test.YtlgcacoggikfcaaChecked
import GoSem.Claim
import GoSem.ClaimJoined
import GoSem.ClaimMapViews
import Derived.JoinedTies
import Derived.KernelRfl
namespace Go.Proofs.Ytlgcacoggikfcaa
/- THE CELL 'sum', in the pinned program and in every row, IS THE sha256 OF THE DUMP (.gsa) THAT YtlgcacoggikfcaaProg.lean LOADS. Nothing in Lean hashes anything: it is a label: what it is worth is what the hold of that sum in a sandbox is worth. -/
noncomputable def Try.pinned : Pinned := { name := "ytlgcacoggikfcaa", sum := "90385970009e122228ab24827660e1b6ac8ebefa168807a6d9c69597bd0e62de", checked := Try.checked }
namespace Rows
def none {H : Type} : Left H := { results := [], args := [] }

/-- 'laws.FnLinksValid': WHATEVER THE INPUT: true; the input reads as it did. -/
def fnLinksValidSpec : ChangeSpec := { name := "fnLinksValid", fn := fun _ => fun
  | [d] => { results := [.lit (.bool true)], args := [d] }
  | _ => none }
def fnLinksValidRow : OpenClaim := { program := "ytlgcacoggikfcaa", sum := "90385970009e122228ab24827660e1b6ac8ebefa168807a6d9c69597bd0e62de", func := "loop.example/softwareradio/laws.FnLinksValid", spec := "fnLinksValid", apart := false }
def FnLinksValidSaid : Prop := fnLinksValidRow.holds Try.pinned (OpenSpec.ofChange fnLinksValidSpec)

/-- ITS FALSE NEIGHBOUR: 'it returns false'. Refute it at one input. -/
def fnLinksValidWrong : ChangeSpec := { name := "fnLinksValid", fn := fun _ => fun
  | [d] => { results := [.lit (.bool false)], args := [d] }
  | _ => none }
def FnLinksValidWrongFalsely : Prop := fnLinksValidRow.holds Try.pinned (OpenSpec.ofChange fnLinksValidWrong)

/-- 'laws.FnLinksMeet': WHATEVER THE INPUT: true; the input reads as it did. -/
def fnLinksMeetSpec : ChangeSpec := { name := "fnLinksMeet", fn := fun _ => fun
  | [d] => { results := [.lit (.bool true)], args := [d] }
  | _ => none }
def fnLinksMeetRow : OpenClaim := { program := "ytlgcacoggikfcaa", sum := "90385970009e122228ab24827660e1b6ac8ebefa168807a6d9c69597bd0e62de", func := "loop.example/softwareradio/laws.FnLinksMeet", spec := "fnLinksMeet", apart := false }
def FnLinksMeetSaid : Prop := fnLinksMeetRow.holds Try.pinned (OpenSpec.ofChange fnLinksMeetSpec)

/-- ITS FALSE NEIGHBOUR: 'it returns false'. Refute it at one input. -/
def fnLinksMeetWrong : ChangeSpec := { name := "fnLinksMeet", fn := fun _ => fun
  | [d] => { results := [.lit (.bool false)], args := [d] }
  | _ => none }
def FnLinksMeetWrongFalsely : Prop := fnLinksMeetRow.holds Try.pinned (OpenSpec.ofChange fnLinksMeetWrong)

/-- 'laws.FnPowerStep': WHATEVER THE INPUT: true; the input reads as it did. -/
def fnPowerStepSpec : ChangeSpec := { name := "fnPowerStep", fn := fun _ => fun
  | [d] => { results := [.lit (.bool true)], args := [d] }
  | _ => none }
def fnPowerStepRow : OpenClaim := { program := "ytlgcacoggikfcaa", sum := "90385970009e122228ab24827660e1b6ac8ebefa168807a6d9c69597bd0e62de", func := "loop.example/softwareradio/laws.FnPowerStep", spec := "fnPowerStep", apart := false }
def FnPowerStepSaid : Prop := fnPowerStepRow.holds Try.pinned (OpenSpec.ofChange fnPowerStepSpec)

/-- ITS FALSE NEIGHBOUR: 'it returns false'. Refute it at one input. -/
def fnPowerStepWrong : ChangeSpec := { name := "fnPowerStep", fn := fun _ => fun
  | [d] => { results := [.lit (.bool false)], args := [d] }
  | _ => none }
def FnPowerStepWrongFalsely : Prop := fnPowerStepRow.holds Try.pinned (OpenSpec.ofChange fnPowerStepWrong)

/-- 'laws.FnLeastPowers': WHATEVER THE INPUT: true; the input reads as it did. -/
def fnLeastPowersSpec : ChangeSpec := { name := "fnLeastPowers", fn := fun _ => fun
  | [d] => { results := [.lit (.bool true)], args := [d] }
  | _ => none }
def fnLeastPowersRow : OpenClaim := { program := "ytlgcacoggikfcaa", sum := "90385970009e122228ab24827660e1b6ac8ebefa168807a6d9c69597bd0e62de", func := "loop.example/softwareradio/laws.FnLeastPowers", spec := "fnLeastPowers", apart := false }
def FnLeastPowersSaid : Prop := fnLeastPowersRow.holds Try.pinned (OpenSpec.ofChange fnLeastPowersSpec)

/-- ITS FALSE NEIGHBOUR: 'it returns false'. Refute it at one input. -/
def fnLeastPowersWrong : ChangeSpec := { name := "fnLeastPowers", fn := fun _ => fun
  | [d] => { results := [.lit (.bool false)], args := [d] }
  | _ => none }
def FnLeastPowersWrongFalsely : Prop := fnLeastPowersRow.holds Try.pinned (OpenSpec.ofChange fnLeastPowersWrong)

/-- 'laws.FnPowerNoise': WHATEVER THE INPUT: true; the input reads as it did. -/
def fnPowerNoiseSpec : ChangeSpec := { name := "fnPowerNoise", fn := fun _ => fun
  | [d] => { results := [.lit (.bool true)], args := [d] }
  | _ => none }
def fnPowerNoiseRow : OpenClaim := { program := "ytlgcacoggikfcaa", sum := "90385970009e122228ab24827660e1b6ac8ebefa168807a6d9c69597bd0e62de", func := "loop.example/softwareradio/laws.FnPowerNoise", spec := "fnPowerNoise", apart := false }
def FnPowerNoiseSaid : Prop := fnPowerNoiseRow.holds Try.pinned (OpenSpec.ofChange fnPowerNoiseSpec)

/-- ITS FALSE NEIGHBOUR: 'it returns false'. Refute it at one input. -/
def fnPowerNoiseWrong : ChangeSpec := { name := "fnPowerNoise", fn := fun _ => fun
  | [d] => { results := [.lit (.bool false)], args := [d] }
  | _ => none }
def FnPowerNoiseWrongFalsely : Prop := fnPowerNoiseRow.holds Try.pinned (OpenSpec.ofChange fnPowerNoiseWrong)

/-- 'laws.FnExactLinksValid': WHATEVER THE INPUT: true; the input reads as it did. -/
def fnExactLinksValidSpec : ChangeSpec := { name := "fnExactLinksValid", fn := fun _ => fun
  | [d] => { results := [.lit (.bool true)], args := [d] }
  | _ => none }
def fnExactLinksValidRow : OpenClaim := { program := "ytlgcacoggikfcaa", sum := "90385970009e122228ab24827660e1b6ac8ebefa168807a6d9c69597bd0e62de", func := "loop.example/softwareradio/laws.FnExactLinksValid", spec := "fnExactLinksValid", apart := false }
def FnExactLinksValidSaid : Prop := fnExactLinksValidRow.holds Try.pinned (OpenSpec.ofChange fnExactLinksValidSpec)

/-- ITS FALSE NEIGHBOUR: 'it returns false'. Refute it at one input. -/
def fnExactLinksValidWrong : ChangeSpec := { name := "fnExactLinksValid", fn := fun _ => fun
  | [d] => { results := [.lit (.bool false)], args := [d] }
  | _ => none }
def FnExactLinksValidWrongFalsely : Prop := fnExactLinksValidRow.holds Try.pinned (OpenSpec.ofChange fnExactLinksValidWrong)

/-- 'laws.FnExactLinksMeet': WHATEVER THE INPUT: true; the input reads as it did. -/
def fnExactLinksMeetSpec : ChangeSpec := { name := "fnExactLinksMeet", fn := fun _ => fun
  | [d1, d2] => { results := [.lit (.bool true)], args := [d1, d2] }
  | _ => none }
def fnExactLinksMeetRow : OpenClaim := { program := "ytlgcacoggikfcaa", sum := "90385970009e122228ab24827660e1b6ac8ebefa168807a6d9c69597bd0e62de", func := "loop.example/softwareradio/laws.FnExactLinksMeet", spec := "fnExactLinksMeet", apart := false }
def FnExactLinksMeetSaid : Prop := fnExactLinksMeetRow.holds Try.pinned (OpenSpec.ofChange fnExactLinksMeetSpec)

/-- ITS FALSE NEIGHBOUR: 'it returns false'. Refute it at one input. -/
def fnExactLinksMeetWrong : ChangeSpec := { name := "fnExactLinksMeet", fn := fun _ => fun
  | [d1, d2] => { results := [.lit (.bool false)], args := [d1, d2] }
  | _ => none }
def FnExactLinksMeetWrongFalsely : Prop := fnExactLinksMeetRow.holds Try.pinned (OpenSpec.ofChange fnExactLinksMeetWrong)

/-- 'laws.FnExactPowerStep': WHATEVER THE INPUT: true; the input reads as it did. -/
def fnExactPowerStepSpec : ChangeSpec := { name := "fnExactPowerStep", fn := fun _ => fun
  | [d1, d2] => { results := [.lit (.bool true)], args := [d1, d2] }
  | _ => none }
def fnExactPowerStepRow : OpenClaim := { program := "ytlgcacoggikfcaa", sum := "90385970009e122228ab24827660e1b6ac8ebefa168807a6d9c69597bd0e62de", func := "loop.example/softwareradio/laws.FnExactPowerStep", spec := "fnExactPowerStep", apart := false }
def FnExactPowerStepSaid : Prop := fnExactPowerStepRow.holds Try.pinned (OpenSpec.ofChange fnExactPowerStepSpec)

/-- ITS FALSE NEIGHBOUR: 'it returns false'. Refute it at one input. -/
def fnExactPowerStepWrong : ChangeSpec := { name := "fnExactPowerStep", fn := fun _ => fun
  | [d1, d2] => { results := [.lit (.bool false)], args := [d1, d2] }
  | _ => none }
def FnExactPowerStepWrongFalsely : Prop := fnExactPowerStepRow.holds Try.pinned (OpenSpec.ofChange fnExactPowerStepWrong)

/-- 'laws.FnExactLeastPowers': WHATEVER THE INPUT: true; the input reads as it did. -/
def fnExactLeastPowersSpec : ChangeSpec := { name := "fnExactLeastPowers", fn := fun _ => fun
  | [d] => { results := [.lit (.bool true)], args := [d] }
  | _ => none }
def fnExactLeastPowersRow : OpenClaim := { program := "ytlgcacoggikfcaa", sum := "90385970009e122228ab24827660e1b6ac8ebefa168807a6d9c69597bd0e62de", func := "loop.example/softwareradio/laws.FnExactLeastPowers", spec := "fnExactLeastPowers", apart := false }
def FnExactLeastPowersSaid : Prop := fnExactLeastPowersRow.holds Try.pinned (OpenSpec.ofChange fnExactLeastPowersSpec)

/-- ITS FALSE NEIGHBOUR: 'it returns false'. Refute it at one input. -/
def fnExactLeastPowersWrong : ChangeSpec := { name := "fnExactLeastPowers", fn := fun _ => fun
  | [d] => { results := [.lit (.bool false)], args := [d] }
  | _ => none }
def FnExactLeastPowersWrongFalsely : Prop := fnExactLeastPowersRow.holds Try.pinned (OpenSpec.ofChange fnExactLeastPowersWrong)

/- THE SECOND FORM. 'bulk': how many values and letters a reading holds, each counted each time it is reached (what is shared counts as often as it is met; a slice's spare places count too). A statement '..UptoSaid' is the law's where the arguments, and the package variables that the reading takes, are together of bulk at most 1048576: NARROWER than '..Said'. Prove '..Said' where nothing that the law and all that it calls make is longer than what came in: it says more and counts as full. Else prove '..UptoSaid'. A law counts once. -/
mutual
def uptoBulk {H : Type} : DataW H → Nat
  | .lit (.string bytes) => bytes.length + 1
  | .lit _ => 1
  | .nil => 1
  | .ptr d => uptoBulk d + 1
  | .slice elems spare => uptoBulkAll elems + uptoBulkAll spare + 1
  | .agg parts => uptoBulkAll parts + 1
  | .iface _ d => uptoBulk d + 1
  | .map entries => uptoBulkEntries entries + 1
  | .held _ => 1
def uptoBulkAll {H : Type} : List (DataW H) → Nat
  | [] => 0
  | d :: r => uptoBulk d + uptoBulkAll r
def uptoBulkEntries {H : Type} : List (Lit × DataW H) → Nat
  | [] => 0
  | x :: r => uptoBulkEntry x + uptoBulkEntries r
def uptoBulkEntry {H : Type} : Lit × DataW H → Nat
  | (.string bytes, d) => bytes.length + uptoBulk d + 1
  | (_, d) => uptoBulk d + 1
 end
def uptoSmall : (H : Type) → List (DataW H) → Bool := fun _ ds => decide (uptoBulkAll ds ≤ 1048576)
def OpenSpec.upto (s : _root_.Go.ChangeSpec) : _root_.Go.OpenSpec := { _root_.Go.OpenSpec.ofChange s with cond := some uptoSmall }

/-- 'laws.FnLinksValid', WHERE WHAT IT READS IS OF BULK AT MOST 1048576: true; the input reads as it did. -/
def fnLinksValidUptoRow : OpenClaim := { program := "ytlgcacoggikfcaa", sum := "90385970009e122228ab24827660e1b6ac8ebefa168807a6d9c69597bd0e62de", func := "loop.example/softwareradio/laws.FnLinksValid", spec := "fnLinksValid", apart := false, narrowed := true }
def FnLinksValidUptoSaid : Prop := fnLinksValidUptoRow.holds Try.pinned (OpenSpec.upto fnLinksValidSpec)

/-- 'laws.FnLinksMeet', WHERE WHAT IT READS IS OF BULK AT MOST 1048576: true; the input reads as it did. -/
def fnLinksMeetUptoRow : OpenClaim := { program := "ytlgcacoggikfcaa", sum := "90385970009e122228ab24827660e1b6ac8ebefa168807a6d9c69597bd0e62de", func := "loop.example/softwareradio/laws.FnLinksMeet", spec := "fnLinksMeet", apart := false, narrowed := true }
def FnLinksMeetUptoSaid : Prop := fnLinksMeetUptoRow.holds Try.pinned (OpenSpec.upto fnLinksMeetSpec)

/-- 'laws.FnPowerStep', WHERE WHAT IT READS IS OF BULK AT MOST 1048576: true; the input reads as it did. -/
def fnPowerStepUptoRow : OpenClaim := { program := "ytlgcacoggikfcaa", sum := "90385970009e122228ab24827660e1b6ac8ebefa168807a6d9c69597bd0e62de", func := "loop.example/softwareradio/laws.FnPowerStep", spec := "fnPowerStep", apart := false, narrowed := true }
def FnPowerStepUptoSaid : Prop := fnPowerStepUptoRow.holds Try.pinned (OpenSpec.upto fnPowerStepSpec)

/-- 'laws.FnLeastPowers', WHERE WHAT IT READS IS OF BULK AT MOST 1048576: true; the input reads as it did. -/
def fnLeastPowersUptoRow : OpenClaim := { program := "ytlgcacoggikfcaa", sum := "90385970009e122228ab24827660e1b6ac8ebefa168807a6d9c69597bd0e62de", func := "loop.example/softwareradio/laws.FnLeastPowers", spec := "fnLeastPowers", apart := false, narrowed := true }
def FnLeastPowersUptoSaid : Prop := fnLeastPowersUptoRow.holds Try.pinned (OpenSpec.upto fnLeastPowersSpec)

/-- 'laws.FnPowerNoise', WHERE WHAT IT READS IS OF BULK AT MOST 1048576: true; the input reads as it did. -/
def fnPowerNoiseUptoRow : OpenClaim := { program := "ytlgcacoggikfcaa", sum := "90385970009e122228ab24827660e1b6ac8ebefa168807a6d9c69597bd0e62de", func := "loop.example/softwareradio/laws.FnPowerNoise", spec := "fnPowerNoise", apart := false, narrowed := true }
def FnPowerNoiseUptoSaid : Prop := fnPowerNoiseUptoRow.holds Try.pinned (OpenSpec.upto fnPowerNoiseSpec)

/-- 'laws.FnExactLinksValid', WHERE WHAT IT READS IS OF BULK AT MOST 1048576: true; the input reads as it did. -/
def fnExactLinksValidUptoRow : OpenClaim := { program := "ytlgcacoggikfcaa", sum := "90385970009e122228ab24827660e1b6ac8ebefa168807a6d9c69597bd0e62de", func := "loop.example/softwareradio/laws.FnExactLinksValid", spec := "fnExactLinksValid", apart := false, narrowed := true }
def FnExactLinksValidUptoSaid : Prop := fnExactLinksValidUptoRow.holds Try.pinned (OpenSpec.upto fnExactLinksValidSpec)

/-- 'laws.FnExactLinksMeet', WHERE WHAT IT READS IS OF BULK AT MOST 1048576: true; the input reads as it did. -/
def fnExactLinksMeetUptoRow : OpenClaim := { program := "ytlgcacoggikfcaa", sum := "90385970009e122228ab24827660e1b6ac8ebefa168807a6d9c69597bd0e62de", func := "loop.example/softwareradio/laws.FnExactLinksMeet", spec := "fnExactLinksMeet", apart := false, narrowed := true }
def FnExactLinksMeetUptoSaid : Prop := fnExactLinksMeetUptoRow.holds Try.pinned (OpenSpec.upto fnExactLinksMeetSpec)

/-- 'laws.FnExactPowerStep', WHERE WHAT IT READS IS OF BULK AT MOST 1048576: true; the input reads as it did. -/
def fnExactPowerStepUptoRow : OpenClaim := { program := "ytlgcacoggikfcaa", sum := "90385970009e122228ab24827660e1b6ac8ebefa168807a6d9c69597bd0e62de", func := "loop.example/softwareradio/laws.FnExactPowerStep", spec := "fnExactPowerStep", apart := false, narrowed := true }
def FnExactPowerStepUptoSaid : Prop := fnExactPowerStepUptoRow.holds Try.pinned (OpenSpec.upto fnExactPowerStepSpec)

/-- 'laws.FnExactLeastPowers', WHERE WHAT IT READS IS OF BULK AT MOST 1048576: true; the input reads as it did. -/
def fnExactLeastPowersUptoRow : OpenClaim := { program := "ytlgcacoggikfcaa", sum := "90385970009e122228ab24827660e1b6ac8ebefa168807a6d9c69597bd0e62de", func := "loop.example/softwareradio/laws.FnExactLeastPowers", spec := "fnExactLeastPowers", apart := false, narrowed := true }
def FnExactLeastPowersUptoSaid : Prop := fnExactLeastPowersUptoRow.holds Try.pinned (OpenSpec.upto fnExactLeastPowersSpec)

end Rows
end Go.Proofs.Ytlgcacoggikfcaa
