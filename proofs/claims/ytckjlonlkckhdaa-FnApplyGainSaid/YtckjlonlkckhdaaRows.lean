/-
  No cell of these rows narrows 'for every input' (looked for: loops, veiled, ifaces, maps, wideKeys, modest, calm, conditions, laid).
  DERIVED. THE GIVEN ROWS OF THIS SEAT. 9 by the template 'for every input the law returns true; each argument reads behind the call as it read before'; 0 by the template 'total and deterministic' (their statements: YtckjlonlkckhdaaTotals.lean).
  GIVEN WITH THE SEED: the statements are not yours to turn. If you find one false, say at which input.
  Laid BY PROGRAM, IN A SANDBOX (cutbox-rows.mjs): the forced cells as the released guide's own fill.sh prints them over the translation fe48ead4212c7dd9… (all of the seat's roots in one cut). By AI agents, Wed Nov 11 2026. No macro, syntax, notation, axiom, sorry.
-/
import Derived.Test.YtckjlonlkckhdaaChecked
import GoSem.Claim
import GoSem.ClaimJoined
import GoSem.ClaimMapViews
import Derived.JoinedTies
import Derived.KernelRfl
namespace Go.Proofs.Ytckjlonlkckhdaa
/- THE CELL 'sum', in the pinned program and in every row, IS THE sha256 OF THE DUMP (.gsa) THAT YtckjlonlkckhdaaProg.lean LOADS. Nothing in Lean hashes anything: it is a label: what it is worth is what the hold of that sum in a sandbox is worth. -/
noncomputable def Try.pinned : Pinned := { name := "ytckjlonlkckhdaa", sum := "fe48ead4212c7dd9824a8abc1c67ba53be0782dadeb8c8f1fa2ff19cd45c3d46", checked := Try.checked }
namespace Rows
def none {H : Type} : Left H := { results := [], args := [] }

/-- 'laws.FnPeakOf': WHATEVER THE INPUT: true; the input reads as it did. -/
def fnPeakOfSpec : ChangeSpec := { name := "fnPeakOf", fn := fun _ => fun
  | [d] => { results := [.lit (.bool true)], args := [d] }
  | _ => none }
def fnPeakOfRow : OpenClaim := { program := "ytckjlonlkckhdaa", sum := "fe48ead4212c7dd9824a8abc1c67ba53be0782dadeb8c8f1fa2ff19cd45c3d46", func := "loop.example/softwareradio/laws.FnPeakOf", spec := "fnPeakOf", apart := false }
def FnPeakOfSaid : Prop := fnPeakOfRow.holds Try.pinned (OpenSpec.ofChange fnPeakOfSpec)

/-- ITS FALSE NEIGHBOUR: 'it returns false'. Refute it at one input. -/
def fnPeakOfWrong : ChangeSpec := { name := "fnPeakOf", fn := fun _ => fun
  | [d] => { results := [.lit (.bool false)], args := [d] }
  | _ => none }
def FnPeakOfWrongFalsely : Prop := fnPeakOfRow.holds Try.pinned (OpenSpec.ofChange fnPeakOfWrong)

/-- 'laws.FnGainStep': WHATEVER THE INPUT: true; the input reads as it did. -/
def fnGainStepSpec : ChangeSpec := { name := "fnGainStep", fn := fun _ => fun
  | [d] => { results := [.lit (.bool true)], args := [d] }
  | _ => none }
def fnGainStepRow : OpenClaim := { program := "ytckjlonlkckhdaa", sum := "fe48ead4212c7dd9824a8abc1c67ba53be0782dadeb8c8f1fa2ff19cd45c3d46", func := "loop.example/softwareradio/laws.FnGainStep", spec := "fnGainStep", apart := false }
def FnGainStepSaid : Prop := fnGainStepRow.holds Try.pinned (OpenSpec.ofChange fnGainStepSpec)

/-- ITS FALSE NEIGHBOUR: 'it returns false'. Refute it at one input. -/
def fnGainStepWrong : ChangeSpec := { name := "fnGainStep", fn := fun _ => fun
  | [d] => { results := [.lit (.bool false)], args := [d] }
  | _ => none }
def FnGainStepWrongFalsely : Prop := fnGainStepRow.holds Try.pinned (OpenSpec.ofChange fnGainStepWrong)

/-- 'laws.FnApplyGain': WHATEVER THE INPUT: true; the input reads as it did. -/
def fnApplyGainSpec : ChangeSpec := { name := "fnApplyGain", fn := fun _ => fun
  | [d] => { results := [.lit (.bool true)], args := [d] }
  | _ => none }
def fnApplyGainRow : OpenClaim := { program := "ytckjlonlkckhdaa", sum := "fe48ead4212c7dd9824a8abc1c67ba53be0782dadeb8c8f1fa2ff19cd45c3d46", func := "loop.example/softwareradio/laws.FnApplyGain", spec := "fnApplyGain", apart := false }
def FnApplyGainSaid : Prop := fnApplyGainRow.holds Try.pinned (OpenSpec.ofChange fnApplyGainSpec)

/-- ITS FALSE NEIGHBOUR: 'it returns false'. Refute it at one input. -/
def fnApplyGainWrong : ChangeSpec := { name := "fnApplyGain", fn := fun _ => fun
  | [d] => { results := [.lit (.bool false)], args := [d] }
  | _ => none }
def FnApplyGainWrongFalsely : Prop := fnApplyGainRow.holds Try.pinned (OpenSpec.ofChange fnApplyGainWrong)

/-- 'laws.FnRemoveMean': WHATEVER THE INPUT: true; the input reads as it did. -/
def fnRemoveMeanSpec : ChangeSpec := { name := "fnRemoveMean", fn := fun _ => fun
  | [d] => { results := [.lit (.bool true)], args := [d] }
  | _ => none }
def fnRemoveMeanRow : OpenClaim := { program := "ytckjlonlkckhdaa", sum := "fe48ead4212c7dd9824a8abc1c67ba53be0782dadeb8c8f1fa2ff19cd45c3d46", func := "loop.example/softwareradio/laws.FnRemoveMean", spec := "fnRemoveMean", apart := false }
def FnRemoveMeanSaid : Prop := fnRemoveMeanRow.holds Try.pinned (OpenSpec.ofChange fnRemoveMeanSpec)

/-- ITS FALSE NEIGHBOUR: 'it returns false'. Refute it at one input. -/
def fnRemoveMeanWrong : ChangeSpec := { name := "fnRemoveMean", fn := fun _ => fun
  | [d] => { results := [.lit (.bool false)], args := [d] }
  | _ => none }
def FnRemoveMeanWrongFalsely : Prop := fnRemoveMeanRow.holds Try.pinned (OpenSpec.ofChange fnRemoveMeanWrong)

/-- 'laws.FnMeanAgain': WHATEVER THE INPUT: true; the input reads as it did. -/
def fnMeanAgainSpec : ChangeSpec := { name := "fnMeanAgain", fn := fun _ => fun
  | [d] => { results := [.lit (.bool true)], args := [d] }
  | _ => none }
def fnMeanAgainRow : OpenClaim := { program := "ytckjlonlkckhdaa", sum := "fe48ead4212c7dd9824a8abc1c67ba53be0782dadeb8c8f1fa2ff19cd45c3d46", func := "loop.example/softwareradio/laws.FnMeanAgain", spec := "fnMeanAgain", apart := false }
def FnMeanAgainSaid : Prop := fnMeanAgainRow.holds Try.pinned (OpenSpec.ofChange fnMeanAgainSpec)

/-- ITS FALSE NEIGHBOUR: 'it returns false'. Refute it at one input. -/
def fnMeanAgainWrong : ChangeSpec := { name := "fnMeanAgain", fn := fun _ => fun
  | [d] => { results := [.lit (.bool false)], args := [d] }
  | _ => none }
def FnMeanAgainWrongFalsely : Prop := fnMeanAgainRow.holds Try.pinned (OpenSpec.ofChange fnMeanAgainWrong)

/-- 'laws.FnExactPeakOf': WHATEVER THE INPUT: true; the input reads as it did. -/
def fnExactPeakOfSpec : ChangeSpec := { name := "fnExactPeakOf", fn := fun _ => fun
  | [d] => { results := [.lit (.bool true)], args := [d] }
  | _ => none }
def fnExactPeakOfRow : OpenClaim := { program := "ytckjlonlkckhdaa", sum := "fe48ead4212c7dd9824a8abc1c67ba53be0782dadeb8c8f1fa2ff19cd45c3d46", func := "loop.example/softwareradio/laws.FnExactPeakOf", spec := "fnExactPeakOf", apart := false }
def FnExactPeakOfSaid : Prop := fnExactPeakOfRow.holds Try.pinned (OpenSpec.ofChange fnExactPeakOfSpec)

/-- ITS FALSE NEIGHBOUR: 'it returns false'. Refute it at one input. -/
def fnExactPeakOfWrong : ChangeSpec := { name := "fnExactPeakOf", fn := fun _ => fun
  | [d] => { results := [.lit (.bool false)], args := [d] }
  | _ => none }
def FnExactPeakOfWrongFalsely : Prop := fnExactPeakOfRow.holds Try.pinned (OpenSpec.ofChange fnExactPeakOfWrong)

/-- 'laws.FnExactGainStep': WHATEVER THE INPUT: true; the input reads as it did. -/
def fnExactGainStepSpec : ChangeSpec := { name := "fnExactGainStep", fn := fun _ => fun
  | [d1, d2, d3] => { results := [.lit (.bool true)], args := [d1, d2, d3] }
  | _ => none }
def fnExactGainStepRow : OpenClaim := { program := "ytckjlonlkckhdaa", sum := "fe48ead4212c7dd9824a8abc1c67ba53be0782dadeb8c8f1fa2ff19cd45c3d46", func := "loop.example/softwareradio/laws.FnExactGainStep", spec := "fnExactGainStep", apart := false }
def FnExactGainStepSaid : Prop := fnExactGainStepRow.holds Try.pinned (OpenSpec.ofChange fnExactGainStepSpec)

/-- ITS FALSE NEIGHBOUR: 'it returns false'. Refute it at one input. -/
def fnExactGainStepWrong : ChangeSpec := { name := "fnExactGainStep", fn := fun _ => fun
  | [d1, d2, d3] => { results := [.lit (.bool false)], args := [d1, d2, d3] }
  | _ => none }
def FnExactGainStepWrongFalsely : Prop := fnExactGainStepRow.holds Try.pinned (OpenSpec.ofChange fnExactGainStepWrong)

/-- 'laws.FnExactApplyGain': WHATEVER THE INPUT: true; the input reads as it did. -/
def fnExactApplyGainSpec : ChangeSpec := { name := "fnExactApplyGain", fn := fun _ => fun
  | [d1, d2] => { results := [.lit (.bool true)], args := [d1, d2] }
  | _ => none }
def fnExactApplyGainRow : OpenClaim := { program := "ytckjlonlkckhdaa", sum := "fe48ead4212c7dd9824a8abc1c67ba53be0782dadeb8c8f1fa2ff19cd45c3d46", func := "loop.example/softwareradio/laws.FnExactApplyGain", spec := "fnExactApplyGain", apart := false }
def FnExactApplyGainSaid : Prop := fnExactApplyGainRow.holds Try.pinned (OpenSpec.ofChange fnExactApplyGainSpec)

/-- ITS FALSE NEIGHBOUR: 'it returns false'. Refute it at one input. -/
def fnExactApplyGainWrong : ChangeSpec := { name := "fnExactApplyGain", fn := fun _ => fun
  | [d1, d2] => { results := [.lit (.bool false)], args := [d1, d2] }
  | _ => none }
def FnExactApplyGainWrongFalsely : Prop := fnExactApplyGainRow.holds Try.pinned (OpenSpec.ofChange fnExactApplyGainWrong)

/-- 'laws.FnExactRemoveMean': WHATEVER THE INPUT: true; the input reads as it did. -/
def fnExactRemoveMeanSpec : ChangeSpec := { name := "fnExactRemoveMean", fn := fun _ => fun
  | [d] => { results := [.lit (.bool true)], args := [d] }
  | _ => none }
def fnExactRemoveMeanRow : OpenClaim := { program := "ytckjlonlkckhdaa", sum := "fe48ead4212c7dd9824a8abc1c67ba53be0782dadeb8c8f1fa2ff19cd45c3d46", func := "loop.example/softwareradio/laws.FnExactRemoveMean", spec := "fnExactRemoveMean", apart := false }
def FnExactRemoveMeanSaid : Prop := fnExactRemoveMeanRow.holds Try.pinned (OpenSpec.ofChange fnExactRemoveMeanSpec)

/-- ITS FALSE NEIGHBOUR: 'it returns false'. Refute it at one input. -/
def fnExactRemoveMeanWrong : ChangeSpec := { name := "fnExactRemoveMean", fn := fun _ => fun
  | [d] => { results := [.lit (.bool false)], args := [d] }
  | _ => none }
def FnExactRemoveMeanWrongFalsely : Prop := fnExactRemoveMeanRow.holds Try.pinned (OpenSpec.ofChange fnExactRemoveMeanWrong)

/- THE SECOND FORM. 'bulk': how many values and letters a reading holds, each counted each time it is reached (what is shared counts as often as it is met; a slice's spare places count too). A statement '..UptoSaid' is the law's where the arguments, and the package variables that the reading takes, are together of bulk at most 1048576: NARROWER than '..Said'. Prove '..Said' where nothing that the law and all that it calls make is longer than what came in: it says more and counts as full. Else prove '..UptoSaid'. A law counts once. -/
mutual
def uptoBulk {H : Type} : DataW H → Nat
  | .lit (.string bytes) => bytes.length + 1
  | .lit _ => 1
  | .nil => 1
  | .ptr d => uptoBulk d + 1
  | .slice elems spare => uptoBulkAll elems + uptoBulkAll spare + 1
  | .agg parts => uptoBulkAll parts + 1
  | .iface _ d => uptoBulk d + 1
  | .map entries => uptoBulkEntries entries + 1
  | .held _ => 1
def uptoBulkAll {H : Type} : List (DataW H) → Nat
  | [] => 0
  | d :: r => uptoBulk d + uptoBulkAll r
def uptoBulkEntries {H : Type} : List (Lit × DataW H) → Nat
  | [] => 0
  | x :: r => uptoBulkEntry x + uptoBulkEntries r
def uptoBulkEntry {H : Type} : Lit × DataW H → Nat
  | (.string bytes, d) => bytes.length + uptoBulk d + 1
  | (_, d) => uptoBulk d + 1
 end
def uptoSmall : (H : Type) → List (DataW H) → Bool := fun _ ds => decide (uptoBulkAll ds ≤ 1048576)
def OpenSpec.upto (s : _root_.Go.ChangeSpec) : _root_.Go.OpenSpec := { _root_.Go.OpenSpec.ofChange s with cond := some uptoSmall }

/-- 'laws.FnPeakOf', WHERE WHAT IT READS IS OF BULK AT MOST 1048576: true; the input reads as it did. -/
def fnPeakOfUptoRow : OpenClaim := { program := "ytckjlonlkckhdaa", sum := "fe48ead4212c7dd9824a8abc1c67ba53be0782dadeb8c8f1fa2ff19cd45c3d46", func := "loop.example/softwareradio/laws.FnPeakOf", spec := "fnPeakOf", apart := false, narrowed := true }
def FnPeakOfUptoSaid : Prop := fnPeakOfUptoRow.holds Try.pinned (OpenSpec.upto fnPeakOfSpec)

/-- 'laws.FnGainStep', WHERE WHAT IT READS IS OF BULK AT MOST 1048576: true; the input reads as it did. -/
def fnGainStepUptoRow : OpenClaim := { program := "ytckjlonlkckhdaa", sum := "fe48ead4212c7dd9824a8abc1c67ba53be0782dadeb8c8f1fa2ff19cd45c3d46", func := "loop.example/softwareradio/laws.FnGainStep", spec := "fnGainStep", apart := false, narrowed := true }
def FnGainStepUptoSaid : Prop := fnGainStepUptoRow.holds Try.pinned (OpenSpec.upto fnGainStepSpec)

/-- 'laws.FnApplyGain', WHERE WHAT IT READS IS OF BULK AT MOST 1048576: true; the input reads as it did. -/
def fnApplyGainUptoRow : OpenClaim := { program := "ytckjlonlkckhdaa", sum := "fe48ead4212c7dd9824a8abc1c67ba53be0782dadeb8c8f1fa2ff19cd45c3d46", func := "loop.example/softwareradio/laws.FnApplyGain", spec := "fnApplyGain", apart := false, narrowed := true }
def FnApplyGainUptoSaid : Prop := fnApplyGainUptoRow.holds Try.pinned (OpenSpec.upto fnApplyGainSpec)

/-- 'laws.FnRemoveMean', WHERE WHAT IT READS IS OF BULK AT MOST 1048576: true; the input reads as it did. -/
def fnRemoveMeanUptoRow : OpenClaim := { program := "ytckjlonlkckhdaa", sum := "fe48ead4212c7dd9824a8abc1c67ba53be0782dadeb8c8f1fa2ff19cd45c3d46", func := "loop.example/softwareradio/laws.FnRemoveMean", spec := "fnRemoveMean", apart := false, narrowed := true }
def FnRemoveMeanUptoSaid : Prop := fnRemoveMeanUptoRow.holds Try.pinned (OpenSpec.upto fnRemoveMeanSpec)

/-- 'laws.FnMeanAgain', WHERE WHAT IT READS IS OF BULK AT MOST 1048576: true; the input reads as it did. -/
def fnMeanAgainUptoRow : OpenClaim := { program := "ytckjlonlkckhdaa", sum := "fe48ead4212c7dd9824a8abc1c67ba53be0782dadeb8c8f1fa2ff19cd45c3d46", func := "loop.example/softwareradio/laws.FnMeanAgain", spec := "fnMeanAgain", apart := false, narrowed := true }
def FnMeanAgainUptoSaid : Prop := fnMeanAgainUptoRow.holds Try.pinned (OpenSpec.upto fnMeanAgainSpec)

/-- 'laws.FnExactPeakOf', WHERE WHAT IT READS IS OF BULK AT MOST 1048576: true; the input reads as it did. -/
def fnExactPeakOfUptoRow : OpenClaim := { program := "ytckjlonlkckhdaa", sum := "fe48ead4212c7dd9824a8abc1c67ba53be0782dadeb8c8f1fa2ff19cd45c3d46", func := "loop.example/softwareradio/laws.FnExactPeakOf", spec := "fnExactPeakOf", apart := false, narrowed := true }
def FnExactPeakOfUptoSaid : Prop := fnExactPeakOfUptoRow.holds Try.pinned (OpenSpec.upto fnExactPeakOfSpec)

/-- 'laws.FnExactGainStep', WHERE WHAT IT READS IS OF BULK AT MOST 1048576: true; the input reads as it did. -/
def fnExactGainStepUptoRow : OpenClaim := { program := "ytckjlonlkckhdaa", sum := "fe48ead4212c7dd9824a8abc1c67ba53be0782dadeb8c8f1fa2ff19cd45c3d46", func := "loop.example/softwareradio/laws.FnExactGainStep", spec := "fnExactGainStep", apart := false, narrowed := true }
def FnExactGainStepUptoSaid : Prop := fnExactGainStepUptoRow.holds Try.pinned (OpenSpec.upto fnExactGainStepSpec)

/-- 'laws.FnExactApplyGain', WHERE WHAT IT READS IS OF BULK AT MOST 1048576: true; the input reads as it did. -/
def fnExactApplyGainUptoRow : OpenClaim := { program := "ytckjlonlkckhdaa", sum := "fe48ead4212c7dd9824a8abc1c67ba53be0782dadeb8c8f1fa2ff19cd45c3d46", func := "loop.example/softwareradio/laws.FnExactApplyGain", spec := "fnExactApplyGain", apart := false, narrowed := true }
def FnExactApplyGainUptoSaid : Prop := fnExactApplyGainUptoRow.holds Try.pinned (OpenSpec.upto fnExactApplyGainSpec)

/-- 'laws.FnExactRemoveMean', WHERE WHAT IT READS IS OF BULK AT MOST 1048576: true; the input reads as it did. -/
def fnExactRemoveMeanUptoRow : OpenClaim := { program := "ytckjlonlkckhdaa", sum := "fe48ead4212c7dd9824a8abc1c67ba53be0782dadeb8c8f1fa2ff19cd45c3d46", func := "loop.example/softwareradio/laws.FnExactRemoveMean", spec := "fnExactRemoveMean", apart := false, narrowed := true }
def FnExactRemoveMeanUptoSaid : Prop := fnExactRemoveMeanUptoRow.holds Try.pinned (OpenSpec.upto fnExactRemoveMeanSpec)

end Rows
end Go.Proofs.Ytckjlonlkckhdaa
