/-
  No cell of these rows narrows 'for every input' (looked for: loops, veiled, ifaces, maps, wideKeys, modest, calm, conditions, laid).
  DERIVED. THE GIVEN ROWS OF THIS SEAT. 9 by the template 'for every input the law returns true; each argument reads behind the call as it read before'; 0 by the template 'total and deterministic' (their statements: YtdnnpnaaohfgaabTotals.lean).
  GIVEN WITH THE SEED: the statements are not yours to turn. If you find one false, say at which input.
  Laid BY PROGRAM, IN A SANDBOX (cutbox-rows.mjs): the forced cells as the released guide's own fill.sh prints them over the translation f8d65089367dfdc4… (all of the seat's roots in one cut). By AI agents, Wed Nov 11 2026. No macro, syntax, notation, axiom, sorry.
-/
import Derived.Test.YtdnnpnaaohfgaabChecked
import GoSem.Claim
import GoSem.ClaimJoined
import GoSem.ClaimMapViews
import Derived.JoinedTies
import Derived.KernelRfl
namespace Go.Proofs.Ytdnnpnaaohfgaab
/- THE CELL 'sum', in the pinned program and in every row, IS THE sha256 OF THE DUMP (.gsa) THAT YtdnnpnaaohfgaabProg.lean LOADS. Nothing in Lean hashes anything: it is a label: what it is worth is what the hold of that sum in a sandbox is worth. -/
noncomputable def Try.pinned : Pinned := { name := "ytdnnpnaaohfgaab", sum := "f8d65089367dfdc480f29555a60690d51191118d446911961b089921c848436c", checked := Try.checked }
namespace Rows
def none {H : Type} : Left H := { results := [], args := [] }

/-- 'laws.FnFilterDelay': WHATEVER THE INPUT: true; the input reads as it did. -/
def fnFilterDelaySpec : ChangeSpec := { name := "fnFilterDelay", fn := fun _ => fun
  | [d] => { results := [.lit (.bool true)], args := [d] }
  | _ => none }
def fnFilterDelayRow : OpenClaim := { program := "ytdnnpnaaohfgaab", sum := "f8d65089367dfdc480f29555a60690d51191118d446911961b089921c848436c", func := "loop.example/softwareradio/laws.FnFilterDelay", spec := "fnFilterDelay", apart := false }
def FnFilterDelaySaid : Prop := fnFilterDelayRow.holds Try.pinned (OpenSpec.ofChange fnFilterDelaySpec)

/-- ITS FALSE NEIGHBOUR: 'it returns false'. Refute it at one input. -/
def fnFilterDelayWrong : ChangeSpec := { name := "fnFilterDelay", fn := fun _ => fun
  | [d] => { results := [.lit (.bool false)], args := [d] }
  | _ => none }
def FnFilterDelayWrongFalsely : Prop := fnFilterDelayRow.holds Try.pinned (OpenSpec.ofChange fnFilterDelayWrong)

/-- 'laws.FnPatternSelf': WHATEVER THE INPUT: true; the input reads as it did. -/
def fnPatternSelfSpec : ChangeSpec := { name := "fnPatternSelf", fn := fun _ => fun
  | [d1, d2] => { results := [.lit (.bool true)], args := [d1, d2] }
  | _ => none }
def fnPatternSelfRow : OpenClaim := { program := "ytdnnpnaaohfgaab", sum := "f8d65089367dfdc480f29555a60690d51191118d446911961b089921c848436c", func := "loop.example/softwareradio/laws.FnPatternSelf", spec := "fnPatternSelf", apart := false }
def FnPatternSelfSaid : Prop := fnPatternSelfRow.holds Try.pinned (OpenSpec.ofChange fnPatternSelfSpec)

/-- ITS FALSE NEIGHBOUR: 'it returns false'. Refute it at one input. -/
def fnPatternSelfWrong : ChangeSpec := { name := "fnPatternSelf", fn := fun _ => fun
  | [d1, d2] => { results := [.lit (.bool false)], args := [d1, d2] }
  | _ => none }
def FnPatternSelfWrongFalsely : Prop := fnPatternSelfRow.holds Try.pinned (OpenSpec.ofChange fnPatternSelfWrong)

/-- 'laws.FnExactSequenceValid': WHATEVER THE INPUT: true; the input reads as it did. -/
def fnExactSequenceValidSpec : ChangeSpec := { name := "fnExactSequenceValid", fn := fun _ => fun
  | [d] => { results := [.lit (.bool true)], args := [d] }
  | _ => none }
def fnExactSequenceValidRow : OpenClaim := { program := "ytdnnpnaaohfgaab", sum := "f8d65089367dfdc480f29555a60690d51191118d446911961b089921c848436c", func := "loop.example/softwareradio/laws.FnExactSequenceValid", spec := "fnExactSequenceValid", apart := false }
def FnExactSequenceValidSaid : Prop := fnExactSequenceValidRow.holds Try.pinned (OpenSpec.ofChange fnExactSequenceValidSpec)

/-- ITS FALSE NEIGHBOUR: 'it returns false'. Refute it at one input. -/
def fnExactSequenceValidWrong : ChangeSpec := { name := "fnExactSequenceValid", fn := fun _ => fun
  | [d] => { results := [.lit (.bool false)], args := [d] }
  | _ => none }
def FnExactSequenceValidWrongFalsely : Prop := fnExactSequenceValidRow.holds Try.pinned (OpenSpec.ofChange fnExactSequenceValidWrong)

/-- 'laws.FnExactFilterSequence': WHATEVER THE INPUT: true; the input reads as it did. -/
def fnExactFilterSequenceSpec : ChangeSpec := { name := "fnExactFilterSequence", fn := fun _ => fun
  | [d1, d2] => { results := [.lit (.bool true)], args := [d1, d2] }
  | _ => none }
def fnExactFilterSequenceRow : OpenClaim := { program := "ytdnnpnaaohfgaab", sum := "f8d65089367dfdc480f29555a60690d51191118d446911961b089921c848436c", func := "loop.example/softwareradio/laws.FnExactFilterSequence", spec := "fnExactFilterSequence", apart := false }
def FnExactFilterSequenceSaid : Prop := fnExactFilterSequenceRow.holds Try.pinned (OpenSpec.ofChange fnExactFilterSequenceSpec)

/-- ITS FALSE NEIGHBOUR: 'it returns false'. Refute it at one input. -/
def fnExactFilterSequenceWrong : ChangeSpec := { name := "fnExactFilterSequence", fn := fun _ => fun
  | [d1, d2] => { results := [.lit (.bool false)], args := [d1, d2] }
  | _ => none }
def FnExactFilterSequenceWrongFalsely : Prop := fnExactFilterSequenceRow.holds Try.pinned (OpenSpec.ofChange fnExactFilterSequenceWrong)

/-- 'laws.FnExactCorrelateAt': WHATEVER THE INPUT: true; the input reads as it did. -/
def fnExactCorrelateAtSpec : ChangeSpec := { name := "fnExactCorrelateAt", fn := fun _ => fun
  | [d1, d2, d3] => { results := [.lit (.bool true)], args := [d1, d2, d3] }
  | _ => none }
def fnExactCorrelateAtRow : OpenClaim := { program := "ytdnnpnaaohfgaab", sum := "f8d65089367dfdc480f29555a60690d51191118d446911961b089921c848436c", func := "loop.example/softwareradio/laws.FnExactCorrelateAt", spec := "fnExactCorrelateAt", apart := false }
def FnExactCorrelateAtSaid : Prop := fnExactCorrelateAtRow.holds Try.pinned (OpenSpec.ofChange fnExactCorrelateAtSpec)

/-- ITS FALSE NEIGHBOUR: 'it returns false'. Refute it at one input. -/
def fnExactCorrelateAtWrong : ChangeSpec := { name := "fnExactCorrelateAt", fn := fun _ => fun
  | [d1, d2, d3] => { results := [.lit (.bool false)], args := [d1, d2, d3] }
  | _ => none }
def FnExactCorrelateAtWrongFalsely : Prop := fnExactCorrelateAtRow.holds Try.pinned (OpenSpec.ofChange fnExactCorrelateAtWrong)

/-- 'laws.FnExactFindPattern': WHATEVER THE INPUT: true; the input reads as it did. -/
def fnExactFindPatternSpec : ChangeSpec := { name := "fnExactFindPattern", fn := fun _ => fun
  | [d1, d2] => { results := [.lit (.bool true)], args := [d1, d2] }
  | _ => none }
def fnExactFindPatternRow : OpenClaim := { program := "ytdnnpnaaohfgaab", sum := "f8d65089367dfdc480f29555a60690d51191118d446911961b089921c848436c", func := "loop.example/softwareradio/laws.FnExactFindPattern", spec := "fnExactFindPattern", apart := false }
def FnExactFindPatternSaid : Prop := fnExactFindPatternRow.holds Try.pinned (OpenSpec.ofChange fnExactFindPatternSpec)

/-- ITS FALSE NEIGHBOUR: 'it returns false'. Refute it at one input. -/
def fnExactFindPatternWrong : ChangeSpec := { name := "fnExactFindPattern", fn := fun _ => fun
  | [d1, d2] => { results := [.lit (.bool false)], args := [d1, d2] }
  | _ => none }
def FnExactFindPatternWrongFalsely : Prop := fnExactFindPatternRow.holds Try.pinned (OpenSpec.ofChange fnExactFindPatternWrong)

/-- 'laws.FnExactRaiseRate': WHATEVER THE INPUT: true; the input reads as it did. -/
def fnExactRaiseRateSpec : ChangeSpec := { name := "fnExactRaiseRate", fn := fun _ => fun
  | [d1, d2] => { results := [.lit (.bool true)], args := [d1, d2] }
  | _ => none }
def fnExactRaiseRateRow : OpenClaim := { program := "ytdnnpnaaohfgaab", sum := "f8d65089367dfdc480f29555a60690d51191118d446911961b089921c848436c", func := "loop.example/softwareradio/laws.FnExactRaiseRate", spec := "fnExactRaiseRate", apart := false }
def FnExactRaiseRateSaid : Prop := fnExactRaiseRateRow.holds Try.pinned (OpenSpec.ofChange fnExactRaiseRateSpec)

/-- ITS FALSE NEIGHBOUR: 'it returns false'. Refute it at one input. -/
def fnExactRaiseRateWrong : ChangeSpec := { name := "fnExactRaiseRate", fn := fun _ => fun
  | [d1, d2] => { results := [.lit (.bool false)], args := [d1, d2] }
  | _ => none }
def FnExactRaiseRateWrongFalsely : Prop := fnExactRaiseRateRow.holds Try.pinned (OpenSpec.ofChange fnExactRaiseRateWrong)

/-- 'laws.FnExactLowerRate': WHATEVER THE INPUT: true; the input reads as it did. -/
def fnExactLowerRateSpec : ChangeSpec := { name := "fnExactLowerRate", fn := fun _ => fun
  | [d1, d2, d3] => { results := [.lit (.bool true)], args := [d1, d2, d3] }
  | _ => none }
def fnExactLowerRateRow : OpenClaim := { program := "ytdnnpnaaohfgaab", sum := "f8d65089367dfdc480f29555a60690d51191118d446911961b089921c848436c", func := "loop.example/softwareradio/laws.FnExactLowerRate", spec := "fnExactLowerRate", apart := false }
def FnExactLowerRateSaid : Prop := fnExactLowerRateRow.holds Try.pinned (OpenSpec.ofChange fnExactLowerRateSpec)

/-- ITS FALSE NEIGHBOUR: 'it returns false'. Refute it at one input. -/
def fnExactLowerRateWrong : ChangeSpec := { name := "fnExactLowerRate", fn := fun _ => fun
  | [d1, d2, d3] => { results := [.lit (.bool false)], args := [d1, d2, d3] }
  | _ => none }
def FnExactLowerRateWrongFalsely : Prop := fnExactLowerRateRow.holds Try.pinned (OpenSpec.ofChange fnExactLowerRateWrong)

/-- 'laws.FnExactUndoFilter': WHATEVER THE INPUT: true; the input reads as it did. -/
def fnExactUndoFilterSpec : ChangeSpec := { name := "fnExactUndoFilter", fn := fun _ => fun
  | [d1, d2] => { results := [.lit (.bool true)], args := [d1, d2] }
  | _ => none }
def fnExactUndoFilterRow : OpenClaim := { program := "ytdnnpnaaohfgaab", sum := "f8d65089367dfdc480f29555a60690d51191118d446911961b089921c848436c", func := "loop.example/softwareradio/laws.FnExactUndoFilter", spec := "fnExactUndoFilter", apart := false }
def FnExactUndoFilterSaid : Prop := fnExactUndoFilterRow.holds Try.pinned (OpenSpec.ofChange fnExactUndoFilterSpec)

/-- ITS FALSE NEIGHBOUR: 'it returns false'. Refute it at one input. -/
def fnExactUndoFilterWrong : ChangeSpec := { name := "fnExactUndoFilter", fn := fun _ => fun
  | [d1, d2] => { results := [.lit (.bool false)], args := [d1, d2] }
  | _ => none }
def FnExactUndoFilterWrongFalsely : Prop := fnExactUndoFilterRow.holds Try.pinned (OpenSpec.ofChange fnExactUndoFilterWrong)

/- THE SECOND FORM. 'bulk': how many values and letters a reading holds, each counted each time it is reached (what is shared counts as often as it is met; a slice's spare places count too). A statement '..UptoSaid' is the law's where the arguments, and the package variables that the reading takes, are together of bulk at most 1048576: NARROWER than '..Said'. Prove '..Said' where nothing that the law and all that it calls make is longer than what came in: it says more and counts as full. Else prove '..UptoSaid'. A law counts once. -/
mutual
def uptoBulk {H : Type} : DataW H → Nat
  | .lit (.string bytes) => bytes.length + 1
  | .lit _ => 1
  | .nil => 1
  | .ptr d => uptoBulk d + 1
  | .slice elems spare => uptoBulkAll elems + uptoBulkAll spare + 1
  | .agg parts => uptoBulkAll parts + 1
  | .iface _ d => uptoBulk d + 1
  | .map entries => uptoBulkEntries entries + 1
  | .held _ => 1
def uptoBulkAll {H : Type} : List (DataW H) → Nat
  | [] => 0
  | d :: r => uptoBulk d + uptoBulkAll r
def uptoBulkEntries {H : Type} : List (Lit × DataW H) → Nat
  | [] => 0
  | x :: r => uptoBulkEntry x + uptoBulkEntries r
def uptoBulkEntry {H : Type} : Lit × DataW H → Nat
  | (.string bytes, d) => bytes.length + uptoBulk d + 1
  | (_, d) => uptoBulk d + 1
 end
def uptoSmall : (H : Type) → List (DataW H) → Bool := fun _ ds => decide (uptoBulkAll ds ≤ 1048576)
def OpenSpec.upto (s : _root_.Go.ChangeSpec) : _root_.Go.OpenSpec := { _root_.Go.OpenSpec.ofChange s with cond := some uptoSmall }

/-- 'laws.FnFilterDelay', WHERE WHAT IT READS IS OF BULK AT MOST 1048576: true; the input reads as it did. -/
def fnFilterDelayUptoRow : OpenClaim := { program := "ytdnnpnaaohfgaab", sum := "f8d65089367dfdc480f29555a60690d51191118d446911961b089921c848436c", func := "loop.example/softwareradio/laws.FnFilterDelay", spec := "fnFilterDelay", apart := false, narrowed := true }
def FnFilterDelayUptoSaid : Prop := fnFilterDelayUptoRow.holds Try.pinned (OpenSpec.upto fnFilterDelaySpec)

/-- 'laws.FnPatternSelf', WHERE WHAT IT READS IS OF BULK AT MOST 1048576: true; the input reads as it did. -/
def fnPatternSelfUptoRow : OpenClaim := { program := "ytdnnpnaaohfgaab", sum := "f8d65089367dfdc480f29555a60690d51191118d446911961b089921c848436c", func := "loop.example/softwareradio/laws.FnPatternSelf", spec := "fnPatternSelf", apart := false, narrowed := true }
def FnPatternSelfUptoSaid : Prop := fnPatternSelfUptoRow.holds Try.pinned (OpenSpec.upto fnPatternSelfSpec)

/-- 'laws.FnExactSequenceValid', WHERE WHAT IT READS IS OF BULK AT MOST 1048576: true; the input reads as it did. -/
def fnExactSequenceValidUptoRow : OpenClaim := { program := "ytdnnpnaaohfgaab", sum := "f8d65089367dfdc480f29555a60690d51191118d446911961b089921c848436c", func := "loop.example/softwareradio/laws.FnExactSequenceValid", spec := "fnExactSequenceValid", apart := false, narrowed := true }
def FnExactSequenceValidUptoSaid : Prop := fnExactSequenceValidUptoRow.holds Try.pinned (OpenSpec.upto fnExactSequenceValidSpec)

/-- 'laws.FnExactFilterSequence', WHERE WHAT IT READS IS OF BULK AT MOST 1048576: true; the input reads as it did. -/
def fnExactFilterSequenceUptoRow : OpenClaim := { program := "ytdnnpnaaohfgaab", sum := "f8d65089367dfdc480f29555a60690d51191118d446911961b089921c848436c", func := "loop.example/softwareradio/laws.FnExactFilterSequence", spec := "fnExactFilterSequence", apart := false, narrowed := true }
def FnExactFilterSequenceUptoSaid : Prop := fnExactFilterSequenceUptoRow.holds Try.pinned (OpenSpec.upto fnExactFilterSequenceSpec)

/-- 'laws.FnExactCorrelateAt', WHERE WHAT IT READS IS OF BULK AT MOST 1048576: true; the input reads as it did. -/
def fnExactCorrelateAtUptoRow : OpenClaim := { program := "ytdnnpnaaohfgaab", sum := "f8d65089367dfdc480f29555a60690d51191118d446911961b089921c848436c", func := "loop.example/softwareradio/laws.FnExactCorrelateAt", spec := "fnExactCorrelateAt", apart := false, narrowed := true }
def FnExactCorrelateAtUptoSaid : Prop := fnExactCorrelateAtUptoRow.holds Try.pinned (OpenSpec.upto fnExactCorrelateAtSpec)

/-- 'laws.FnExactFindPattern', WHERE WHAT IT READS IS OF BULK AT MOST 1048576: true; the input reads as it did. -/
def fnExactFindPatternUptoRow : OpenClaim := { program := "ytdnnpnaaohfgaab", sum := "f8d65089367dfdc480f29555a60690d51191118d446911961b089921c848436c", func := "loop.example/softwareradio/laws.FnExactFindPattern", spec := "fnExactFindPattern", apart := false, narrowed := true }
def FnExactFindPatternUptoSaid : Prop := fnExactFindPatternUptoRow.holds Try.pinned (OpenSpec.upto fnExactFindPatternSpec)

/-- 'laws.FnExactRaiseRate', WHERE WHAT IT READS IS OF BULK AT MOST 1048576: true; the input reads as it did. -/
def fnExactRaiseRateUptoRow : OpenClaim := { program := "ytdnnpnaaohfgaab", sum := "f8d65089367dfdc480f29555a60690d51191118d446911961b089921c848436c", func := "loop.example/softwareradio/laws.FnExactRaiseRate", spec := "fnExactRaiseRate", apart := false, narrowed := true }
def FnExactRaiseRateUptoSaid : Prop := fnExactRaiseRateUptoRow.holds Try.pinned (OpenSpec.upto fnExactRaiseRateSpec)

/-- 'laws.FnExactLowerRate', WHERE WHAT IT READS IS OF BULK AT MOST 1048576: true; the input reads as it did. -/
def fnExactLowerRateUptoRow : OpenClaim := { program := "ytdnnpnaaohfgaab", sum := "f8d65089367dfdc480f29555a60690d51191118d446911961b089921c848436c", func := "loop.example/softwareradio/laws.FnExactLowerRate", spec := "fnExactLowerRate", apart := false, narrowed := true }
def FnExactLowerRateUptoSaid : Prop := fnExactLowerRateUptoRow.holds Try.pinned (OpenSpec.upto fnExactLowerRateSpec)

/-- 'laws.FnExactUndoFilter', WHERE WHAT IT READS IS OF BULK AT MOST 1048576: true; the input reads as it did. -/
def fnExactUndoFilterUptoRow : OpenClaim := { program := "ytdnnpnaaohfgaab", sum := "f8d65089367dfdc480f29555a60690d51191118d446911961b089921c848436c", func := "loop.example/softwareradio/laws.FnExactUndoFilter", spec := "fnExactUndoFilter", apart := false, narrowed := true }
def FnExactUndoFilterUptoSaid : Prop := fnExactUndoFilterUptoRow.holds Try.pinned (OpenSpec.upto fnExactUndoFilterSpec)

end Rows
end Go.Proofs.Ytdnnpnaaohfgaab
