/-
  No cell of these rows narrows 'for every input' (looked for: loops, veiled, ifaces, maps, wideKeys, modest, calm, conditions, laid).
  DERIVED. THE GIVEN ROWS OF THIS SEAT. 9 by the template 'for every input the law returns true; each argument reads behind the call as it read before'; 0 by the template 'total and deterministic' (their statements: YtdnnpnaaohfgaaaTotals.lean).
  GIVEN WITH THE SEED: the statements are not yours to turn. If you find one false, say at which input.
  Laid BY PROGRAM, IN A SANDBOX (cutbox-rows.mjs): the forced cells as the released guide's own fill.sh prints them over the translation 3ba70a981282b460… (all of the seat's roots in one cut). By AI agents, Wed Nov 11 2026. No macro, syntax, notation, axiom, sorry.
-/
import Derived.Test.YtdnnpnaaohfgaaaChecked
import GoSem.Claim
import GoSem.ClaimJoined
import GoSem.ClaimMapViews
import Derived.JoinedTies
import Derived.KernelRfl
namespace Go.Proofs.Ytdnnpnaaohfgaaa
/- THE CELL 'sum', in the pinned program and in every row, IS THE sha256 OF THE DUMP (.gsa) THAT YtdnnpnaaohfgaaaProg.lean LOADS. Nothing in Lean hashes anything: it is a label: what it is worth is what the hold of that sum in a sandbox is worth. -/
noncomputable def Try.pinned : Pinned := { name := "ytdnnpnaaohfgaaa", sum := "3ba70a981282b460fedd24370be7506d7607a93c9849bd3c867661bac50fe9f1", checked := Try.checked }
namespace Rows
def none {H : Type} : Left H := { results := [], args := [] }

/-- 'laws.FnSequenceValid': WHATEVER THE INPUT: true; the input reads as it did. -/
def fnSequenceValidSpec : ChangeSpec := { name := "fnSequenceValid", fn := fun _ => fun
  | [d] => { results := [.lit (.bool true)], args := [d] }
  | _ => none }
def fnSequenceValidRow : OpenClaim := { program := "ytdnnpnaaohfgaaa", sum := "3ba70a981282b460fedd24370be7506d7607a93c9849bd3c867661bac50fe9f1", func := "loop.example/softwareradio/laws.FnSequenceValid", spec := "fnSequenceValid", apart := false }
def FnSequenceValidSaid : Prop := fnSequenceValidRow.holds Try.pinned (OpenSpec.ofChange fnSequenceValidSpec)

/-- ITS FALSE NEIGHBOUR: 'it returns false'. Refute it at one input. -/
def fnSequenceValidWrong : ChangeSpec := { name := "fnSequenceValid", fn := fun _ => fun
  | [d] => { results := [.lit (.bool false)], args := [d] }
  | _ => none }
def FnSequenceValidWrongFalsely : Prop := fnSequenceValidRow.holds Try.pinned (OpenSpec.ofChange fnSequenceValidWrong)

/-- 'laws.FnFilterSequence': WHATEVER THE INPUT: true; the input reads as it did. -/
def fnFilterSequenceSpec : ChangeSpec := { name := "fnFilterSequence", fn := fun _ => fun
  | [d] => { results := [.lit (.bool true)], args := [d] }
  | _ => none }
def fnFilterSequenceRow : OpenClaim := { program := "ytdnnpnaaohfgaaa", sum := "3ba70a981282b460fedd24370be7506d7607a93c9849bd3c867661bac50fe9f1", func := "loop.example/softwareradio/laws.FnFilterSequence", spec := "fnFilterSequence", apart := false }
def FnFilterSequenceSaid : Prop := fnFilterSequenceRow.holds Try.pinned (OpenSpec.ofChange fnFilterSequenceSpec)

/-- ITS FALSE NEIGHBOUR: 'it returns false'. Refute it at one input. -/
def fnFilterSequenceWrong : ChangeSpec := { name := "fnFilterSequence", fn := fun _ => fun
  | [d] => { results := [.lit (.bool false)], args := [d] }
  | _ => none }
def FnFilterSequenceWrongFalsely : Prop := fnFilterSequenceRow.holds Try.pinned (OpenSpec.ofChange fnFilterSequenceWrong)

/-- 'laws.FnCorrelateAt': WHATEVER THE INPUT: true; the input reads as it did. -/
def fnCorrelateAtSpec : ChangeSpec := { name := "fnCorrelateAt", fn := fun _ => fun
  | [d] => { results := [.lit (.bool true)], args := [d] }
  | _ => none }
def fnCorrelateAtRow : OpenClaim := { program := "ytdnnpnaaohfgaaa", sum := "3ba70a981282b460fedd24370be7506d7607a93c9849bd3c867661bac50fe9f1", func := "loop.example/softwareradio/laws.FnCorrelateAt", spec := "fnCorrelateAt", apart := false }
def FnCorrelateAtSaid : Prop := fnCorrelateAtRow.holds Try.pinned (OpenSpec.ofChange fnCorrelateAtSpec)

/-- ITS FALSE NEIGHBOUR: 'it returns false'. Refute it at one input. -/
def fnCorrelateAtWrong : ChangeSpec := { name := "fnCorrelateAt", fn := fun _ => fun
  | [d] => { results := [.lit (.bool false)], args := [d] }
  | _ => none }
def FnCorrelateAtWrongFalsely : Prop := fnCorrelateAtRow.holds Try.pinned (OpenSpec.ofChange fnCorrelateAtWrong)

/-- 'laws.FnFindPattern': WHATEVER THE INPUT: true; the input reads as it did. -/
def fnFindPatternSpec : ChangeSpec := { name := "fnFindPattern", fn := fun _ => fun
  | [d] => { results := [.lit (.bool true)], args := [d] }
  | _ => none }
def fnFindPatternRow : OpenClaim := { program := "ytdnnpnaaohfgaaa", sum := "3ba70a981282b460fedd24370be7506d7607a93c9849bd3c867661bac50fe9f1", func := "loop.example/softwareradio/laws.FnFindPattern", spec := "fnFindPattern", apart := false }
def FnFindPatternSaid : Prop := fnFindPatternRow.holds Try.pinned (OpenSpec.ofChange fnFindPatternSpec)

/-- ITS FALSE NEIGHBOUR: 'it returns false'. Refute it at one input. -/
def fnFindPatternWrong : ChangeSpec := { name := "fnFindPattern", fn := fun _ => fun
  | [d] => { results := [.lit (.bool false)], args := [d] }
  | _ => none }
def FnFindPatternWrongFalsely : Prop := fnFindPatternRow.holds Try.pinned (OpenSpec.ofChange fnFindPatternWrong)

/-- 'laws.FnRaiseRate': WHATEVER THE INPUT: true; the input reads as it did. -/
def fnRaiseRateSpec : ChangeSpec := { name := "fnRaiseRate", fn := fun _ => fun
  | [d] => { results := [.lit (.bool true)], args := [d] }
  | _ => none }
def fnRaiseRateRow : OpenClaim := { program := "ytdnnpnaaohfgaaa", sum := "3ba70a981282b460fedd24370be7506d7607a93c9849bd3c867661bac50fe9f1", func := "loop.example/softwareradio/laws.FnRaiseRate", spec := "fnRaiseRate", apart := false }
def FnRaiseRateSaid : Prop := fnRaiseRateRow.holds Try.pinned (OpenSpec.ofChange fnRaiseRateSpec)

/-- ITS FALSE NEIGHBOUR: 'it returns false'. Refute it at one input. -/
def fnRaiseRateWrong : ChangeSpec := { name := "fnRaiseRate", fn := fun _ => fun
  | [d] => { results := [.lit (.bool false)], args := [d] }
  | _ => none }
def FnRaiseRateWrongFalsely : Prop := fnRaiseRateRow.holds Try.pinned (OpenSpec.ofChange fnRaiseRateWrong)

/-- 'laws.FnLowerRate': WHATEVER THE INPUT: true; the input reads as it did. -/
def fnLowerRateSpec : ChangeSpec := { name := "fnLowerRate", fn := fun _ => fun
  | [d] => { results := [.lit (.bool true)], args := [d] }
  | _ => none }
def fnLowerRateRow : OpenClaim := { program := "ytdnnpnaaohfgaaa", sum := "3ba70a981282b460fedd24370be7506d7607a93c9849bd3c867661bac50fe9f1", func := "loop.example/softwareradio/laws.FnLowerRate", spec := "fnLowerRate", apart := false }
def FnLowerRateSaid : Prop := fnLowerRateRow.holds Try.pinned (OpenSpec.ofChange fnLowerRateSpec)

/-- ITS FALSE NEIGHBOUR: 'it returns false'. Refute it at one input. -/
def fnLowerRateWrong : ChangeSpec := { name := "fnLowerRate", fn := fun _ => fun
  | [d] => { results := [.lit (.bool false)], args := [d] }
  | _ => none }
def FnLowerRateWrongFalsely : Prop := fnLowerRateRow.holds Try.pinned (OpenSpec.ofChange fnLowerRateWrong)

/-- 'laws.FnUndoFilter': WHATEVER THE INPUT: true; the input reads as it did. -/
def fnUndoFilterSpec : ChangeSpec := { name := "fnUndoFilter", fn := fun _ => fun
  | [d] => { results := [.lit (.bool true)], args := [d] }
  | _ => none }
def fnUndoFilterRow : OpenClaim := { program := "ytdnnpnaaohfgaaa", sum := "3ba70a981282b460fedd24370be7506d7607a93c9849bd3c867661bac50fe9f1", func := "loop.example/softwareradio/laws.FnUndoFilter", spec := "fnUndoFilter", apart := false }
def FnUndoFilterSaid : Prop := fnUndoFilterRow.holds Try.pinned (OpenSpec.ofChange fnUndoFilterSpec)

/-- ITS FALSE NEIGHBOUR: 'it returns false'. Refute it at one input. -/
def fnUndoFilterWrong : ChangeSpec := { name := "fnUndoFilter", fn := fun _ => fun
  | [d] => { results := [.lit (.bool false)], args := [d] }
  | _ => none }
def FnUndoFilterWrongFalsely : Prop := fnUndoFilterRow.holds Try.pinned (OpenSpec.ofChange fnUndoFilterWrong)

/-- 'laws.FnUndoExact': WHATEVER THE INPUT: true; the input reads as it did. -/
def fnUndoExactSpec : ChangeSpec := { name := "fnUndoExact", fn := fun _ => fun
  | [d] => { results := [.lit (.bool true)], args := [d] }
  | _ => none }
def fnUndoExactRow : OpenClaim := { program := "ytdnnpnaaohfgaaa", sum := "3ba70a981282b460fedd24370be7506d7607a93c9849bd3c867661bac50fe9f1", func := "loop.example/softwareradio/laws.FnUndoExact", spec := "fnUndoExact", apart := false }
def FnUndoExactSaid : Prop := fnUndoExactRow.holds Try.pinned (OpenSpec.ofChange fnUndoExactSpec)

/-- ITS FALSE NEIGHBOUR: 'it returns false'. Refute it at one input. -/
def fnUndoExactWrong : ChangeSpec := { name := "fnUndoExact", fn := fun _ => fun
  | [d] => { results := [.lit (.bool false)], args := [d] }
  | _ => none }
def FnUndoExactWrongFalsely : Prop := fnUndoExactRow.holds Try.pinned (OpenSpec.ofChange fnUndoExactWrong)

/-- 'laws.FnFilterGroups': WHATEVER THE INPUT: true; the input reads as it did. -/
def fnFilterGroupsSpec : ChangeSpec := { name := "fnFilterGroups", fn := fun _ => fun
  | [d] => { results := [.lit (.bool true)], args := [d] }
  | _ => none }
def fnFilterGroupsRow : OpenClaim := { program := "ytdnnpnaaohfgaaa", sum := "3ba70a981282b460fedd24370be7506d7607a93c9849bd3c867661bac50fe9f1", func := "loop.example/softwareradio/laws.FnFilterGroups", spec := "fnFilterGroups", apart := false }
def FnFilterGroupsSaid : Prop := fnFilterGroupsRow.holds Try.pinned (OpenSpec.ofChange fnFilterGroupsSpec)

/-- ITS FALSE NEIGHBOUR: 'it returns false'. Refute it at one input. -/
def fnFilterGroupsWrong : ChangeSpec := { name := "fnFilterGroups", fn := fun _ => fun
  | [d] => { results := [.lit (.bool false)], args := [d] }
  | _ => none }
def FnFilterGroupsWrongFalsely : Prop := fnFilterGroupsRow.holds Try.pinned (OpenSpec.ofChange fnFilterGroupsWrong)

/- THE SECOND FORM. 'bulk': how many values and letters a reading holds, each counted each time it is reached (what is shared counts as often as it is met; a slice's spare places count too). A statement '..UptoSaid' is the law's where the arguments, and the package variables that the reading takes, are together of bulk at most 1048576: NARROWER than '..Said'. Prove '..Said' where nothing that the law and all that it calls make is longer than what came in: it says more and counts as full. Else prove '..UptoSaid'. A law counts once. -/
mutual
def uptoBulk {H : Type} : DataW H → Nat
  | .lit (.string bytes) => bytes.length + 1
  | .lit _ => 1
  | .nil => 1
  | .ptr d => uptoBulk d + 1
  | .slice elems spare => uptoBulkAll elems + uptoBulkAll spare + 1
  | .agg parts => uptoBulkAll parts + 1
  | .iface _ d => uptoBulk d + 1
  | .map entries => uptoBulkEntries entries + 1
  | .held _ => 1
def uptoBulkAll {H : Type} : List (DataW H) → Nat
  | [] => 0
  | d :: r => uptoBulk d + uptoBulkAll r
def uptoBulkEntries {H : Type} : List (Lit × DataW H) → Nat
  | [] => 0
  | x :: r => uptoBulkEntry x + uptoBulkEntries r
def uptoBulkEntry {H : Type} : Lit × DataW H → Nat
  | (.string bytes, d) => bytes.length + uptoBulk d + 1
  | (_, d) => uptoBulk d + 1
 end
def uptoSmall : (H : Type) → List (DataW H) → Bool := fun _ ds => decide (uptoBulkAll ds ≤ 1048576)
def OpenSpec.upto (s : _root_.Go.ChangeSpec) : _root_.Go.OpenSpec := { _root_.Go.OpenSpec.ofChange s with cond := some uptoSmall }

/-- 'laws.FnSequenceValid', WHERE WHAT IT READS IS OF BULK AT MOST 1048576: true; the input reads as it did. -/
def fnSequenceValidUptoRow : OpenClaim := { program := "ytdnnpnaaohfgaaa", sum := "3ba70a981282b460fedd24370be7506d7607a93c9849bd3c867661bac50fe9f1", func := "loop.example/softwareradio/laws.FnSequenceValid", spec := "fnSequenceValid", apart := false, narrowed := true }
def FnSequenceValidUptoSaid : Prop := fnSequenceValidUptoRow.holds Try.pinned (OpenSpec.upto fnSequenceValidSpec)

/-- 'laws.FnFilterSequence', WHERE WHAT IT READS IS OF BULK AT MOST 1048576: true; the input reads as it did. -/
def fnFilterSequenceUptoRow : OpenClaim := { program := "ytdnnpnaaohfgaaa", sum := "3ba70a981282b460fedd24370be7506d7607a93c9849bd3c867661bac50fe9f1", func := "loop.example/softwareradio/laws.FnFilterSequence", spec := "fnFilterSequence", apart := false, narrowed := true }
def FnFilterSequenceUptoSaid : Prop := fnFilterSequenceUptoRow.holds Try.pinned (OpenSpec.upto fnFilterSequenceSpec)

/-- 'laws.FnCorrelateAt', WHERE WHAT IT READS IS OF BULK AT MOST 1048576: true; the input reads as it did. -/
def fnCorrelateAtUptoRow : OpenClaim := { program := "ytdnnpnaaohfgaaa", sum := "3ba70a981282b460fedd24370be7506d7607a93c9849bd3c867661bac50fe9f1", func := "loop.example/softwareradio/laws.FnCorrelateAt", spec := "fnCorrelateAt", apart := false, narrowed := true }
def FnCorrelateAtUptoSaid : Prop := fnCorrelateAtUptoRow.holds Try.pinned (OpenSpec.upto fnCorrelateAtSpec)

/-- 'laws.FnFindPattern', WHERE WHAT IT READS IS OF BULK AT MOST 1048576: true; the input reads as it did. -/
def fnFindPatternUptoRow : OpenClaim := { program := "ytdnnpnaaohfgaaa", sum := "3ba70a981282b460fedd24370be7506d7607a93c9849bd3c867661bac50fe9f1", func := "loop.example/softwareradio/laws.FnFindPattern", spec := "fnFindPattern", apart := false, narrowed := true }
def FnFindPatternUptoSaid : Prop := fnFindPatternUptoRow.holds Try.pinned (OpenSpec.upto fnFindPatternSpec)

/-- 'laws.FnRaiseRate', WHERE WHAT IT READS IS OF BULK AT MOST 1048576: true; the input reads as it did. -/
def fnRaiseRateUptoRow : OpenClaim := { program := "ytdnnpnaaohfgaaa", sum := "3ba70a981282b460fedd24370be7506d7607a93c9849bd3c867661bac50fe9f1", func := "loop.example/softwareradio/laws.FnRaiseRate", spec := "fnRaiseRate", apart := false, narrowed := true }
def FnRaiseRateUptoSaid : Prop := fnRaiseRateUptoRow.holds Try.pinned (OpenSpec.upto fnRaiseRateSpec)

/-- 'laws.FnLowerRate', WHERE WHAT IT READS IS OF BULK AT MOST 1048576: true; the input reads as it did. -/
def fnLowerRateUptoRow : OpenClaim := { program := "ytdnnpnaaohfgaaa", sum := "3ba70a981282b460fedd24370be7506d7607a93c9849bd3c867661bac50fe9f1", func := "loop.example/softwareradio/laws.FnLowerRate", spec := "fnLowerRate", apart := false, narrowed := true }
def FnLowerRateUptoSaid : Prop := fnLowerRateUptoRow.holds Try.pinned (OpenSpec.upto fnLowerRateSpec)

/-- 'laws.FnUndoFilter', WHERE WHAT IT READS IS OF BULK AT MOST 1048576: true; the input reads as it did. -/
def fnUndoFilterUptoRow : OpenClaim := { program := "ytdnnpnaaohfgaaa", sum := "3ba70a981282b460fedd24370be7506d7607a93c9849bd3c867661bac50fe9f1", func := "loop.example/softwareradio/laws.FnUndoFilter", spec := "fnUndoFilter", apart := false, narrowed := true }
def FnUndoFilterUptoSaid : Prop := fnUndoFilterUptoRow.holds Try.pinned (OpenSpec.upto fnUndoFilterSpec)

/-- 'laws.FnUndoExact', WHERE WHAT IT READS IS OF BULK AT MOST 1048576: true; the input reads as it did. -/
def fnUndoExactUptoRow : OpenClaim := { program := "ytdnnpnaaohfgaaa", sum := "3ba70a981282b460fedd24370be7506d7607a93c9849bd3c867661bac50fe9f1", func := "loop.example/softwareradio/laws.FnUndoExact", spec := "fnUndoExact", apart := false, narrowed := true }
def FnUndoExactUptoSaid : Prop := fnUndoExactUptoRow.holds Try.pinned (OpenSpec.upto fnUndoExactSpec)

/-- 'laws.FnFilterGroups', WHERE WHAT IT READS IS OF BULK AT MOST 1048576: true; the input reads as it did. -/
def fnFilterGroupsUptoRow : OpenClaim := { program := "ytdnnpnaaohfgaaa", sum := "3ba70a981282b460fedd24370be7506d7607a93c9849bd3c867661bac50fe9f1", func := "loop.example/softwareradio/laws.FnFilterGroups", spec := "fnFilterGroups", apart := false, narrowed := true }
def FnFilterGroupsUptoSaid : Prop := fnFilterGroupsUptoRow.holds Try.pinned (OpenSpec.upto fnFilterGroupsSpec)

end Rows
end Go.Proofs.Ytdnnpnaaohfgaaa
