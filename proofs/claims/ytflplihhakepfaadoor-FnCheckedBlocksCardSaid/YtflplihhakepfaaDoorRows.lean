/-
  NARROWER THAN 'FOR EVERY INPUT', by the rows' own cells (each row's printed sentence says how): FnEncodeNibble: laid · FnSyndromeOf: laid · FnDecodeNibble: laid · FnEncodeBlocks: laid · FnDecodeBlocks: laid · FnCheckedBlocks: laid · FnNibbleTwo: laid.
  DERIVED. THE GIVEN ROWS OF THIS SEAT. 7 by the template 'for every input the law returns true; each argument reads behind the call as it read before'; 0 by the template 'total and deterministic' (their statements: YtflplihhakepfaaDoorTotals.lean).
  GIVEN WITH THE SEED: the statements are not yours to turn. If you find one false, say at which input.
  Laid BY PROGRAM, IN A SANDBOX (cutbox-rows.mjs): the forced cells as the released guide's own fill.sh prints them over the translation 856b2adc6764bbd0… (all of the seat's roots in one cut). By AI agents, Wed Nov 11 2026. No macro, syntax, notation, axiom, sorry.
-/
import Derived.Test.YtflplihhakepfaaDoorChecked
import GoSem.Claim
import GoSem.ClaimJoined
import GoSem.ClaimMapViews
import Derived.JoinedTies
import Derived.KernelRfl
namespace Go.Proofs.YtflplihhakepfaaDoor
/- THE CELL 'sum', in the pinned program and in every row, IS THE sha256 OF THE DUMP (.gsa) THAT YtflplihhakepfaaDoorProg.lean LOADS. Nothing in Lean hashes anything: it is a label: what it is worth is what the hold of that sum in a sandbox is worth. -/
noncomputable def Tryd.pinned : Pinned := { name := "ytflplihhakepfaadoor", sum := "856b2adc6764bbd05944faa69721f111981a0508c1780fc6d0dd2dd581344eb0", checked := Tryd.checked }
namespace Rows
def none {H : Type} : Left H := { results := [], args := [] }

/- WHAT THE LISTED PACKAGE-LEVEL VARIABLES READ AS WHEN THE CALL BEGINS. Each datum BY PROGRAM (the guide's laid-datum.mjs) off the statement by which the dump's own 'gosem.cut.vars' lays the variable. In a bare row this is a premise. The card (YtflplihhakepfaaDoorCards.lean) ties it to the program's text. -/
def laid_loop_example_softwareradio_impl_syndromes {H : Type} : DataW H := .agg [.lit (.int .i64 0), .lit (.int .i64 7), .lit (.int .i64 6), .lit (.int .i64 1), .lit (.int .i64 5), .lit (.int .i64 2), .lit (.int .i64 3), .lit (.int .i64 4), .lit (.int .i64 4), .lit (.int .i64 3), .lit (.int .i64 2), .lit (.int .i64 5), .lit (.int .i64 1), .lit (.int .i64 6), .lit (.int .i64 7), .lit (.int .i64 0), .lit (.int .i64 3), .lit (.int .i64 4), .lit (.int .i64 5), .lit (.int .i64 2), .lit (.int .i64 6), .lit (.int .i64 1), .lit (.int .i64 0), .lit (.int .i64 7), .lit (.int .i64 7), .lit (.int .i64 0), .lit (.int .i64 1), .lit (.int .i64 6), .lit (.int .i64 2), .lit (.int .i64 5), .lit (.int .i64 4), .lit (.int .i64 3), .lit (.int .i64 2), .lit (.int .i64 5), .lit (.int .i64 4), .lit (.int .i64 3), .lit (.int .i64 7), .lit (.int .i64 0), .lit (.int .i64 1), .lit (.int .i64 6), .lit (.int .i64 6), .lit (.int .i64 1), .lit (.int .i64 0), .lit (.int .i64 7), .lit (.int .i64 3), .lit (.int .i64 4), .lit (.int .i64 5), .lit (.int .i64 2), .lit (.int .i64 1), .lit (.int .i64 6), .lit (.int .i64 7), .lit (.int .i64 0), .lit (.int .i64 4), .lit (.int .i64 3), .lit (.int .i64 2), .lit (.int .i64 5), .lit (.int .i64 5), .lit (.int .i64 2), .lit (.int .i64 3), .lit (.int .i64 4), .lit (.int .i64 0), .lit (.int .i64 7), .lit (.int .i64 6), .lit (.int .i64 1), .lit (.int .i64 1), .lit (.int .i64 6), .lit (.int .i64 7), .lit (.int .i64 0), .lit (.int .i64 4), .lit (.int .i64 3), .lit (.int .i64 2), .lit (.int .i64 5), .lit (.int .i64 5), .lit (.int .i64 2), .lit (.int .i64 3), .lit (.int .i64 4), .lit (.int .i64 0), .lit (.int .i64 7), .lit (.int .i64 6), .lit (.int .i64 1), .lit (.int .i64 2), .lit (.int .i64 5), .lit (.int .i64 4), .lit (.int .i64 3), .lit (.int .i64 7), .lit (.int .i64 0), .lit (.int .i64 1), .lit (.int .i64 6), .lit (.int .i64 6), .lit (.int .i64 1), .lit (.int .i64 0), .lit (.int .i64 7), .lit (.int .i64 3), .lit (.int .i64 4), .lit (.int .i64 5), .lit (.int .i64 2), .lit (.int .i64 3), .lit (.int .i64 4), .lit (.int .i64 5), .lit (.int .i64 2), .lit (.int .i64 6), .lit (.int .i64 1), .lit (.int .i64 0), .lit (.int .i64 7), .lit (.int .i64 7), .lit (.int .i64 0), .lit (.int .i64 1), .lit (.int .i64 6), .lit (.int .i64 2), .lit (.int .i64 5), .lit (.int .i64 4), .lit (.int .i64 3), .lit (.int .i64 0), .lit (.int .i64 7), .lit (.int .i64 6), .lit (.int .i64 1), .lit (.int .i64 5), .lit (.int .i64 2), .lit (.int .i64 3), .lit (.int .i64 4), .lit (.int .i64 4), .lit (.int .i64 3), .lit (.int .i64 2), .lit (.int .i64 5), .lit (.int .i64 1), .lit (.int .i64 6), .lit (.int .i64 7), .lit (.int .i64 0)]
def laid_loop_example_softwareradio_impl_corrections {H : Type} : DataW H := .agg [.lit (.int .i64 0), .lit (.int .i64 64), .lit (.int .i64 32), .lit (.int .i64 16), .lit (.int .i64 8), .lit (.int .i64 4), .lit (.int .i64 2), .lit (.int .i64 1)]

/-- 'laws.FnEncodeNibble': WHATEVER THE INPUT: true; the input reads as it did. -/
def fnEncodeNibbleSpec : ChangeSpec := { name := "fnEncodeNibble", vars := ["loop.example/softwareradio/impl.syndromes", "loop.example/softwareradio/impl.corrections"], fn := fun _ => fun
  | [d, g1, g2] => { results := [.lit (.bool true)], args := [d], vars := [g1, g2] }
  | _ => none }
def fnEncodeNibbleRow : OpenClaim := { program := "ytflplihhakepfaadoor", sum := "856b2adc6764bbd05944faa69721f111981a0508c1780fc6d0dd2dd581344eb0", func := "loop.example/softwareradio/laws.FnEncodeNibble", spec := "fnEncodeNibble", named := ["loop.example/softwareradio/impl.syndromes", "loop.example/softwareradio/impl.corrections"], apart := false, laid := [("loop.example/softwareradio/impl.syndromes", laid_loop_example_softwareradio_impl_syndromes), ("loop.example/softwareradio/impl.corrections", laid_loop_example_softwareradio_impl_corrections)] }
def FnEncodeNibbleSaid : Prop := fnEncodeNibbleRow.holds Tryd.pinned (OpenSpec.ofChange fnEncodeNibbleSpec)

/-- ITS FALSE NEIGHBOUR: 'it returns false'. Refute it at one input. -/
def fnEncodeNibbleWrong : ChangeSpec := { name := "fnEncodeNibble", vars := ["loop.example/softwareradio/impl.syndromes", "loop.example/softwareradio/impl.corrections"], fn := fun _ => fun
  | [d, g1, g2] => { results := [.lit (.bool false)], args := [d], vars := [g1, g2] }
  | _ => none }
def FnEncodeNibbleWrongFalsely : Prop := fnEncodeNibbleRow.holds Tryd.pinned (OpenSpec.ofChange fnEncodeNibbleWrong)

/-- 'laws.FnSyndromeOf': WHATEVER THE INPUT: true; the input reads as it did. -/
def fnSyndromeOfSpec : ChangeSpec := { name := "fnSyndromeOf", vars := ["loop.example/softwareradio/impl.syndromes"], fn := fun _ => fun
  | [d, g1] => { results := [.lit (.bool true)], args := [d], vars := [g1] }
  | _ => none }
def fnSyndromeOfRow : OpenClaim := { program := "ytflplihhakepfaadoor", sum := "856b2adc6764bbd05944faa69721f111981a0508c1780fc6d0dd2dd581344eb0", func := "loop.example/softwareradio/laws.FnSyndromeOf", spec := "fnSyndromeOf", named := ["loop.example/softwareradio/impl.syndromes"], apart := false, laid := [("loop.example/softwareradio/impl.syndromes", laid_loop_example_softwareradio_impl_syndromes)] }
def FnSyndromeOfSaid : Prop := fnSyndromeOfRow.holds Tryd.pinned (OpenSpec.ofChange fnSyndromeOfSpec)

/-- ITS FALSE NEIGHBOUR: 'it returns false'. Refute it at one input. -/
def fnSyndromeOfWrong : ChangeSpec := { name := "fnSyndromeOf", vars := ["loop.example/softwareradio/impl.syndromes"], fn := fun _ => fun
  | [d, g1] => { results := [.lit (.bool false)], args := [d], vars := [g1] }
  | _ => none }
def FnSyndromeOfWrongFalsely : Prop := fnSyndromeOfRow.holds Tryd.pinned (OpenSpec.ofChange fnSyndromeOfWrong)

/-- 'laws.FnDecodeNibble': WHATEVER THE INPUT: true; the input reads as it did. -/
def fnDecodeNibbleSpec : ChangeSpec := { name := "fnDecodeNibble", vars := ["loop.example/softwareradio/impl.syndromes", "loop.example/softwareradio/impl.corrections"], fn := fun _ => fun
  | [d, g1, g2] => { results := [.lit (.bool true)], args := [d], vars := [g1, g2] }
  | _ => none }
def fnDecodeNibbleRow : OpenClaim := { program := "ytflplihhakepfaadoor", sum := "856b2adc6764bbd05944faa69721f111981a0508c1780fc6d0dd2dd581344eb0", func := "loop.example/softwareradio/laws.FnDecodeNibble", spec := "fnDecodeNibble", named := ["loop.example/softwareradio/impl.syndromes", "loop.example/softwareradio/impl.corrections"], apart := false, laid := [("loop.example/softwareradio/impl.syndromes", laid_loop_example_softwareradio_impl_syndromes), ("loop.example/softwareradio/impl.corrections", laid_loop_example_softwareradio_impl_corrections)] }
def FnDecodeNibbleSaid : Prop := fnDecodeNibbleRow.holds Tryd.pinned (OpenSpec.ofChange fnDecodeNibbleSpec)

/-- ITS FALSE NEIGHBOUR: 'it returns false'. Refute it at one input. -/
def fnDecodeNibbleWrong : ChangeSpec := { name := "fnDecodeNibble", vars := ["loop.example/softwareradio/impl.syndromes", "loop.example/softwareradio/impl.corrections"], fn := fun _ => fun
  | [d, g1, g2] => { results := [.lit (.bool false)], args := [d], vars := [g1, g2] }
  | _ => none }
def FnDecodeNibbleWrongFalsely : Prop := fnDecodeNibbleRow.holds Tryd.pinned (OpenSpec.ofChange fnDecodeNibbleWrong)

/-- 'laws.FnEncodeBlocks': WHATEVER THE INPUT: true; the input reads as it did. -/
def fnEncodeBlocksSpec : ChangeSpec := { name := "fnEncodeBlocks", vars := ["loop.example/softwareradio/impl.syndromes", "loop.example/softwareradio/impl.corrections"], fn := fun _ => fun
  | [d, g1, g2] => { results := [.lit (.bool true)], args := [d], vars := [g1, g2] }
  | _ => none }
def fnEncodeBlocksRow : OpenClaim := { program := "ytflplihhakepfaadoor", sum := "856b2adc6764bbd05944faa69721f111981a0508c1780fc6d0dd2dd581344eb0", func := "loop.example/softwareradio/laws.FnEncodeBlocks", spec := "fnEncodeBlocks", named := ["loop.example/softwareradio/impl.syndromes", "loop.example/softwareradio/impl.corrections"], apart := false, laid := [("loop.example/softwareradio/impl.syndromes", laid_loop_example_softwareradio_impl_syndromes), ("loop.example/softwareradio/impl.corrections", laid_loop_example_softwareradio_impl_corrections)] }
def FnEncodeBlocksSaid : Prop := fnEncodeBlocksRow.holds Tryd.pinned (OpenSpec.ofChange fnEncodeBlocksSpec)

/-- ITS FALSE NEIGHBOUR: 'it returns false'. Refute it at one input. -/
def fnEncodeBlocksWrong : ChangeSpec := { name := "fnEncodeBlocks", vars := ["loop.example/softwareradio/impl.syndromes", "loop.example/softwareradio/impl.corrections"], fn := fun _ => fun
  | [d, g1, g2] => { results := [.lit (.bool false)], args := [d], vars := [g1, g2] }
  | _ => none }
def FnEncodeBlocksWrongFalsely : Prop := fnEncodeBlocksRow.holds Tryd.pinned (OpenSpec.ofChange fnEncodeBlocksWrong)

/-- 'laws.FnDecodeBlocks': WHATEVER THE INPUT: true; the input reads as it did. -/
def fnDecodeBlocksSpec : ChangeSpec := { name := "fnDecodeBlocks", vars := ["loop.example/softwareradio/impl.syndromes", "loop.example/softwareradio/impl.corrections"], fn := fun _ => fun
  | [d, g1, g2] => { results := [.lit (.bool true)], args := [d], vars := [g1, g2] }
  | _ => none }
def fnDecodeBlocksRow : OpenClaim := { program := "ytflplihhakepfaadoor", sum := "856b2adc6764bbd05944faa69721f111981a0508c1780fc6d0dd2dd581344eb0", func := "loop.example/softwareradio/laws.FnDecodeBlocks", spec := "fnDecodeBlocks", named := ["loop.example/softwareradio/impl.syndromes", "loop.example/softwareradio/impl.corrections"], apart := false, laid := [("loop.example/softwareradio/impl.syndromes", laid_loop_example_softwareradio_impl_syndromes), ("loop.example/softwareradio/impl.corrections", laid_loop_example_softwareradio_impl_corrections)] }
def FnDecodeBlocksSaid : Prop := fnDecodeBlocksRow.holds Tryd.pinned (OpenSpec.ofChange fnDecodeBlocksSpec)

/-- ITS FALSE NEIGHBOUR: 'it returns false'. Refute it at one input. -/
def fnDecodeBlocksWrong : ChangeSpec := { name := "fnDecodeBlocks", vars := ["loop.example/softwareradio/impl.syndromes", "loop.example/softwareradio/impl.corrections"], fn := fun _ => fun
  | [d, g1, g2] => { results := [.lit (.bool false)], args := [d], vars := [g1, g2] }
  | _ => none }
def FnDecodeBlocksWrongFalsely : Prop := fnDecodeBlocksRow.holds Tryd.pinned (OpenSpec.ofChange fnDecodeBlocksWrong)

/-- 'laws.FnCheckedBlocks': WHATEVER THE INPUT: true; the input reads as it did. -/
def fnCheckedBlocksSpec : ChangeSpec := { name := "fnCheckedBlocks", vars := ["loop.example/softwareradio/impl.syndromes", "loop.example/softwareradio/impl.corrections"], fn := fun _ => fun
  | [d1, d2, g1, g2] => { results := [.lit (.bool true)], args := [d1, d2], vars := [g1, g2] }
  | _ => none }
def fnCheckedBlocksRow : OpenClaim := { program := "ytflplihhakepfaadoor", sum := "856b2adc6764bbd05944faa69721f111981a0508c1780fc6d0dd2dd581344eb0", func := "loop.example/softwareradio/laws.FnCheckedBlocks", spec := "fnCheckedBlocks", named := ["loop.example/softwareradio/impl.syndromes", "loop.example/softwareradio/impl.corrections"], apart := false, laid := [("loop.example/softwareradio/impl.syndromes", laid_loop_example_softwareradio_impl_syndromes), ("loop.example/softwareradio/impl.corrections", laid_loop_example_softwareradio_impl_corrections)] }
def FnCheckedBlocksSaid : Prop := fnCheckedBlocksRow.holds Tryd.pinned (OpenSpec.ofChange fnCheckedBlocksSpec)

/-- ITS FALSE NEIGHBOUR: 'it returns false'. Refute it at one input. -/
def fnCheckedBlocksWrong : ChangeSpec := { name := "fnCheckedBlocks", vars := ["loop.example/softwareradio/impl.syndromes", "loop.example/softwareradio/impl.corrections"], fn := fun _ => fun
  | [d1, d2, g1, g2] => { results := [.lit (.bool false)], args := [d1, d2], vars := [g1, g2] }
  | _ => none }
def FnCheckedBlocksWrongFalsely : Prop := fnCheckedBlocksRow.holds Tryd.pinned (OpenSpec.ofChange fnCheckedBlocksWrong)

/-- 'laws.FnNibbleTwo': WHATEVER THE INPUT: true; the input reads as it did. -/
def fnNibbleTwoSpec : ChangeSpec := { name := "fnNibbleTwo", vars := ["loop.example/softwareradio/impl.syndromes", "loop.example/softwareradio/impl.corrections"], fn := fun _ => fun
  | [d1, d2, g1, g2] => { results := [.lit (.bool true)], args := [d1, d2], vars := [g1, g2] }
  | _ => none }
def fnNibbleTwoRow : OpenClaim := { program := "ytflplihhakepfaadoor", sum := "856b2adc6764bbd05944faa69721f111981a0508c1780fc6d0dd2dd581344eb0", func := "loop.example/softwareradio/laws.FnNibbleTwo", spec := "fnNibbleTwo", named := ["loop.example/softwareradio/impl.syndromes", "loop.example/softwareradio/impl.corrections"], apart := false, laid := [("loop.example/softwareradio/impl.syndromes", laid_loop_example_softwareradio_impl_syndromes), ("loop.example/softwareradio/impl.corrections", laid_loop_example_softwareradio_impl_corrections)] }
def FnNibbleTwoSaid : Prop := fnNibbleTwoRow.holds Tryd.pinned (OpenSpec.ofChange fnNibbleTwoSpec)

/-- ITS FALSE NEIGHBOUR: 'it returns false'. Refute it at one input. -/
def fnNibbleTwoWrong : ChangeSpec := { name := "fnNibbleTwo", vars := ["loop.example/softwareradio/impl.syndromes", "loop.example/softwareradio/impl.corrections"], fn := fun _ => fun
  | [d1, d2, g1, g2] => { results := [.lit (.bool false)], args := [d1, d2], vars := [g1, g2] }
  | _ => none }
def FnNibbleTwoWrongFalsely : Prop := fnNibbleTwoRow.holds Tryd.pinned (OpenSpec.ofChange fnNibbleTwoWrong)

/- THE SECOND FORM. 'bulk': how many values and letters a reading holds, each counted each time it is reached (what is shared counts as often as it is met; a slice's spare places count too). A statement '..UptoSaid' is the law's where the arguments, and the package variables that the reading takes, are together of bulk at most 1048576: NARROWER than '..Said'. Prove '..Said' where nothing that the law and all that it calls make is longer than what came in: it says more and counts as full. Else prove '..UptoSaid'. A law counts once. -/
mutual
def uptoBulk {H : Type} : DataW H → Nat
  | .lit (.string bytes) => bytes.length + 1
  | .lit _ => 1
  | .nil => 1
  | .ptr d => uptoBulk d + 1
  | .slice elems spare => uptoBulkAll elems + uptoBulkAll spare + 1
  | .agg parts => uptoBulkAll parts + 1
  | .iface _ d => uptoBulk d + 1
  | .map entries => uptoBulkEntries entries + 1
  | .held _ => 1
def uptoBulkAll {H : Type} : List (DataW H) → Nat
  | [] => 0
  | d :: r => uptoBulk d + uptoBulkAll r
def uptoBulkEntries {H : Type} : List (Lit × DataW H) → Nat
  | [] => 0
  | x :: r => uptoBulkEntry x + uptoBulkEntries r
def uptoBulkEntry {H : Type} : Lit × DataW H → Nat
  | (.string bytes, d) => bytes.length + uptoBulk d + 1
  | (_, d) => uptoBulk d + 1
 end
def uptoSmall : (H : Type) → List (DataW H) → Bool := fun _ ds => decide (uptoBulkAll ds ≤ 1048576)
def OpenSpec.upto (s : _root_.Go.ChangeSpec) : _root_.Go.OpenSpec := { _root_.Go.OpenSpec.ofChange s with cond := some uptoSmall }

/-- 'laws.FnEncodeNibble', WHERE WHAT IT READS IS OF BULK AT MOST 1048576: true; the input reads as it did. -/
def fnEncodeNibbleUptoRow : OpenClaim := { program := "ytflplihhakepfaadoor", sum := "856b2adc6764bbd05944faa69721f111981a0508c1780fc6d0dd2dd581344eb0", func := "loop.example/softwareradio/laws.FnEncodeNibble", spec := "fnEncodeNibble", named := ["loop.example/softwareradio/impl.syndromes", "loop.example/softwareradio/impl.corrections"], apart := false, laid := [("loop.example/softwareradio/impl.syndromes", laid_loop_example_softwareradio_impl_syndromes), ("loop.example/softwareradio/impl.corrections", laid_loop_example_softwareradio_impl_corrections)], narrowed := true }
def FnEncodeNibbleUptoSaid : Prop := fnEncodeNibbleUptoRow.holds Tryd.pinned (OpenSpec.upto fnEncodeNibbleSpec)

/-- 'laws.FnSyndromeOf', WHERE WHAT IT READS IS OF BULK AT MOST 1048576: true; the input reads as it did. -/
def fnSyndromeOfUptoRow : OpenClaim := { program := "ytflplihhakepfaadoor", sum := "856b2adc6764bbd05944faa69721f111981a0508c1780fc6d0dd2dd581344eb0", func := "loop.example/softwareradio/laws.FnSyndromeOf", spec := "fnSyndromeOf", named := ["loop.example/softwareradio/impl.syndromes"], apart := false, laid := [("loop.example/softwareradio/impl.syndromes", laid_loop_example_softwareradio_impl_syndromes)], narrowed := true }
def FnSyndromeOfUptoSaid : Prop := fnSyndromeOfUptoRow.holds Tryd.pinned (OpenSpec.upto fnSyndromeOfSpec)

/-- 'laws.FnDecodeNibble', WHERE WHAT IT READS IS OF BULK AT MOST 1048576: true; the input reads as it did. -/
def fnDecodeNibbleUptoRow : OpenClaim := { program := "ytflplihhakepfaadoor", sum := "856b2adc6764bbd05944faa69721f111981a0508c1780fc6d0dd2dd581344eb0", func := "loop.example/softwareradio/laws.FnDecodeNibble", spec := "fnDecodeNibble", named := ["loop.example/softwareradio/impl.syndromes", "loop.example/softwareradio/impl.corrections"], apart := false, laid := [("loop.example/softwareradio/impl.syndromes", laid_loop_example_softwareradio_impl_syndromes), ("loop.example/softwareradio/impl.corrections", laid_loop_example_softwareradio_impl_corrections)], narrowed := true }
def FnDecodeNibbleUptoSaid : Prop := fnDecodeNibbleUptoRow.holds Tryd.pinned (OpenSpec.upto fnDecodeNibbleSpec)

/-- 'laws.FnEncodeBlocks', WHERE WHAT IT READS IS OF BULK AT MOST 1048576: true; the input reads as it did. -/
def fnEncodeBlocksUptoRow : OpenClaim := { program := "ytflplihhakepfaadoor", sum := "856b2adc6764bbd05944faa69721f111981a0508c1780fc6d0dd2dd581344eb0", func := "loop.example/softwareradio/laws.FnEncodeBlocks", spec := "fnEncodeBlocks", named := ["loop.example/softwareradio/impl.syndromes", "loop.example/softwareradio/impl.corrections"], apart := false, laid := [("loop.example/softwareradio/impl.syndromes", laid_loop_example_softwareradio_impl_syndromes), ("loop.example/softwareradio/impl.corrections", laid_loop_example_softwareradio_impl_corrections)], narrowed := true }
def FnEncodeBlocksUptoSaid : Prop := fnEncodeBlocksUptoRow.holds Tryd.pinned (OpenSpec.upto fnEncodeBlocksSpec)

/-- 'laws.FnDecodeBlocks', WHERE WHAT IT READS IS OF BULK AT MOST 1048576: true; the input reads as it did. -/
def fnDecodeBlocksUptoRow : OpenClaim := { program := "ytflplihhakepfaadoor", sum := "856b2adc6764bbd05944faa69721f111981a0508c1780fc6d0dd2dd581344eb0", func := "loop.example/softwareradio/laws.FnDecodeBlocks", spec := "fnDecodeBlocks", named := ["loop.example/softwareradio/impl.syndromes", "loop.example/softwareradio/impl.corrections"], apart := false, laid := [("loop.example/softwareradio/impl.syndromes", laid_loop_example_softwareradio_impl_syndromes), ("loop.example/softwareradio/impl.corrections", laid_loop_example_softwareradio_impl_corrections)], narrowed := true }
def FnDecodeBlocksUptoSaid : Prop := fnDecodeBlocksUptoRow.holds Tryd.pinned (OpenSpec.upto fnDecodeBlocksSpec)

/-- 'laws.FnCheckedBlocks', WHERE WHAT IT READS IS OF BULK AT MOST 1048576: true; the input reads as it did. -/
def fnCheckedBlocksUptoRow : OpenClaim := { program := "ytflplihhakepfaadoor", sum := "856b2adc6764bbd05944faa69721f111981a0508c1780fc6d0dd2dd581344eb0", func := "loop.example/softwareradio/laws.FnCheckedBlocks", spec := "fnCheckedBlocks", named := ["loop.example/softwareradio/impl.syndromes", "loop.example/softwareradio/impl.corrections"], apart := false, laid := [("loop.example/softwareradio/impl.syndromes", laid_loop_example_softwareradio_impl_syndromes), ("loop.example/softwareradio/impl.corrections", laid_loop_example_softwareradio_impl_corrections)], narrowed := true }
def FnCheckedBlocksUptoSaid : Prop := fnCheckedBlocksUptoRow.holds Tryd.pinned (OpenSpec.upto fnCheckedBlocksSpec)

/-- 'laws.FnNibbleTwo', WHERE WHAT IT READS IS OF BULK AT MOST 1048576: true; the input reads as it did. -/
def fnNibbleTwoUptoRow : OpenClaim := { program := "ytflplihhakepfaadoor", sum := "856b2adc6764bbd05944faa69721f111981a0508c1780fc6d0dd2dd581344eb0", func := "loop.example/softwareradio/laws.FnNibbleTwo", spec := "fnNibbleTwo", named := ["loop.example/softwareradio/impl.syndromes", "loop.example/softwareradio/impl.corrections"], apart := false, laid := [("loop.example/softwareradio/impl.syndromes", laid_loop_example_softwareradio_impl_syndromes), ("loop.example/softwareradio/impl.corrections", laid_loop_example_softwareradio_impl_corrections)], narrowed := true }
def FnNibbleTwoUptoSaid : Prop := fnNibbleTwoUptoRow.holds Tryd.pinned (OpenSpec.upto fnNibbleTwoSpec)

end Rows
end Go.Proofs.YtflplihhakepfaaDoor
