/-
  NARROWER THAN 'FOR EVERY INPUT', by the rows' own cells (each row's printed sentence says how): FnEncodeStream: laid · FnDecodeStream: laid · FnStreamErrors: laid · FnStreamTwo: laid · FnStreamDistance: laid · FnExactEncodeStream: laid · FnExactDecodeStream: laid · FnExactStreamErrors: laid.
  DERIVED. THE GIVEN ROWS OF THIS SEAT. 8 by the template 'for every input the law returns true; each argument reads behind the call as it read before'; 0 by the template 'total and deterministic' (their statements: YtnjjblcigcblhaaDoorTotals.lean).
  GIVEN WITH THE SEED: the statements are not yours to turn. If you find one false, say at which input.
  Laid BY PROGRAM, IN A SANDBOX (cutbox-rows.mjs): the forced cells as the released guide's own fill.sh prints them over the translation 38f4a97c0d3f8735… (all of the seat's roots in one cut). By AI agents, Wed Nov 11 2026. No macro, syntax, notation, axiom, sorry.
-/
import Derived.Test.YtnjjblcigcblhaaDoorChecked
import GoSem.Claim
import GoSem.ClaimJoined
import GoSem.ClaimMapViews
import Derived.JoinedTies
import Derived.KernelRfl
namespace Go.Proofs.YtnjjblcigcblhaaDoor
/- THE CELL 'sum', in the pinned program and in every row, IS THE sha256 OF THE DUMP (.gsa) THAT YtnjjblcigcblhaaDoorProg.lean LOADS. Nothing in Lean hashes anything: it is a label: what it is worth is what the hold of that sum in a sandbox is worth. -/
noncomputable def Tryd.pinned : Pinned := { name := "ytnjjblcigcblhaadoor", sum := "38f4a97c0d3f8735d6121bf75539604d96ee531100e5ff6475f28bcd67bb970b", checked := Tryd.checked }
namespace Rows
def none {H : Type} : Left H := { results := [], args := [] }

/- WHAT THE LISTED PACKAGE-LEVEL VARIABLES READ AS WHEN THE CALL BEGINS. Each datum BY PROGRAM (the guide's laid-datum.mjs) off the statement by which the dump's own 'gosem.cut.vars' lays the variable. In a bare row this is a premise. The card (YtnjjblcigcblhaaDoorCards.lean) ties it to the program's text. -/
def laid_loop_example_softwareradio_impl_streamPairs {H : Type} : DataW H := .agg [.agg [.agg [.lit (.int .i64 0), .lit (.int .i64 0)], .agg [.lit (.int .i64 1), .lit (.int .i64 1)]], .agg [.agg [.lit (.int .i64 1), .lit (.int .i64 1)], .agg [.lit (.int .i64 0), .lit (.int .i64 0)]], .agg [.agg [.lit (.int .i64 1), .lit (.int .i64 0)], .agg [.lit (.int .i64 0), .lit (.int .i64 1)]], .agg [.agg [.lit (.int .i64 0), .lit (.int .i64 1)], .agg [.lit (.int .i64 1), .lit (.int .i64 0)]]]
def laid_loop_example_softwareradio_impl_streamNext {H : Type} : DataW H := .agg [.agg [.lit (.int .i64 0), .lit (.int .i64 2)], .agg [.lit (.int .i64 0), .lit (.int .i64 2)], .agg [.lit (.int .i64 1), .lit (.int .i64 3)], .agg [.lit (.int .i64 1), .lit (.int .i64 3)]]

/-- 'laws.FnEncodeStream': WHATEVER THE INPUT: true; the input reads as it did. -/
def fnEncodeStreamSpec : ChangeSpec := { name := "fnEncodeStream", vars := ["loop.example/softwareradio/impl.streamPairs", "loop.example/softwareradio/impl.streamNext"], fn := fun _ => fun
  | [d, g1, g2] => { results := [.lit (.bool true)], args := [d], vars := [g1, g2] }
  | _ => none }
def fnEncodeStreamRow : OpenClaim := { program := "ytnjjblcigcblhaadoor", sum := "38f4a97c0d3f8735d6121bf75539604d96ee531100e5ff6475f28bcd67bb970b", func := "loop.example/softwareradio/laws.FnEncodeStream", spec := "fnEncodeStream", named := ["loop.example/softwareradio/impl.streamPairs", "loop.example/softwareradio/impl.streamNext"], apart := false, laid := [("loop.example/softwareradio/impl.streamPairs", laid_loop_example_softwareradio_impl_streamPairs), ("loop.example/softwareradio/impl.streamNext", laid_loop_example_softwareradio_impl_streamNext)] }
def FnEncodeStreamSaid : Prop := fnEncodeStreamRow.holds Tryd.pinned (OpenSpec.ofChange fnEncodeStreamSpec)

/-- ITS FALSE NEIGHBOUR: 'it returns false'. Refute it at one input. -/
def fnEncodeStreamWrong : ChangeSpec := { name := "fnEncodeStream", vars := ["loop.example/softwareradio/impl.streamPairs", "loop.example/softwareradio/impl.streamNext"], fn := fun _ => fun
  | [d, g1, g2] => { results := [.lit (.bool false)], args := [d], vars := [g1, g2] }
  | _ => none }
def FnEncodeStreamWrongFalsely : Prop := fnEncodeStreamRow.holds Tryd.pinned (OpenSpec.ofChange fnEncodeStreamWrong)

/-- 'laws.FnDecodeStream': WHATEVER THE INPUT: true; the input reads as it did. -/
def fnDecodeStreamSpec : ChangeSpec := { name := "fnDecodeStream", vars := ["loop.example/softwareradio/impl.streamPairs", "loop.example/softwareradio/impl.streamNext"], fn := fun _ => fun
  | [d1, d2, g1, g2] => { results := [.lit (.bool true)], args := [d1, d2], vars := [g1, g2] }
  | _ => none }
def fnDecodeStreamRow : OpenClaim := { program := "ytnjjblcigcblhaadoor", sum := "38f4a97c0d3f8735d6121bf75539604d96ee531100e5ff6475f28bcd67bb970b", func := "loop.example/softwareradio/laws.FnDecodeStream", spec := "fnDecodeStream", named := ["loop.example/softwareradio/impl.streamPairs", "loop.example/softwareradio/impl.streamNext"], apart := false, laid := [("loop.example/softwareradio/impl.streamPairs", laid_loop_example_softwareradio_impl_streamPairs), ("loop.example/softwareradio/impl.streamNext", laid_loop_example_softwareradio_impl_streamNext)] }
def FnDecodeStreamSaid : Prop := fnDecodeStreamRow.holds Tryd.pinned (OpenSpec.ofChange fnDecodeStreamSpec)

/-- ITS FALSE NEIGHBOUR: 'it returns false'. Refute it at one input. -/
def fnDecodeStreamWrong : ChangeSpec := { name := "fnDecodeStream", vars := ["loop.example/softwareradio/impl.streamPairs", "loop.example/softwareradio/impl.streamNext"], fn := fun _ => fun
  | [d1, d2, g1, g2] => { results := [.lit (.bool false)], args := [d1, d2], vars := [g1, g2] }
  | _ => none }
def FnDecodeStreamWrongFalsely : Prop := fnDecodeStreamRow.holds Tryd.pinned (OpenSpec.ofChange fnDecodeStreamWrong)

/-- 'laws.FnStreamErrors': WHATEVER THE INPUT: true; the input reads as it did. -/
def fnStreamErrorsSpec : ChangeSpec := { name := "fnStreamErrors", vars := ["loop.example/softwareradio/impl.streamPairs", "loop.example/softwareradio/impl.streamNext"], fn := fun _ => fun
  | [d, g1, g2] => { results := [.lit (.bool true)], args := [d], vars := [g1, g2] }
  | _ => none }
def fnStreamErrorsRow : OpenClaim := { program := "ytnjjblcigcblhaadoor", sum := "38f4a97c0d3f8735d6121bf75539604d96ee531100e5ff6475f28bcd67bb970b", func := "loop.example/softwareradio/laws.FnStreamErrors", spec := "fnStreamErrors", named := ["loop.example/softwareradio/impl.streamPairs", "loop.example/softwareradio/impl.streamNext"], apart := false, laid := [("loop.example/softwareradio/impl.streamPairs", laid_loop_example_softwareradio_impl_streamPairs), ("loop.example/softwareradio/impl.streamNext", laid_loop_example_softwareradio_impl_streamNext)] }
def FnStreamErrorsSaid : Prop := fnStreamErrorsRow.holds Tryd.pinned (OpenSpec.ofChange fnStreamErrorsSpec)

/-- ITS FALSE NEIGHBOUR: 'it returns false'. Refute it at one input. -/
def fnStreamErrorsWrong : ChangeSpec := { name := "fnStreamErrors", vars := ["loop.example/softwareradio/impl.streamPairs", "loop.example/softwareradio/impl.streamNext"], fn := fun _ => fun
  | [d, g1, g2] => { results := [.lit (.bool false)], args := [d], vars := [g1, g2] }
  | _ => none }
def FnStreamErrorsWrongFalsely : Prop := fnStreamErrorsRow.holds Tryd.pinned (OpenSpec.ofChange fnStreamErrorsWrong)

/-- 'laws.FnStreamTwo': WHATEVER THE INPUT: true; the input reads as it did. -/
def fnStreamTwoSpec : ChangeSpec := { name := "fnStreamTwo", vars := ["loop.example/softwareradio/impl.streamPairs", "loop.example/softwareradio/impl.streamNext"], fn := fun _ => fun
  | [d1, d2, g1, g2] => { results := [.lit (.bool true)], args := [d1, d2], vars := [g1, g2] }
  | _ => none }
def fnStreamTwoRow : OpenClaim := { program := "ytnjjblcigcblhaadoor", sum := "38f4a97c0d3f8735d6121bf75539604d96ee531100e5ff6475f28bcd67bb970b", func := "loop.example/softwareradio/laws.FnStreamTwo", spec := "fnStreamTwo", named := ["loop.example/softwareradio/impl.streamPairs", "loop.example/softwareradio/impl.streamNext"], apart := false, laid := [("loop.example/softwareradio/impl.streamPairs", laid_loop_example_softwareradio_impl_streamPairs), ("loop.example/softwareradio/impl.streamNext", laid_loop_example_softwareradio_impl_streamNext)] }
def FnStreamTwoSaid : Prop := fnStreamTwoRow.holds Tryd.pinned (OpenSpec.ofChange fnStreamTwoSpec)

/-- ITS FALSE NEIGHBOUR: 'it returns false'. Refute it at one input. -/
def fnStreamTwoWrong : ChangeSpec := { name := "fnStreamTwo", vars := ["loop.example/softwareradio/impl.streamPairs", "loop.example/softwareradio/impl.streamNext"], fn := fun _ => fun
  | [d1, d2, g1, g2] => { results := [.lit (.bool false)], args := [d1, d2], vars := [g1, g2] }
  | _ => none }
def FnStreamTwoWrongFalsely : Prop := fnStreamTwoRow.holds Tryd.pinned (OpenSpec.ofChange fnStreamTwoWrong)

/-- 'laws.FnStreamDistance': WHATEVER THE INPUT: true; the input reads as it did. -/
def fnStreamDistanceSpec : ChangeSpec := { name := "fnStreamDistance", vars := ["loop.example/softwareradio/impl.streamPairs", "loop.example/softwareradio/impl.streamNext"], fn := fun _ => fun
  | [d, g1, g2] => { results := [.lit (.bool true)], args := [d], vars := [g1, g2] }
  | _ => none }
def fnStreamDistanceRow : OpenClaim := { program := "ytnjjblcigcblhaadoor", sum := "38f4a97c0d3f8735d6121bf75539604d96ee531100e5ff6475f28bcd67bb970b", func := "loop.example/softwareradio/laws.FnStreamDistance", spec := "fnStreamDistance", named := ["loop.example/softwareradio/impl.streamPairs", "loop.example/softwareradio/impl.streamNext"], apart := false, laid := [("loop.example/softwareradio/impl.streamPairs", laid_loop_example_softwareradio_impl_streamPairs), ("loop.example/softwareradio/impl.streamNext", laid_loop_example_softwareradio_impl_streamNext)] }
def FnStreamDistanceSaid : Prop := fnStreamDistanceRow.holds Tryd.pinned (OpenSpec.ofChange fnStreamDistanceSpec)

/-- ITS FALSE NEIGHBOUR: 'it returns false'. Refute it at one input. -/
def fnStreamDistanceWrong : ChangeSpec := { name := "fnStreamDistance", vars := ["loop.example/softwareradio/impl.streamPairs", "loop.example/softwareradio/impl.streamNext"], fn := fun _ => fun
  | [d, g1, g2] => { results := [.lit (.bool false)], args := [d], vars := [g1, g2] }
  | _ => none }
def FnStreamDistanceWrongFalsely : Prop := fnStreamDistanceRow.holds Tryd.pinned (OpenSpec.ofChange fnStreamDistanceWrong)

/-- 'laws.FnExactEncodeStream': WHATEVER THE INPUT: true; the input reads as it did. -/
def fnExactEncodeStreamSpec : ChangeSpec := { name := "fnExactEncodeStream", vars := ["loop.example/softwareradio/impl.streamPairs", "loop.example/softwareradio/impl.streamNext"], fn := fun _ => fun
  | [d, g1, g2] => { results := [.lit (.bool true)], args := [d], vars := [g1, g2] }
  | _ => none }
def fnExactEncodeStreamRow : OpenClaim := { program := "ytnjjblcigcblhaadoor", sum := "38f4a97c0d3f8735d6121bf75539604d96ee531100e5ff6475f28bcd67bb970b", func := "loop.example/softwareradio/laws.FnExactEncodeStream", spec := "fnExactEncodeStream", named := ["loop.example/softwareradio/impl.streamPairs", "loop.example/softwareradio/impl.streamNext"], apart := false, laid := [("loop.example/softwareradio/impl.streamPairs", laid_loop_example_softwareradio_impl_streamPairs), ("loop.example/softwareradio/impl.streamNext", laid_loop_example_softwareradio_impl_streamNext)] }
def FnExactEncodeStreamSaid : Prop := fnExactEncodeStreamRow.holds Tryd.pinned (OpenSpec.ofChange fnExactEncodeStreamSpec)

/-- ITS FALSE NEIGHBOUR: 'it returns false'. Refute it at one input. -/
def fnExactEncodeStreamWrong : ChangeSpec := { name := "fnExactEncodeStream", vars := ["loop.example/softwareradio/impl.streamPairs", "loop.example/softwareradio/impl.streamNext"], fn := fun _ => fun
  | [d, g1, g2] => { results := [.lit (.bool false)], args := [d], vars := [g1, g2] }
  | _ => none }
def FnExactEncodeStreamWrongFalsely : Prop := fnExactEncodeStreamRow.holds Tryd.pinned (OpenSpec.ofChange fnExactEncodeStreamWrong)

/-- 'laws.FnExactDecodeStream': WHATEVER THE INPUT: true; the input reads as it did. -/
def fnExactDecodeStreamSpec : ChangeSpec := { name := "fnExactDecodeStream", vars := ["loop.example/softwareradio/impl.streamPairs", "loop.example/softwareradio/impl.streamNext"], fn := fun _ => fun
  | [d, g1, g2] => { results := [.lit (.bool true)], args := [d], vars := [g1, g2] }
  | _ => none }
def fnExactDecodeStreamRow : OpenClaim := { program := "ytnjjblcigcblhaadoor", sum := "38f4a97c0d3f8735d6121bf75539604d96ee531100e5ff6475f28bcd67bb970b", func := "loop.example/softwareradio/laws.FnExactDecodeStream", spec := "fnExactDecodeStream", named := ["loop.example/softwareradio/impl.streamPairs", "loop.example/softwareradio/impl.streamNext"], apart := false, laid := [("loop.example/softwareradio/impl.streamPairs", laid_loop_example_softwareradio_impl_streamPairs), ("loop.example/softwareradio/impl.streamNext", laid_loop_example_softwareradio_impl_streamNext)] }
def FnExactDecodeStreamSaid : Prop := fnExactDecodeStreamRow.holds Tryd.pinned (OpenSpec.ofChange fnExactDecodeStreamSpec)

/-- ITS FALSE NEIGHBOUR: 'it returns false'. Refute it at one input. -/
def fnExactDecodeStreamWrong : ChangeSpec := { name := "fnExactDecodeStream", vars := ["loop.example/softwareradio/impl.streamPairs", "loop.example/softwareradio/impl.streamNext"], fn := fun _ => fun
  | [d, g1, g2] => { results := [.lit (.bool false)], args := [d], vars := [g1, g2] }
  | _ => none }
def FnExactDecodeStreamWrongFalsely : Prop := fnExactDecodeStreamRow.holds Tryd.pinned (OpenSpec.ofChange fnExactDecodeStreamWrong)

/-- 'laws.FnExactStreamErrors': WHATEVER THE INPUT: true; the input reads as it did. -/
def fnExactStreamErrorsSpec : ChangeSpec := { name := "fnExactStreamErrors", vars := ["loop.example/softwareradio/impl.streamPairs", "loop.example/softwareradio/impl.streamNext"], fn := fun _ => fun
  | [d, g1, g2] => { results := [.lit (.bool true)], args := [d], vars := [g1, g2] }
  | _ => none }
def fnExactStreamErrorsRow : OpenClaim := { program := "ytnjjblcigcblhaadoor", sum := "38f4a97c0d3f8735d6121bf75539604d96ee531100e5ff6475f28bcd67bb970b", func := "loop.example/softwareradio/laws.FnExactStreamErrors", spec := "fnExactStreamErrors", named := ["loop.example/softwareradio/impl.streamPairs", "loop.example/softwareradio/impl.streamNext"], apart := false, laid := [("loop.example/softwareradio/impl.streamPairs", laid_loop_example_softwareradio_impl_streamPairs), ("loop.example/softwareradio/impl.streamNext", laid_loop_example_softwareradio_impl_streamNext)] }
def FnExactStreamErrorsSaid : Prop := fnExactStreamErrorsRow.holds Tryd.pinned (OpenSpec.ofChange fnExactStreamErrorsSpec)

/-- ITS FALSE NEIGHBOUR: 'it returns false'. Refute it at one input. -/
def fnExactStreamErrorsWrong : ChangeSpec := { name := "fnExactStreamErrors", vars := ["loop.example/softwareradio/impl.streamPairs", "loop.example/softwareradio/impl.streamNext"], fn := fun _ => fun
  | [d, g1, g2] => { results := [.lit (.bool false)], args := [d], vars := [g1, g2] }
  | _ => none }
def FnExactStreamErrorsWrongFalsely : Prop := fnExactStreamErrorsRow.holds Tryd.pinned (OpenSpec.ofChange fnExactStreamErrorsWrong)

/- THE SECOND FORM. 'bulk': how many values and letters a reading holds, each counted each time it is reached (what is shared counts as often as it is met; a slice's spare places count too). A statement '..UptoSaid' is the law's where the arguments, and the package variables that the reading takes, are together of bulk at most 1048576: NARROWER than '..Said'. Prove '..Said' where nothing that the law and all that it calls make is longer than what came in: it says more and counts as full. Else prove '..UptoSaid'. A law counts once. -/
mutual
def uptoBulk {H : Type} : DataW H → Nat
  | .lit (.string bytes) => bytes.length + 1
  | .lit _ => 1
  | .nil => 1
  | .ptr d => uptoBulk d + 1
  | .slice elems spare => uptoBulkAll elems + uptoBulkAll spare + 1
  | .agg parts => uptoBulkAll parts + 1
  | .iface _ d => uptoBulk d + 1
  | .map entries => uptoBulkEntries entries + 1
  | .held _ => 1
def uptoBulkAll {H : Type} : List (DataW H) → Nat
  | [] => 0
  | d :: r => uptoBulk d + uptoBulkAll r
def uptoBulkEntries {H : Type} : List (Lit × DataW H) → Nat
  | [] => 0
  | x :: r => uptoBulkEntry x + uptoBulkEntries r
def uptoBulkEntry {H : Type} : Lit × DataW H → Nat
  | (.string bytes, d) => bytes.length + uptoBulk d + 1
  | (_, d) => uptoBulk d + 1
 end
def uptoSmall : (H : Type) → List (DataW H) → Bool := fun _ ds => decide (uptoBulkAll ds ≤ 1048576)
def OpenSpec.upto (s : _root_.Go.ChangeSpec) : _root_.Go.OpenSpec := { _root_.Go.OpenSpec.ofChange s with cond := some uptoSmall }

/-- 'laws.FnEncodeStream', WHERE WHAT IT READS IS OF BULK AT MOST 1048576: true; the input reads as it did. -/
def fnEncodeStreamUptoRow : OpenClaim := { program := "ytnjjblcigcblhaadoor", sum := "38f4a97c0d3f8735d6121bf75539604d96ee531100e5ff6475f28bcd67bb970b", func := "loop.example/softwareradio/laws.FnEncodeStream", spec := "fnEncodeStream", named := ["loop.example/softwareradio/impl.streamPairs", "loop.example/softwareradio/impl.streamNext"], apart := false, laid := [("loop.example/softwareradio/impl.streamPairs", laid_loop_example_softwareradio_impl_streamPairs), ("loop.example/softwareradio/impl.streamNext", laid_loop_example_softwareradio_impl_streamNext)], narrowed := true }
def FnEncodeStreamUptoSaid : Prop := fnEncodeStreamUptoRow.holds Tryd.pinned (OpenSpec.upto fnEncodeStreamSpec)

/-- 'laws.FnDecodeStream', WHERE WHAT IT READS IS OF BULK AT MOST 1048576: true; the input reads as it did. -/
def fnDecodeStreamUptoRow : OpenClaim := { program := "ytnjjblcigcblhaadoor", sum := "38f4a97c0d3f8735d6121bf75539604d96ee531100e5ff6475f28bcd67bb970b", func := "loop.example/softwareradio/laws.FnDecodeStream", spec := "fnDecodeStream", named := ["loop.example/softwareradio/impl.streamPairs", "loop.example/softwareradio/impl.streamNext"], apart := false, laid := [("loop.example/softwareradio/impl.streamPairs", laid_loop_example_softwareradio_impl_streamPairs), ("loop.example/softwareradio/impl.streamNext", laid_loop_example_softwareradio_impl_streamNext)], narrowed := true }
def FnDecodeStreamUptoSaid : Prop := fnDecodeStreamUptoRow.holds Tryd.pinned (OpenSpec.upto fnDecodeStreamSpec)

/-- 'laws.FnStreamErrors', WHERE WHAT IT READS IS OF BULK AT MOST 1048576: true; the input reads as it did. -/
def fnStreamErrorsUptoRow : OpenClaim := { program := "ytnjjblcigcblhaadoor", sum := "38f4a97c0d3f8735d6121bf75539604d96ee531100e5ff6475f28bcd67bb970b", func := "loop.example/softwareradio/laws.FnStreamErrors", spec := "fnStreamErrors", named := ["loop.example/softwareradio/impl.streamPairs", "loop.example/softwareradio/impl.streamNext"], apart := false, laid := [("loop.example/softwareradio/impl.streamPairs", laid_loop_example_softwareradio_impl_streamPairs), ("loop.example/softwareradio/impl.streamNext", laid_loop_example_softwareradio_impl_streamNext)], narrowed := true }
def FnStreamErrorsUptoSaid : Prop := fnStreamErrorsUptoRow.holds Tryd.pinned (OpenSpec.upto fnStreamErrorsSpec)

/-- 'laws.FnStreamTwo', WHERE WHAT IT READS IS OF BULK AT MOST 1048576: true; the input reads as it did. -/
def fnStreamTwoUptoRow : OpenClaim := { program := "ytnjjblcigcblhaadoor", sum := "38f4a97c0d3f8735d6121bf75539604d96ee531100e5ff6475f28bcd67bb970b", func := "loop.example/softwareradio/laws.FnStreamTwo", spec := "fnStreamTwo", named := ["loop.example/softwareradio/impl.streamPairs", "loop.example/softwareradio/impl.streamNext"], apart := false, laid := [("loop.example/softwareradio/impl.streamPairs", laid_loop_example_softwareradio_impl_streamPairs), ("loop.example/softwareradio/impl.streamNext", laid_loop_example_softwareradio_impl_streamNext)], narrowed := true }
def FnStreamTwoUptoSaid : Prop := fnStreamTwoUptoRow.holds Tryd.pinned (OpenSpec.upto fnStreamTwoSpec)

/-- 'laws.FnStreamDistance', WHERE WHAT IT READS IS OF BULK AT MOST 1048576: true; the input reads as it did. -/
def fnStreamDistanceUptoRow : OpenClaim := { program := "ytnjjblcigcblhaadoor", sum := "38f4a97c0d3f8735d6121bf75539604d96ee531100e5ff6475f28bcd67bb970b", func := "loop.example/softwareradio/laws.FnStreamDistance", spec := "fnStreamDistance", named := ["loop.example/softwareradio/impl.streamPairs", "loop.example/softwareradio/impl.streamNext"], apart := false, laid := [("loop.example/softwareradio/impl.streamPairs", laid_loop_example_softwareradio_impl_streamPairs), ("loop.example/softwareradio/impl.streamNext", laid_loop_example_softwareradio_impl_streamNext)], narrowed := true }
def FnStreamDistanceUptoSaid : Prop := fnStreamDistanceUptoRow.holds Tryd.pinned (OpenSpec.upto fnStreamDistanceSpec)

/-- 'laws.FnExactEncodeStream', WHERE WHAT IT READS IS OF BULK AT MOST 1048576: true; the input reads as it did. -/
def fnExactEncodeStreamUptoRow : OpenClaim := { program := "ytnjjblcigcblhaadoor", sum := "38f4a97c0d3f8735d6121bf75539604d96ee531100e5ff6475f28bcd67bb970b", func := "loop.example/softwareradio/laws.FnExactEncodeStream", spec := "fnExactEncodeStream", named := ["loop.example/softwareradio/impl.streamPairs", "loop.example/softwareradio/impl.streamNext"], apart := false, laid := [("loop.example/softwareradio/impl.streamPairs", laid_loop_example_softwareradio_impl_streamPairs), ("loop.example/softwareradio/impl.streamNext", laid_loop_example_softwareradio_impl_streamNext)], narrowed := true }
def FnExactEncodeStreamUptoSaid : Prop := fnExactEncodeStreamUptoRow.holds Tryd.pinned (OpenSpec.upto fnExactEncodeStreamSpec)

/-- 'laws.FnExactDecodeStream', WHERE WHAT IT READS IS OF BULK AT MOST 1048576: true; the input reads as it did. -/
def fnExactDecodeStreamUptoRow : OpenClaim := { program := "ytnjjblcigcblhaadoor", sum := "38f4a97c0d3f8735d6121bf75539604d96ee531100e5ff6475f28bcd67bb970b", func := "loop.example/softwareradio/laws.FnExactDecodeStream", spec := "fnExactDecodeStream", named := ["loop.example/softwareradio/impl.streamPairs", "loop.example/softwareradio/impl.streamNext"], apart := false, laid := [("loop.example/softwareradio/impl.streamPairs", laid_loop_example_softwareradio_impl_streamPairs), ("loop.example/softwareradio/impl.streamNext", laid_loop_example_softwareradio_impl_streamNext)], narrowed := true }
def FnExactDecodeStreamUptoSaid : Prop := fnExactDecodeStreamUptoRow.holds Tryd.pinned (OpenSpec.upto fnExactDecodeStreamSpec)

/-- 'laws.FnExactStreamErrors', WHERE WHAT IT READS IS OF BULK AT MOST 1048576: true; the input reads as it did. -/
def fnExactStreamErrorsUptoRow : OpenClaim := { program := "ytnjjblcigcblhaadoor", sum := "38f4a97c0d3f8735d6121bf75539604d96ee531100e5ff6475f28bcd67bb970b", func := "loop.example/softwareradio/laws.FnExactStreamErrors", spec := "fnExactStreamErrors", named := ["loop.example/softwareradio/impl.streamPairs", "loop.example/softwareradio/impl.streamNext"], apart := false, laid := [("loop.example/softwareradio/impl.streamPairs", laid_loop_example_softwareradio_impl_streamPairs), ("loop.example/softwareradio/impl.streamNext", laid_loop_example_softwareradio_impl_streamNext)], narrowed := true }
def FnExactStreamErrorsUptoSaid : Prop := fnExactStreamErrorsUptoRow.holds Tryd.pinned (OpenSpec.upto fnExactStreamErrorsSpec)

end Rows
end Go.Proofs.YtnjjblcigcblhaaDoor
