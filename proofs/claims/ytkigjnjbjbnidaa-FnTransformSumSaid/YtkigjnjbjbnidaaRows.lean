/-
  No cell of these rows narrows 'for every input' (looked for: loops, veiled, ifaces, maps, wideKeys, modest, calm, conditions, laid).
  DERIVED. THE GIVEN ROWS OF THIS SEAT. 8 by the template 'for every input the law returns true; each argument reads behind the call as it read before'; 0 by the template 'total and deterministic' (their statements: YtkigjnjbjbnidaaTotals.lean).
  GIVEN WITH THE SEED: the statements are not yours to turn. If you find one false, say at which input.
  Laid BY PROGRAM, IN A SANDBOX (cutbox-rows.mjs): the forced cells as the released guide's own fill.sh prints them over the translation 6ce120ed22ada5a6… (all of the seat's roots in one cut). By AI agents, Wed Nov 11 2026. No macro, syntax, notation, axiom, sorry.
-/
import Derived.Test.YtkigjnjbjbnidaaChecked
import GoSem.Claim
import GoSem.ClaimJoined
import GoSem.ClaimMapViews
import Derived.JoinedTies
import Derived.KernelRfl
namespace Go.Proofs.Ytkigjnjbjbnidaa
/- THE CELL 'sum', in the pinned program and in every row, IS THE sha256 OF THE DUMP (.gsa) THAT YtkigjnjbjbnidaaProg.lean LOADS. Nothing in Lean hashes anything: it is a label: what it is worth is what the hold of that sum in a sandbox is worth. -/
noncomputable def Try.pinned : Pinned := { name := "ytkigjnjbjbnidaa", sum := "6ce120ed22ada5a631a0b1c5518394e209bc83520232ae7709a1d0924da7fde5", checked := Try.checked }
namespace Rows
def none {H : Type} : Left H := { results := [], args := [] }

/-- 'laws.FnTransformRoot': WHATEVER THE INPUT: true; the input reads as it did. -/
def fnTransformRootSpec : ChangeSpec := { name := "fnTransformRoot", fn := fun _ => fun
  | [d] => { results := [.lit (.bool true)], args := [d] }
  | _ => none }
def fnTransformRootRow : OpenClaim := { program := "ytkigjnjbjbnidaa", sum := "6ce120ed22ada5a631a0b1c5518394e209bc83520232ae7709a1d0924da7fde5", func := "loop.example/softwareradio/laws.FnTransformRoot", spec := "fnTransformRoot", apart := false }
def FnTransformRootSaid : Prop := fnTransformRootRow.holds Try.pinned (OpenSpec.ofChange fnTransformRootSpec)

/-- ITS FALSE NEIGHBOUR: 'it returns false'. Refute it at one input. -/
def fnTransformRootWrong : ChangeSpec := { name := "fnTransformRoot", fn := fun _ => fun
  | [d] => { results := [.lit (.bool false)], args := [d] }
  | _ => none }
def FnTransformRootWrongFalsely : Prop := fnTransformRootRow.holds Try.pinned (OpenSpec.ofChange fnTransformRootWrong)

/-- 'laws.FnForwardTransform': WHATEVER THE INPUT: true; the input reads as it did. -/
def fnForwardTransformSpec : ChangeSpec := { name := "fnForwardTransform", fn := fun _ => fun
  | [d] => { results := [.lit (.bool true)], args := [d] }
  | _ => none }
def fnForwardTransformRow : OpenClaim := { program := "ytkigjnjbjbnidaa", sum := "6ce120ed22ada5a631a0b1c5518394e209bc83520232ae7709a1d0924da7fde5", func := "loop.example/softwareradio/laws.FnForwardTransform", spec := "fnForwardTransform", apart := false }
def FnForwardTransformSaid : Prop := fnForwardTransformRow.holds Try.pinned (OpenSpec.ofChange fnForwardTransformSpec)

/-- ITS FALSE NEIGHBOUR: 'it returns false'. Refute it at one input. -/
def fnForwardTransformWrong : ChangeSpec := { name := "fnForwardTransform", fn := fun _ => fun
  | [d] => { results := [.lit (.bool false)], args := [d] }
  | _ => none }
def FnForwardTransformWrongFalsely : Prop := fnForwardTransformRow.holds Try.pinned (OpenSpec.ofChange fnForwardTransformWrong)

/-- 'laws.FnBackwardTransform': WHATEVER THE INPUT: true; the input reads as it did. -/
def fnBackwardTransformSpec : ChangeSpec := { name := "fnBackwardTransform", fn := fun _ => fun
  | [d] => { results := [.lit (.bool true)], args := [d] }
  | _ => none }
def fnBackwardTransformRow : OpenClaim := { program := "ytkigjnjbjbnidaa", sum := "6ce120ed22ada5a631a0b1c5518394e209bc83520232ae7709a1d0924da7fde5", func := "loop.example/softwareradio/laws.FnBackwardTransform", spec := "fnBackwardTransform", apart := false }
def FnBackwardTransformSaid : Prop := fnBackwardTransformRow.holds Try.pinned (OpenSpec.ofChange fnBackwardTransformSpec)

/-- ITS FALSE NEIGHBOUR: 'it returns false'. Refute it at one input. -/
def fnBackwardTransformWrong : ChangeSpec := { name := "fnBackwardTransform", fn := fun _ => fun
  | [d] => { results := [.lit (.bool false)], args := [d] }
  | _ => none }
def FnBackwardTransformWrongFalsely : Prop := fnBackwardTransformRow.holds Try.pinned (OpenSpec.ofChange fnBackwardTransformWrong)

/-- 'laws.FnCyclicProduct': WHATEVER THE INPUT: true; the input reads as it did. -/
def fnCyclicProductSpec : ChangeSpec := { name := "fnCyclicProduct", fn := fun _ => fun
  | [d] => { results := [.lit (.bool true)], args := [d] }
  | _ => none }
def fnCyclicProductRow : OpenClaim := { program := "ytkigjnjbjbnidaa", sum := "6ce120ed22ada5a631a0b1c5518394e209bc83520232ae7709a1d0924da7fde5", func := "loop.example/softwareradio/laws.FnCyclicProduct", spec := "fnCyclicProduct", apart := false }
def FnCyclicProductSaid : Prop := fnCyclicProductRow.holds Try.pinned (OpenSpec.ofChange fnCyclicProductSpec)

/-- ITS FALSE NEIGHBOUR: 'it returns false'. Refute it at one input. -/
def fnCyclicProductWrong : ChangeSpec := { name := "fnCyclicProduct", fn := fun _ => fun
  | [d] => { results := [.lit (.bool false)], args := [d] }
  | _ => none }
def FnCyclicProductWrongFalsely : Prop := fnCyclicProductRow.holds Try.pinned (OpenSpec.ofChange fnCyclicProductWrong)

/-- 'laws.FnPrefixProduct': WHATEVER THE INPUT: true; the input reads as it did. -/
def fnPrefixProductSpec : ChangeSpec := { name := "fnPrefixProduct", fn := fun _ => fun
  | [d] => { results := [.lit (.bool true)], args := [d] }
  | _ => none }
def fnPrefixProductRow : OpenClaim := { program := "ytkigjnjbjbnidaa", sum := "6ce120ed22ada5a631a0b1c5518394e209bc83520232ae7709a1d0924da7fde5", func := "loop.example/softwareradio/laws.FnPrefixProduct", spec := "fnPrefixProduct", apart := false }
def FnPrefixProductSaid : Prop := fnPrefixProductRow.holds Try.pinned (OpenSpec.ofChange fnPrefixProductSpec)

/-- ITS FALSE NEIGHBOUR: 'it returns false'. Refute it at one input. -/
def fnPrefixProductWrong : ChangeSpec := { name := "fnPrefixProduct", fn := fun _ => fun
  | [d] => { results := [.lit (.bool false)], args := [d] }
  | _ => none }
def FnPrefixProductWrongFalsely : Prop := fnPrefixProductRow.holds Try.pinned (OpenSpec.ofChange fnPrefixProductWrong)

/-- 'laws.FnTransformShift': WHATEVER THE INPUT: true; the input reads as it did. -/
def fnTransformShiftSpec : ChangeSpec := { name := "fnTransformShift", fn := fun _ => fun
  | [d] => { results := [.lit (.bool true)], args := [d] }
  | _ => none }
def fnTransformShiftRow : OpenClaim := { program := "ytkigjnjbjbnidaa", sum := "6ce120ed22ada5a631a0b1c5518394e209bc83520232ae7709a1d0924da7fde5", func := "loop.example/softwareradio/laws.FnTransformShift", spec := "fnTransformShift", apart := false }
def FnTransformShiftSaid : Prop := fnTransformShiftRow.holds Try.pinned (OpenSpec.ofChange fnTransformShiftSpec)

/-- ITS FALSE NEIGHBOUR: 'it returns false'. Refute it at one input. -/
def fnTransformShiftWrong : ChangeSpec := { name := "fnTransformShift", fn := fun _ => fun
  | [d] => { results := [.lit (.bool false)], args := [d] }
  | _ => none }
def FnTransformShiftWrongFalsely : Prop := fnTransformShiftRow.holds Try.pinned (OpenSpec.ofChange fnTransformShiftWrong)

/-- 'laws.FnTransformSum': WHATEVER THE INPUT: true; the input reads as it did. -/
def fnTransformSumSpec : ChangeSpec := { name := "fnTransformSum", fn := fun _ => fun
  | [d] => { results := [.lit (.bool true)], args := [d] }
  | _ => none }
def fnTransformSumRow : OpenClaim := { program := "ytkigjnjbjbnidaa", sum := "6ce120ed22ada5a631a0b1c5518394e209bc83520232ae7709a1d0924da7fde5", func := "loop.example/softwareradio/laws.FnTransformSum", spec := "fnTransformSum", apart := false }
def FnTransformSumSaid : Prop := fnTransformSumRow.holds Try.pinned (OpenSpec.ofChange fnTransformSumSpec)

/-- ITS FALSE NEIGHBOUR: 'it returns false'. Refute it at one input. -/
def fnTransformSumWrong : ChangeSpec := { name := "fnTransformSum", fn := fun _ => fun
  | [d] => { results := [.lit (.bool false)], args := [d] }
  | _ => none }
def FnTransformSumWrongFalsely : Prop := fnTransformSumRow.holds Try.pinned (OpenSpec.ofChange fnTransformSumWrong)

/-- 'laws.FnTransformTwice': WHATEVER THE INPUT: true; the input reads as it did. -/
def fnTransformTwiceSpec : ChangeSpec := { name := "fnTransformTwice", fn := fun _ => fun
  | [d] => { results := [.lit (.bool true)], args := [d] }
  | _ => none }
def fnTransformTwiceRow : OpenClaim := { program := "ytkigjnjbjbnidaa", sum := "6ce120ed22ada5a631a0b1c5518394e209bc83520232ae7709a1d0924da7fde5", func := "loop.example/softwareradio/laws.FnTransformTwice", spec := "fnTransformTwice", apart := false }
def FnTransformTwiceSaid : Prop := fnTransformTwiceRow.holds Try.pinned (OpenSpec.ofChange fnTransformTwiceSpec)

/-- ITS FALSE NEIGHBOUR: 'it returns false'. Refute it at one input. -/
def fnTransformTwiceWrong : ChangeSpec := { name := "fnTransformTwice", fn := fun _ => fun
  | [d] => { results := [.lit (.bool false)], args := [d] }
  | _ => none }
def FnTransformTwiceWrongFalsely : Prop := fnTransformTwiceRow.holds Try.pinned (OpenSpec.ofChange fnTransformTwiceWrong)

/- THE SECOND FORM. 'bulk': how many values and letters a reading holds, each counted each time it is reached (what is shared counts as often as it is met; a slice's spare places count too). A statement '..UptoSaid' is the law's where the arguments, and the package variables that the reading takes, are together of bulk at most 1048576: NARROWER than '..Said'. Prove '..Said' where nothing that the law and all that it calls make is longer than what came in: it says more and counts as full. Else prove '..UptoSaid'. A law counts once. -/
mutual
def uptoBulk {H : Type} : DataW H → Nat
  | .lit (.string bytes) => bytes.length + 1
  | .lit _ => 1
  | .nil => 1
  | .ptr d => uptoBulk d + 1
  | .slice elems spare => uptoBulkAll elems + uptoBulkAll spare + 1
  | .agg parts => uptoBulkAll parts + 1
  | .iface _ d => uptoBulk d + 1
  | .map entries => uptoBulkEntries entries + 1
  | .held _ => 1
def uptoBulkAll {H : Type} : List (DataW H) → Nat
  | [] => 0
  | d :: r => uptoBulk d + uptoBulkAll r
def uptoBulkEntries {H : Type} : List (Lit × DataW H) → Nat
  | [] => 0
  | x :: r => uptoBulkEntry x + uptoBulkEntries r
def uptoBulkEntry {H : Type} : Lit × DataW H → Nat
  | (.string bytes, d) => bytes.length + uptoBulk d + 1
  | (_, d) => uptoBulk d + 1
 end
def uptoSmall : (H : Type) → List (DataW H) → Bool := fun _ ds => decide (uptoBulkAll ds ≤ 1048576)
def OpenSpec.upto (s : _root_.Go.ChangeSpec) : _root_.Go.OpenSpec := { _root_.Go.OpenSpec.ofChange s with cond := some uptoSmall }

/-- 'laws.FnTransformRoot', WHERE WHAT IT READS IS OF BULK AT MOST 1048576: true; the input reads as it did. -/
def fnTransformRootUptoRow : OpenClaim := { program := "ytkigjnjbjbnidaa", sum := "6ce120ed22ada5a631a0b1c5518394e209bc83520232ae7709a1d0924da7fde5", func := "loop.example/softwareradio/laws.FnTransformRoot", spec := "fnTransformRoot", apart := false, narrowed := true }
def FnTransformRootUptoSaid : Prop := fnTransformRootUptoRow.holds Try.pinned (OpenSpec.upto fnTransformRootSpec)

/-- 'laws.FnForwardTransform', WHERE WHAT IT READS IS OF BULK AT MOST 1048576: true; the input reads as it did. -/
def fnForwardTransformUptoRow : OpenClaim := { program := "ytkigjnjbjbnidaa", sum := "6ce120ed22ada5a631a0b1c5518394e209bc83520232ae7709a1d0924da7fde5", func := "loop.example/softwareradio/laws.FnForwardTransform", spec := "fnForwardTransform", apart := false, narrowed := true }
def FnForwardTransformUptoSaid : Prop := fnForwardTransformUptoRow.holds Try.pinned (OpenSpec.upto fnForwardTransformSpec)

/-- 'laws.FnBackwardTransform', WHERE WHAT IT READS IS OF BULK AT MOST 1048576: true; the input reads as it did. -/
def fnBackwardTransformUptoRow : OpenClaim := { program := "ytkigjnjbjbnidaa", sum := "6ce120ed22ada5a631a0b1c5518394e209bc83520232ae7709a1d0924da7fde5", func := "loop.example/softwareradio/laws.FnBackwardTransform", spec := "fnBackwardTransform", apart := false, narrowed := true }
def FnBackwardTransformUptoSaid : Prop := fnBackwardTransformUptoRow.holds Try.pinned (OpenSpec.upto fnBackwardTransformSpec)

/-- 'laws.FnCyclicProduct', WHERE WHAT IT READS IS OF BULK AT MOST 1048576: true; the input reads as it did. -/
def fnCyclicProductUptoRow : OpenClaim := { program := "ytkigjnjbjbnidaa", sum := "6ce120ed22ada5a631a0b1c5518394e209bc83520232ae7709a1d0924da7fde5", func := "loop.example/softwareradio/laws.FnCyclicProduct", spec := "fnCyclicProduct", apart := false, narrowed := true }
def FnCyclicProductUptoSaid : Prop := fnCyclicProductUptoRow.holds Try.pinned (OpenSpec.upto fnCyclicProductSpec)

/-- 'laws.FnPrefixProduct', WHERE WHAT IT READS IS OF BULK AT MOST 1048576: true; the input reads as it did. -/
def fnPrefixProductUptoRow : OpenClaim := { program := "ytkigjnjbjbnidaa", sum := "6ce120ed22ada5a631a0b1c5518394e209bc83520232ae7709a1d0924da7fde5", func := "loop.example/softwareradio/laws.FnPrefixProduct", spec := "fnPrefixProduct", apart := false, narrowed := true }
def FnPrefixProductUptoSaid : Prop := fnPrefixProductUptoRow.holds Try.pinned (OpenSpec.upto fnPrefixProductSpec)

/-- 'laws.FnTransformShift', WHERE WHAT IT READS IS OF BULK AT MOST 1048576: true; the input reads as it did. -/
def fnTransformShiftUptoRow : OpenClaim := { program := "ytkigjnjbjbnidaa", sum := "6ce120ed22ada5a631a0b1c5518394e209bc83520232ae7709a1d0924da7fde5", func := "loop.example/softwareradio/laws.FnTransformShift", spec := "fnTransformShift", apart := false, narrowed := true }
def FnTransformShiftUptoSaid : Prop := fnTransformShiftUptoRow.holds Try.pinned (OpenSpec.upto fnTransformShiftSpec)

/-- 'laws.FnTransformSum', WHERE WHAT IT READS IS OF BULK AT MOST 1048576: true; the input reads as it did. -/
def fnTransformSumUptoRow : OpenClaim := { program := "ytkigjnjbjbnidaa", sum := "6ce120ed22ada5a631a0b1c5518394e209bc83520232ae7709a1d0924da7fde5", func := "loop.example/softwareradio/laws.FnTransformSum", spec := "fnTransformSum", apart := false, narrowed := true }
def FnTransformSumUptoSaid : Prop := fnTransformSumUptoRow.holds Try.pinned (OpenSpec.upto fnTransformSumSpec)

/-- 'laws.FnTransformTwice', WHERE WHAT IT READS IS OF BULK AT MOST 1048576: true; the input reads as it did. -/
def fnTransformTwiceUptoRow : OpenClaim := { program := "ytkigjnjbjbnidaa", sum := "6ce120ed22ada5a631a0b1c5518394e209bc83520232ae7709a1d0924da7fde5", func := "loop.example/softwareradio/laws.FnTransformTwice", spec := "fnTransformTwice", apart := false, narrowed := true }
def FnTransformTwiceUptoSaid : Prop := fnTransformTwiceUptoRow.holds Try.pinned (OpenSpec.upto fnTransformTwiceSpec)

end Rows
end Go.Proofs.Ytkigjnjbjbnidaa
