/-
  No cell of these rows narrows 'for every input' (looked for: loops, veiled, ifaces, maps, wideKeys, modest, calm, conditions, laid).
  DERIVED. THE GIVEN ROWS OF THIS SEAT. 5 by the template 'for every input the law returns true; each argument reads behind the call as it read before'; 0 by the template 'total and deterministic' (their statements: YtkigjnjbjbnidabTotals.lean).
  GIVEN WITH THE SEED: the statements are not yours to turn. If you find one false, say at which input.
  Laid BY PROGRAM, IN A SANDBOX (cutbox-rows.mjs): the forced cells as the released guide's own fill.sh prints them over the translation 6d147da739287195… (all of the seat's roots in one cut). By AI agents, Wed Nov 11 2026. No macro, syntax, notation, axiom, sorry.
-/
import Derived.Test.YtkigjnjbjbnidabChecked
import GoSem.Claim
import GoSem.ClaimJoined
import GoSem.ClaimMapViews
import Derived.JoinedTies
import Derived.KernelRfl
namespace Go.Proofs.Ytkigjnjbjbnidab
/- THE CELL 'sum', in the pinned program and in every row, IS THE sha256 OF THE DUMP (.gsa) THAT YtkigjnjbjbnidabProg.lean LOADS. Nothing in Lean hashes anything: it is a label: what it is worth is what the hold of that sum in a sandbox is worth. -/
noncomputable def Try.pinned : Pinned := { name := "ytkigjnjbjbnidab", sum := "6d147da73928719515c62f192e61424d3a5f9421bedb15e58cbe3077a2288290", checked := Try.checked }
namespace Rows
def none {H : Type} : Left H := { results := [], args := [] }

/-- 'laws.FnExactTransformRoot': WHATEVER THE INPUT: true; the input reads as it did. -/
def fnExactTransformRootSpec : ChangeSpec := { name := "fnExactTransformRoot", fn := fun _ => fun
  | [] => { results := [.lit (.bool true)], args := [] }
  | _ => none }
def fnExactTransformRootRow : OpenClaim := { program := "ytkigjnjbjbnidab", sum := "6d147da73928719515c62f192e61424d3a5f9421bedb15e58cbe3077a2288290", func := "loop.example/softwareradio/laws.FnExactTransformRoot", spec := "fnExactTransformRoot", apart := false }
def FnExactTransformRootSaid : Prop := fnExactTransformRootRow.holds Try.pinned (OpenSpec.ofChange fnExactTransformRootSpec)

/-- ITS FALSE NEIGHBOUR: 'it returns false'. Refute it at one input. -/
def fnExactTransformRootWrong : ChangeSpec := { name := "fnExactTransformRoot", fn := fun _ => fun
  | [] => { results := [.lit (.bool false)], args := [] }
  | _ => none }
def FnExactTransformRootWrongFalsely : Prop := fnExactTransformRootRow.holds Try.pinned (OpenSpec.ofChange fnExactTransformRootWrong)

/-- 'laws.FnExactForwardTransform': WHATEVER THE INPUT: true; the input reads as it did. -/
def fnExactForwardTransformSpec : ChangeSpec := { name := "fnExactForwardTransform", fn := fun _ => fun
  | [d] => { results := [.lit (.bool true)], args := [d] }
  | _ => none }
def fnExactForwardTransformRow : OpenClaim := { program := "ytkigjnjbjbnidab", sum := "6d147da73928719515c62f192e61424d3a5f9421bedb15e58cbe3077a2288290", func := "loop.example/softwareradio/laws.FnExactForwardTransform", spec := "fnExactForwardTransform", apart := false }
def FnExactForwardTransformSaid : Prop := fnExactForwardTransformRow.holds Try.pinned (OpenSpec.ofChange fnExactForwardTransformSpec)

/-- ITS FALSE NEIGHBOUR: 'it returns false'. Refute it at one input. -/
def fnExactForwardTransformWrong : ChangeSpec := { name := "fnExactForwardTransform", fn := fun _ => fun
  | [d] => { results := [.lit (.bool false)], args := [d] }
  | _ => none }
def FnExactForwardTransformWrongFalsely : Prop := fnExactForwardTransformRow.holds Try.pinned (OpenSpec.ofChange fnExactForwardTransformWrong)

/-- 'laws.FnExactBackwardTransform': WHATEVER THE INPUT: true; the input reads as it did. -/
def fnExactBackwardTransformSpec : ChangeSpec := { name := "fnExactBackwardTransform", fn := fun _ => fun
  | [d] => { results := [.lit (.bool true)], args := [d] }
  | _ => none }
def fnExactBackwardTransformRow : OpenClaim := { program := "ytkigjnjbjbnidab", sum := "6d147da73928719515c62f192e61424d3a5f9421bedb15e58cbe3077a2288290", func := "loop.example/softwareradio/laws.FnExactBackwardTransform", spec := "fnExactBackwardTransform", apart := false }
def FnExactBackwardTransformSaid : Prop := fnExactBackwardTransformRow.holds Try.pinned (OpenSpec.ofChange fnExactBackwardTransformSpec)

/-- ITS FALSE NEIGHBOUR: 'it returns false'. Refute it at one input. -/
def fnExactBackwardTransformWrong : ChangeSpec := { name := "fnExactBackwardTransform", fn := fun _ => fun
  | [d] => { results := [.lit (.bool false)], args := [d] }
  | _ => none }
def FnExactBackwardTransformWrongFalsely : Prop := fnExactBackwardTransformRow.holds Try.pinned (OpenSpec.ofChange fnExactBackwardTransformWrong)

/-- 'laws.FnExactCyclicProduct': WHATEVER THE INPUT: true; the input reads as it did. -/
def fnExactCyclicProductSpec : ChangeSpec := { name := "fnExactCyclicProduct", fn := fun _ => fun
  | [d1, d2] => { results := [.lit (.bool true)], args := [d1, d2] }
  | _ => none }
def fnExactCyclicProductRow : OpenClaim := { program := "ytkigjnjbjbnidab", sum := "6d147da73928719515c62f192e61424d3a5f9421bedb15e58cbe3077a2288290", func := "loop.example/softwareradio/laws.FnExactCyclicProduct", spec := "fnExactCyclicProduct", apart := false }
def FnExactCyclicProductSaid : Prop := fnExactCyclicProductRow.holds Try.pinned (OpenSpec.ofChange fnExactCyclicProductSpec)

/-- ITS FALSE NEIGHBOUR: 'it returns false'. Refute it at one input. -/
def fnExactCyclicProductWrong : ChangeSpec := { name := "fnExactCyclicProduct", fn := fun _ => fun
  | [d1, d2] => { results := [.lit (.bool false)], args := [d1, d2] }
  | _ => none }
def FnExactCyclicProductWrongFalsely : Prop := fnExactCyclicProductRow.holds Try.pinned (OpenSpec.ofChange fnExactCyclicProductWrong)

/-- 'laws.FnExactAddPrefix': WHATEVER THE INPUT: true; the input reads as it did. -/
def fnExactAddPrefixSpec : ChangeSpec := { name := "fnExactAddPrefix", fn := fun _ => fun
  | [d1, d2] => { results := [.lit (.bool true)], args := [d1, d2] }
  | _ => none }
def fnExactAddPrefixRow : OpenClaim := { program := "ytkigjnjbjbnidab", sum := "6d147da73928719515c62f192e61424d3a5f9421bedb15e58cbe3077a2288290", func := "loop.example/softwareradio/laws.FnExactAddPrefix", spec := "fnExactAddPrefix", apart := false }
def FnExactAddPrefixSaid : Prop := fnExactAddPrefixRow.holds Try.pinned (OpenSpec.ofChange fnExactAddPrefixSpec)

/-- ITS FALSE NEIGHBOUR: 'it returns false'. Refute it at one input. -/
def fnExactAddPrefixWrong : ChangeSpec := { name := "fnExactAddPrefix", fn := fun _ => fun
  | [d1, d2] => { results := [.lit (.bool false)], args := [d1, d2] }
  | _ => none }
def FnExactAddPrefixWrongFalsely : Prop := fnExactAddPrefixRow.holds Try.pinned (OpenSpec.ofChange fnExactAddPrefixWrong)

/- THE SECOND FORM. 'bulk': how many values and letters a reading holds, each counted each time it is reached (what is shared counts as often as it is met; a slice's spare places count too). A statement '..UptoSaid' is the law's where the arguments, and the package variables that the reading takes, are together of bulk at most 1048576: NARROWER than '..Said'. Prove '..Said' where nothing that the law and all that it calls make is longer than what came in: it says more and counts as full. Else prove '..UptoSaid'. A law counts once. -/
mutual
def uptoBulk {H : Type} : DataW H → Nat
  | .lit (.string bytes) => bytes.length + 1
  | .lit _ => 1
  | .nil => 1
  | .ptr d => uptoBulk d + 1
  | .slice elems spare => uptoBulkAll elems + uptoBulkAll spare + 1
  | .agg parts => uptoBulkAll parts + 1
  | .iface _ d => uptoBulk d + 1
  | .map entries => uptoBulkEntries entries + 1
  | .held _ => 1
def uptoBulkAll {H : Type} : List (DataW H) → Nat
  | [] => 0
  | d :: r => uptoBulk d + uptoBulkAll r
def uptoBulkEntries {H : Type} : List (Lit × DataW H) → Nat
  | [] => 0
  | x :: r => uptoBulkEntry x + uptoBulkEntries r
def uptoBulkEntry {H : Type} : Lit × DataW H → Nat
  | (.string bytes, d) => bytes.length + uptoBulk d + 1
  | (_, d) => uptoBulk d + 1
 end
def uptoSmall : (H : Type) → List (DataW H) → Bool := fun _ ds => decide (uptoBulkAll ds ≤ 1048576)
def OpenSpec.upto (s : _root_.Go.ChangeSpec) : _root_.Go.OpenSpec := { _root_.Go.OpenSpec.ofChange s with cond := some uptoSmall }

/-- 'laws.FnExactTransformRoot', WHERE WHAT IT READS IS OF BULK AT MOST 1048576: true; the input reads as it did. -/
def fnExactTransformRootUptoRow : OpenClaim := { program := "ytkigjnjbjbnidab", sum := "6d147da73928719515c62f192e61424d3a5f9421bedb15e58cbe3077a2288290", func := "loop.example/softwareradio/laws.FnExactTransformRoot", spec := "fnExactTransformRoot", apart := false, narrowed := true }
def FnExactTransformRootUptoSaid : Prop := fnExactTransformRootUptoRow.holds Try.pinned (OpenSpec.upto fnExactTransformRootSpec)

/-- 'laws.FnExactForwardTransform', WHERE WHAT IT READS IS OF BULK AT MOST 1048576: true; the input reads as it did. -/
def fnExactForwardTransformUptoRow : OpenClaim := { program := "ytkigjnjbjbnidab", sum := "6d147da73928719515c62f192e61424d3a5f9421bedb15e58cbe3077a2288290", func := "loop.example/softwareradio/laws.FnExactForwardTransform", spec := "fnExactForwardTransform", apart := false, narrowed := true }
def FnExactForwardTransformUptoSaid : Prop := fnExactForwardTransformUptoRow.holds Try.pinned (OpenSpec.upto fnExactForwardTransformSpec)

/-- 'laws.FnExactBackwardTransform', WHERE WHAT IT READS IS OF BULK AT MOST 1048576: true; the input reads as it did. -/
def fnExactBackwardTransformUptoRow : OpenClaim := { program := "ytkigjnjbjbnidab", sum := "6d147da73928719515c62f192e61424d3a5f9421bedb15e58cbe3077a2288290", func := "loop.example/softwareradio/laws.FnExactBackwardTransform", spec := "fnExactBackwardTransform", apart := false, narrowed := true }
def FnExactBackwardTransformUptoSaid : Prop := fnExactBackwardTransformUptoRow.holds Try.pinned (OpenSpec.upto fnExactBackwardTransformSpec)

/-- 'laws.FnExactCyclicProduct', WHERE WHAT IT READS IS OF BULK AT MOST 1048576: true; the input reads as it did. -/
def fnExactCyclicProductUptoRow : OpenClaim := { program := "ytkigjnjbjbnidab", sum := "6d147da73928719515c62f192e61424d3a5f9421bedb15e58cbe3077a2288290", func := "loop.example/softwareradio/laws.FnExactCyclicProduct", spec := "fnExactCyclicProduct", apart := false, narrowed := true }
def FnExactCyclicProductUptoSaid : Prop := fnExactCyclicProductUptoRow.holds Try.pinned (OpenSpec.upto fnExactCyclicProductSpec)

/-- 'laws.FnExactAddPrefix', WHERE WHAT IT READS IS OF BULK AT MOST 1048576: true; the input reads as it did. -/
def fnExactAddPrefixUptoRow : OpenClaim := { program := "ytkigjnjbjbnidab", sum := "6d147da73928719515c62f192e61424d3a5f9421bedb15e58cbe3077a2288290", func := "loop.example/softwareradio/laws.FnExactAddPrefix", spec := "fnExactAddPrefix", apart := false, narrowed := true }
def FnExactAddPrefixUptoSaid : Prop := fnExactAddPrefixUptoRow.holds Try.pinned (OpenSpec.upto fnExactAddPrefixSpec)

end Rows
end Go.Proofs.Ytkigjnjbjbnidab
