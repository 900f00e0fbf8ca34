/-
  No cell of these rows narrows 'for every input' (looked for: loops, veiled, ifaces, maps, wideKeys, modest, calm, conditions, laid).
  DERIVED. THE GIVEN ROWS OF THIS SEAT. 2 by the template 'for every input the law returns true; each argument reads behind the call as it read before'; 0 by the template 'total and deterministic' (their statements: YtflplihhakepfabTotals.lean).
  GIVEN WITH THE SEED: the statements are not yours to turn. If you find one false, say at which input.
  Laid BY PROGRAM, IN A SANDBOX (cutbox-rows.mjs): the forced cells as the released guide's own fill.sh prints them over the translation aa6c4482c0b903d0… (all of the seat's roots in one cut). By AI agents, Wed Nov 11 2026. No macro, syntax, notation, axiom, sorry.
-/
import Derived.Test.YtflplihhakepfabChecked
import GoSem.Claim
import GoSem.ClaimJoined
import GoSem.ClaimMapViews
import Derived.JoinedTies
import Derived.KernelRfl
namespace Go.Proofs.Ytflplihhakepfab
/- THE CELL 'sum', in the pinned program and in every row, IS THE sha256 OF THE DUMP (.gsa) THAT YtflplihhakepfabProg.lean LOADS. Nothing in Lean hashes anything: it is a label: what it is worth is what the hold of that sum in a sandbox is worth. -/
noncomputable def Try.pinned : Pinned := { name := "ytflplihhakepfab", sum := "aa6c4482c0b903d0c0b92d36b454ef25a03b22ebd5b7cb8c765acc5b8db79744", checked := Try.checked }
namespace Rows
def none {H : Type} : Left H := { results := [], args := [] }

/-- 'laws.FnExactEncodeNibble': WHATEVER THE INPUT: true; the input reads as it did. -/
def fnExactEncodeNibbleSpec : ChangeSpec := { name := "fnExactEncodeNibble", fn := fun _ => fun
  | [d] => { results := [.lit (.bool true)], args := [d] }
  | _ => none }
def fnExactEncodeNibbleRow : OpenClaim := { program := "ytflplihhakepfab", sum := "aa6c4482c0b903d0c0b92d36b454ef25a03b22ebd5b7cb8c765acc5b8db79744", func := "loop.example/softwareradio/laws.FnExactEncodeNibble", spec := "fnExactEncodeNibble", apart := false }
def FnExactEncodeNibbleSaid : Prop := fnExactEncodeNibbleRow.holds Try.pinned (OpenSpec.ofChange fnExactEncodeNibbleSpec)

/-- ITS FALSE NEIGHBOUR: 'it returns false'. Refute it at one input. -/
def fnExactEncodeNibbleWrong : ChangeSpec := { name := "fnExactEncodeNibble", fn := fun _ => fun
  | [d] => { results := [.lit (.bool false)], args := [d] }
  | _ => none }
def FnExactEncodeNibbleWrongFalsely : Prop := fnExactEncodeNibbleRow.holds Try.pinned (OpenSpec.ofChange fnExactEncodeNibbleWrong)

/-- 'laws.FnExactEncodeBlocks': WHATEVER THE INPUT: true; the input reads as it did. -/
def fnExactEncodeBlocksSpec : ChangeSpec := { name := "fnExactEncodeBlocks", fn := fun _ => fun
  | [d] => { results := [.lit (.bool true)], args := [d] }
  | _ => none }
def fnExactEncodeBlocksRow : OpenClaim := { program := "ytflplihhakepfab", sum := "aa6c4482c0b903d0c0b92d36b454ef25a03b22ebd5b7cb8c765acc5b8db79744", func := "loop.example/softwareradio/laws.FnExactEncodeBlocks", spec := "fnExactEncodeBlocks", apart := false }
def FnExactEncodeBlocksSaid : Prop := fnExactEncodeBlocksRow.holds Try.pinned (OpenSpec.ofChange fnExactEncodeBlocksSpec)

/-- ITS FALSE NEIGHBOUR: 'it returns false'. Refute it at one input. -/
def fnExactEncodeBlocksWrong : ChangeSpec := { name := "fnExactEncodeBlocks", fn := fun _ => fun
  | [d] => { results := [.lit (.bool false)], args := [d] }
  | _ => none }
def FnExactEncodeBlocksWrongFalsely : Prop := fnExactEncodeBlocksRow.holds Try.pinned (OpenSpec.ofChange fnExactEncodeBlocksWrong)

/- THE SECOND FORM. 'bulk': how many values and letters a reading holds, each counted each time it is reached (what is shared counts as often as it is met; a slice's spare places count too). A statement '..UptoSaid' is the law's where the arguments, and the package variables that the reading takes, are together of bulk at most 1048576: NARROWER than '..Said'. Prove '..Said' where nothing that the law and all that it calls make is longer than what came in: it says more and counts as full. Else prove '..UptoSaid'. A law counts once. -/
mutual
def uptoBulk {H : Type} : DataW H → Nat
  | .lit (.string bytes) => bytes.length + 1
  | .lit _ => 1
  | .nil => 1
  | .ptr d => uptoBulk d + 1
  | .slice elems spare => uptoBulkAll elems + uptoBulkAll spare + 1
  | .agg parts => uptoBulkAll parts + 1
  | .iface _ d => uptoBulk d + 1
  | .map entries => uptoBulkEntries entries + 1
  | .held _ => 1
def uptoBulkAll {H : Type} : List (DataW H) → Nat
  | [] => 0
  | d :: r => uptoBulk d + uptoBulkAll r
def uptoBulkEntries {H : Type} : List (Lit × DataW H) → Nat
  | [] => 0
  | x :: r => uptoBulkEntry x + uptoBulkEntries r
def uptoBulkEntry {H : Type} : Lit × DataW H → Nat
  | (.string bytes, d) => bytes.length + uptoBulk d + 1
  | (_, d) => uptoBulk d + 1
 end
def uptoSmall : (H : Type) → List (DataW H) → Bool := fun _ ds => decide (uptoBulkAll ds ≤ 1048576)
def OpenSpec.upto (s : _root_.Go.ChangeSpec) : _root_.Go.OpenSpec := { _root_.Go.OpenSpec.ofChange s with cond := some uptoSmall }

/-- 'laws.FnExactEncodeNibble', WHERE WHAT IT READS IS OF BULK AT MOST 1048576: true; the input reads as it did. -/
def fnExactEncodeNibbleUptoRow : OpenClaim := { program := "ytflplihhakepfab", sum := "aa6c4482c0b903d0c0b92d36b454ef25a03b22ebd5b7cb8c765acc5b8db79744", func := "loop.example/softwareradio/laws.FnExactEncodeNibble", spec := "fnExactEncodeNibble", apart := false, narrowed := true }
def FnExactEncodeNibbleUptoSaid : Prop := fnExactEncodeNibbleUptoRow.holds Try.pinned (OpenSpec.upto fnExactEncodeNibbleSpec)

/-- 'laws.FnExactEncodeBlocks', WHERE WHAT IT READS IS OF BULK AT MOST 1048576: true; the input reads as it did. -/
def fnExactEncodeBlocksUptoRow : OpenClaim := { program := "ytflplihhakepfab", sum := "aa6c4482c0b903d0c0b92d36b454ef25a03b22ebd5b7cb8c765acc5b8db79744", func := "loop.example/softwareradio/laws.FnExactEncodeBlocks", spec := "fnExactEncodeBlocks", apart := false, narrowed := true }
def FnExactEncodeBlocksUptoSaid : Prop := fnExactEncodeBlocksUptoRow.holds Try.pinned (OpenSpec.upto fnExactEncodeBlocksSpec)

end Rows
end Go.Proofs.Ytflplihhakepfab
