/-
  No cell of these rows narrows 'for every input' (looked for: loops, veiled, ifaces, maps, wideKeys, modest, calm, conditions, laid).
  DERIVED. THE GIVEN ROWS OF THIS SEAT. 6 by the template 'for every input the law returns true; each argument reads behind the call as it read before'; 0 by the template 'total and deterministic' (their statements: YtmhngakfjlkchaaTotals.lean).
  GIVEN WITH THE SEED: the statements are not yours to turn. If you find one false, say at which input.
  Laid BY PROGRAM, IN A SANDBOX (cutbox-rows.mjs): the forced cells as the released guide's own fill.sh prints them over the translation c131259099d73f23… (all of the seat's roots in one cut). By AI agents, Wed Nov 11 2026. No macro, syntax, notation, axiom, sorry.
-/
import Derived.Test.YtmhngakfjlkchaaChecked
import GoSem.Claim
import GoSem.ClaimJoined
import GoSem.ClaimMapViews
import Derived.JoinedTies
import Derived.KernelRfl
namespace Go.Proofs.Ytmhngakfjlkchaa
/- THE CELL 'sum', in the pinned program and in every row, IS THE sha256 OF THE DUMP (.gsa) THAT YtmhngakfjlkchaaProg.lean LOADS. Nothing in Lean hashes anything: it is a label: what it is worth is what the hold of that sum in a sandbox is worth. -/
noncomputable def Try.pinned : Pinned := { name := "ytmhngakfjlkchaa", sum := "c131259099d73f23cc4f8ca0d4224ba09a9788d7e7e592196d0a362cebc2b1f6", checked := Try.checked }
namespace Rows
def none {H : Type} : Left H := { results := [], args := [] }

/-- 'laws.FnInterleaveBits': WHATEVER THE INPUT: true; the input reads as it did. -/
def fnInterleaveBitsSpec : ChangeSpec := { name := "fnInterleaveBits", fn := fun _ => fun
  | [d] => { results := [.lit (.bool true)], args := [d] }
  | _ => none }
def fnInterleaveBitsRow : OpenClaim := { program := "ytmhngakfjlkchaa", sum := "c131259099d73f23cc4f8ca0d4224ba09a9788d7e7e592196d0a362cebc2b1f6", func := "loop.example/softwareradio/laws.FnInterleaveBits", spec := "fnInterleaveBits", apart := false }
def FnInterleaveBitsSaid : Prop := fnInterleaveBitsRow.holds Try.pinned (OpenSpec.ofChange fnInterleaveBitsSpec)

/-- ITS FALSE NEIGHBOUR: 'it returns false'. Refute it at one input. -/
def fnInterleaveBitsWrong : ChangeSpec := { name := "fnInterleaveBits", fn := fun _ => fun
  | [d] => { results := [.lit (.bool false)], args := [d] }
  | _ => none }
def FnInterleaveBitsWrongFalsely : Prop := fnInterleaveBitsRow.holds Try.pinned (OpenSpec.ofChange fnInterleaveBitsWrong)

/-- 'laws.FnDeinterleaveBits': WHATEVER THE INPUT: true; the input reads as it did. -/
def fnDeinterleaveBitsSpec : ChangeSpec := { name := "fnDeinterleaveBits", fn := fun _ => fun
  | [d] => { results := [.lit (.bool true)], args := [d] }
  | _ => none }
def fnDeinterleaveBitsRow : OpenClaim := { program := "ytmhngakfjlkchaa", sum := "c131259099d73f23cc4f8ca0d4224ba09a9788d7e7e592196d0a362cebc2b1f6", func := "loop.example/softwareradio/laws.FnDeinterleaveBits", spec := "fnDeinterleaveBits", apart := false }
def FnDeinterleaveBitsSaid : Prop := fnDeinterleaveBitsRow.holds Try.pinned (OpenSpec.ofChange fnDeinterleaveBitsSpec)

/-- ITS FALSE NEIGHBOUR: 'it returns false'. Refute it at one input. -/
def fnDeinterleaveBitsWrong : ChangeSpec := { name := "fnDeinterleaveBits", fn := fun _ => fun
  | [d] => { results := [.lit (.bool false)], args := [d] }
  | _ => none }
def FnDeinterleaveBitsWrongFalsely : Prop := fnDeinterleaveBitsRow.holds Try.pinned (OpenSpec.ofChange fnDeinterleaveBitsWrong)

/-- 'laws.FnBurstSpread': WHATEVER THE INPUT: true; the input reads as it did. -/
def fnBurstSpreadSpec : ChangeSpec := { name := "fnBurstSpread", fn := fun _ => fun
  | [d] => { results := [.lit (.bool true)], args := [d] }
  | _ => none }
def fnBurstSpreadRow : OpenClaim := { program := "ytmhngakfjlkchaa", sum := "c131259099d73f23cc4f8ca0d4224ba09a9788d7e7e592196d0a362cebc2b1f6", func := "loop.example/softwareradio/laws.FnBurstSpread", spec := "fnBurstSpread", apart := false }
def FnBurstSpreadSaid : Prop := fnBurstSpreadRow.holds Try.pinned (OpenSpec.ofChange fnBurstSpreadSpec)

/-- ITS FALSE NEIGHBOUR: 'it returns false'. Refute it at one input. -/
def fnBurstSpreadWrong : ChangeSpec := { name := "fnBurstSpread", fn := fun _ => fun
  | [d] => { results := [.lit (.bool false)], args := [d] }
  | _ => none }
def FnBurstSpreadWrongFalsely : Prop := fnBurstSpreadRow.holds Try.pinned (OpenSpec.ofChange fnBurstSpreadWrong)

/-- 'laws.FnExactInterleaveBits': WHATEVER THE INPUT: true; the input reads as it did. -/
def fnExactInterleaveBitsSpec : ChangeSpec := { name := "fnExactInterleaveBits", fn := fun _ => fun
  | [d1, d2] => { results := [.lit (.bool true)], args := [d1, d2] }
  | _ => none }
def fnExactInterleaveBitsRow : OpenClaim := { program := "ytmhngakfjlkchaa", sum := "c131259099d73f23cc4f8ca0d4224ba09a9788d7e7e592196d0a362cebc2b1f6", func := "loop.example/softwareradio/laws.FnExactInterleaveBits", spec := "fnExactInterleaveBits", apart := false }
def FnExactInterleaveBitsSaid : Prop := fnExactInterleaveBitsRow.holds Try.pinned (OpenSpec.ofChange fnExactInterleaveBitsSpec)

/-- ITS FALSE NEIGHBOUR: 'it returns false'. Refute it at one input. -/
def fnExactInterleaveBitsWrong : ChangeSpec := { name := "fnExactInterleaveBits", fn := fun _ => fun
  | [d1, d2] => { results := [.lit (.bool false)], args := [d1, d2] }
  | _ => none }
def FnExactInterleaveBitsWrongFalsely : Prop := fnExactInterleaveBitsRow.holds Try.pinned (OpenSpec.ofChange fnExactInterleaveBitsWrong)

/-- 'laws.FnExactDeinterleaveBits': WHATEVER THE INPUT: true; the input reads as it did. -/
def fnExactDeinterleaveBitsSpec : ChangeSpec := { name := "fnExactDeinterleaveBits", fn := fun _ => fun
  | [d1, d2] => { results := [.lit (.bool true)], args := [d1, d2] }
  | _ => none }
def fnExactDeinterleaveBitsRow : OpenClaim := { program := "ytmhngakfjlkchaa", sum := "c131259099d73f23cc4f8ca0d4224ba09a9788d7e7e592196d0a362cebc2b1f6", func := "loop.example/softwareradio/laws.FnExactDeinterleaveBits", spec := "fnExactDeinterleaveBits", apart := false }
def FnExactDeinterleaveBitsSaid : Prop := fnExactDeinterleaveBitsRow.holds Try.pinned (OpenSpec.ofChange fnExactDeinterleaveBitsSpec)

/-- ITS FALSE NEIGHBOUR: 'it returns false'. Refute it at one input. -/
def fnExactDeinterleaveBitsWrong : ChangeSpec := { name := "fnExactDeinterleaveBits", fn := fun _ => fun
  | [d1, d2] => { results := [.lit (.bool false)], args := [d1, d2] }
  | _ => none }
def FnExactDeinterleaveBitsWrongFalsely : Prop := fnExactDeinterleaveBitsRow.holds Try.pinned (OpenSpec.ofChange fnExactDeinterleaveBitsWrong)

/-- 'laws.FnExactBurstSpread': WHATEVER THE INPUT: true; the input reads as it did. -/
def fnExactBurstSpreadSpec : ChangeSpec := { name := "fnExactBurstSpread", fn := fun _ => fun
  | [d1, d2, d3, d4] => { results := [.lit (.bool true)], args := [d1, d2, d3, d4] }
  | _ => none }
def fnExactBurstSpreadRow : OpenClaim := { program := "ytmhngakfjlkchaa", sum := "c131259099d73f23cc4f8ca0d4224ba09a9788d7e7e592196d0a362cebc2b1f6", func := "loop.example/softwareradio/laws.FnExactBurstSpread", spec := "fnExactBurstSpread", apart := false }
def FnExactBurstSpreadSaid : Prop := fnExactBurstSpreadRow.holds Try.pinned (OpenSpec.ofChange fnExactBurstSpreadSpec)

/-- ITS FALSE NEIGHBOUR: 'it returns false'. Refute it at one input. -/
def fnExactBurstSpreadWrong : ChangeSpec := { name := "fnExactBurstSpread", fn := fun _ => fun
  | [d1, d2, d3, d4] => { results := [.lit (.bool false)], args := [d1, d2, d3, d4] }
  | _ => none }
def FnExactBurstSpreadWrongFalsely : Prop := fnExactBurstSpreadRow.holds Try.pinned (OpenSpec.ofChange fnExactBurstSpreadWrong)

/- THE SECOND FORM. 'bulk': how many values and letters a reading holds, each counted each time it is reached (what is shared counts as often as it is met; a slice's spare places count too). A statement '..UptoSaid' is the law's where the arguments, and the package variables that the reading takes, are together of bulk at most 1048576: NARROWER than '..Said'. Prove '..Said' where nothing that the law and all that it calls make is longer than what came in: it says more and counts as full. Else prove '..UptoSaid'. A law counts once. -/
mutual
def uptoBulk {H : Type} : DataW H → Nat
  | .lit (.string bytes) => bytes.length + 1
  | .lit _ => 1
  | .nil => 1
  | .ptr d => uptoBulk d + 1
  | .slice elems spare => uptoBulkAll elems + uptoBulkAll spare + 1
  | .agg parts => uptoBulkAll parts + 1
  | .iface _ d => uptoBulk d + 1
  | .map entries => uptoBulkEntries entries + 1
  | .held _ => 1
def uptoBulkAll {H : Type} : List (DataW H) → Nat
  | [] => 0
  | d :: r => uptoBulk d + uptoBulkAll r
def uptoBulkEntries {H : Type} : List (Lit × DataW H) → Nat
  | [] => 0
  | x :: r => uptoBulkEntry x + uptoBulkEntries r
def uptoBulkEntry {H : Type} : Lit × DataW H → Nat
  | (.string bytes, d) => bytes.length + uptoBulk d + 1
  | (_, d) => uptoBulk d + 1
 end
def uptoSmall : (H : Type) → List (DataW H) → Bool := fun _ ds => decide (uptoBulkAll ds ≤ 1048576)
def OpenSpec.upto (s : _root_.Go.ChangeSpec) : _root_.Go.OpenSpec := { _root_.Go.OpenSpec.ofChange s with cond := some uptoSmall }

/-- 'laws.FnInterleaveBits', WHERE WHAT IT READS IS OF BULK AT MOST 1048576: true; the input reads as it did. -/
def fnInterleaveBitsUptoRow : OpenClaim := { program := "ytmhngakfjlkchaa", sum := "c131259099d73f23cc4f8ca0d4224ba09a9788d7e7e592196d0a362cebc2b1f6", func := "loop.example/softwareradio/laws.FnInterleaveBits", spec := "fnInterleaveBits", apart := false, narrowed := true }
def FnInterleaveBitsUptoSaid : Prop := fnInterleaveBitsUptoRow.holds Try.pinned (OpenSpec.upto fnInterleaveBitsSpec)

/-- 'laws.FnDeinterleaveBits', WHERE WHAT IT READS IS OF BULK AT MOST 1048576: true; the input reads as it did. -/
def fnDeinterleaveBitsUptoRow : OpenClaim := { program := "ytmhngakfjlkchaa", sum := "c131259099d73f23cc4f8ca0d4224ba09a9788d7e7e592196d0a362cebc2b1f6", func := "loop.example/softwareradio/laws.FnDeinterleaveBits", spec := "fnDeinterleaveBits", apart := false, narrowed := true }
def FnDeinterleaveBitsUptoSaid : Prop := fnDeinterleaveBitsUptoRow.holds Try.pinned (OpenSpec.upto fnDeinterleaveBitsSpec)

/-- 'laws.FnBurstSpread', WHERE WHAT IT READS IS OF BULK AT MOST 1048576: true; the input reads as it did. -/
def fnBurstSpreadUptoRow : OpenClaim := { program := "ytmhngakfjlkchaa", sum := "c131259099d73f23cc4f8ca0d4224ba09a9788d7e7e592196d0a362cebc2b1f6", func := "loop.example/softwareradio/laws.FnBurstSpread", spec := "fnBurstSpread", apart := false, narrowed := true }
def FnBurstSpreadUptoSaid : Prop := fnBurstSpreadUptoRow.holds Try.pinned (OpenSpec.upto fnBurstSpreadSpec)

/-- 'laws.FnExactInterleaveBits', WHERE WHAT IT READS IS OF BULK AT MOST 1048576: true; the input reads as it did. -/
def fnExactInterleaveBitsUptoRow : OpenClaim := { program := "ytmhngakfjlkchaa", sum := "c131259099d73f23cc4f8ca0d4224ba09a9788d7e7e592196d0a362cebc2b1f6", func := "loop.example/softwareradio/laws.FnExactInterleaveBits", spec := "fnExactInterleaveBits", apart := false, narrowed := true }
def FnExactInterleaveBitsUptoSaid : Prop := fnExactInterleaveBitsUptoRow.holds Try.pinned (OpenSpec.upto fnExactInterleaveBitsSpec)

/-- 'laws.FnExactDeinterleaveBits', WHERE WHAT IT READS IS OF BULK AT MOST 1048576: true; the input reads as it did. -/
def fnExactDeinterleaveBitsUptoRow : OpenClaim := { program := "ytmhngakfjlkchaa", sum := "c131259099d73f23cc4f8ca0d4224ba09a9788d7e7e592196d0a362cebc2b1f6", func := "loop.example/softwareradio/laws.FnExactDeinterleaveBits", spec := "fnExactDeinterleaveBits", apart := false, narrowed := true }
def FnExactDeinterleaveBitsUptoSaid : Prop := fnExactDeinterleaveBitsUptoRow.holds Try.pinned (OpenSpec.upto fnExactDeinterleaveBitsSpec)

/-- 'laws.FnExactBurstSpread', WHERE WHAT IT READS IS OF BULK AT MOST 1048576: true; the input reads as it did. -/
def fnExactBurstSpreadUptoRow : OpenClaim := { program := "ytmhngakfjlkchaa", sum := "c131259099d73f23cc4f8ca0d4224ba09a9788d7e7e592196d0a362cebc2b1f6", func := "loop.example/softwareradio/laws.FnExactBurstSpread", spec := "fnExactBurstSpread", apart := false, narrowed := true }
def FnExactBurstSpreadUptoSaid : Prop := fnExactBurstSpreadUptoRow.holds Try.pinned (OpenSpec.upto fnExactBurstSpreadSpec)

end Rows
end Go.Proofs.Ytmhngakfjlkchaa
