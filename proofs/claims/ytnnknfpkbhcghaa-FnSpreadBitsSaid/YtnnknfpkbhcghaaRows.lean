/-
  No cell of these rows narrows 'for every input' (looked for: loops, veiled, ifaces, maps, wideKeys, modest, calm, conditions, laid).
  DERIVED. THE GIVEN ROWS OF THIS SEAT. 11 by the template 'for every input the law returns true; each argument reads behind the call as it read before'; 0 by the template 'total and deterministic' (their statements: YtnnknfpkbhcghaaTotals.lean).
  GIVEN WITH THE SEED: the statements are not yours to turn. If you find one false, say at which input.
  Laid BY PROGRAM, IN A SANDBOX (cutbox-rows.mjs): the forced cells as the released guide's own fill.sh prints them over the translation 24e150d0cd2d2892… (all of the seat's roots in one cut). By AI agents, Wed Nov 11 2026. No macro, syntax, notation, axiom, sorry.
-/
import Derived.Test.YtnnknfpkbhcghaaChecked
import GoSem.Claim
import GoSem.ClaimJoined
import GoSem.ClaimMapViews
import Derived.JoinedTies
import Derived.KernelRfl
namespace Go.Proofs.Ytnnknfpkbhcghaa
/- THE CELL 'sum', in the pinned program and in every row, IS THE sha256 OF THE DUMP (.gsa) THAT YtnnknfpkbhcghaaProg.lean LOADS. Nothing in Lean hashes anything: it is a label: what it is worth is what the hold of that sum in a sandbox is worth. -/
noncomputable def Try.pinned : Pinned := { name := "ytnnknfpkbhcghaa", sum := "24e150d0cd2d28922b963c7d28f238990dfd958fcbe992fa70971b88f1963ffc", checked := Try.checked }
namespace Rows
def none {H : Type} : Left H := { results := [], args := [] }

/-- 'laws.FnWalshCode': WHATEVER THE INPUT: true; the input reads as it did. -/
def fnWalshCodeSpec : ChangeSpec := { name := "fnWalshCode", fn := fun _ => fun
  | [d] => { results := [.lit (.bool true)], args := [d] }
  | _ => none }
def fnWalshCodeRow : OpenClaim := { program := "ytnnknfpkbhcghaa", sum := "24e150d0cd2d28922b963c7d28f238990dfd958fcbe992fa70971b88f1963ffc", func := "loop.example/softwareradio/laws.FnWalshCode", spec := "fnWalshCode", recurses := true, apart := false }
def FnWalshCodeSaid : Prop := fnWalshCodeRow.holds Try.pinned (OpenSpec.ofChange fnWalshCodeSpec)

/-- ITS FALSE NEIGHBOUR: 'it returns false'. Refute it at one input. -/
def fnWalshCodeWrong : ChangeSpec := { name := "fnWalshCode", fn := fun _ => fun
  | [d] => { results := [.lit (.bool false)], args := [d] }
  | _ => none }
def FnWalshCodeWrongFalsely : Prop := fnWalshCodeRow.holds Try.pinned (OpenSpec.ofChange fnWalshCodeWrong)

/-- 'laws.FnSpreadBits': WHATEVER THE INPUT: true; the input reads as it did. -/
def fnSpreadBitsSpec : ChangeSpec := { name := "fnSpreadBits", fn := fun _ => fun
  | [d] => { results := [.lit (.bool true)], args := [d] }
  | _ => none }
def fnSpreadBitsRow : OpenClaim := { program := "ytnnknfpkbhcghaa", sum := "24e150d0cd2d28922b963c7d28f238990dfd958fcbe992fa70971b88f1963ffc", func := "loop.example/softwareradio/laws.FnSpreadBits", spec := "fnSpreadBits", recurses := true, apart := false }
def FnSpreadBitsSaid : Prop := fnSpreadBitsRow.holds Try.pinned (OpenSpec.ofChange fnSpreadBitsSpec)

/-- ITS FALSE NEIGHBOUR: 'it returns false'. Refute it at one input. -/
def fnSpreadBitsWrong : ChangeSpec := { name := "fnSpreadBits", fn := fun _ => fun
  | [d] => { results := [.lit (.bool false)], args := [d] }
  | _ => none }
def FnSpreadBitsWrongFalsely : Prop := fnSpreadBitsRow.holds Try.pinned (OpenSpec.ofChange fnSpreadBitsWrong)

/-- 'laws.FnAddChips': WHATEVER THE INPUT: true; the input reads as it did. -/
def fnAddChipsSpec : ChangeSpec := { name := "fnAddChips", fn := fun _ => fun
  | [d] => { results := [.lit (.bool true)], args := [d] }
  | _ => none }
def fnAddChipsRow : OpenClaim := { program := "ytnnknfpkbhcghaa", sum := "24e150d0cd2d28922b963c7d28f238990dfd958fcbe992fa70971b88f1963ffc", func := "loop.example/softwareradio/laws.FnAddChips", spec := "fnAddChips", apart := false }
def FnAddChipsSaid : Prop := fnAddChipsRow.holds Try.pinned (OpenSpec.ofChange fnAddChipsSpec)

/-- ITS FALSE NEIGHBOUR: 'it returns false'. Refute it at one input. -/
def fnAddChipsWrong : ChangeSpec := { name := "fnAddChips", fn := fun _ => fun
  | [d] => { results := [.lit (.bool false)], args := [d] }
  | _ => none }
def FnAddChipsWrongFalsely : Prop := fnAddChipsRow.holds Try.pinned (OpenSpec.ofChange fnAddChipsWrong)

/-- 'laws.FnDespreadSums': WHATEVER THE INPUT: true; the input reads as it did. -/
def fnDespreadSumsSpec : ChangeSpec := { name := "fnDespreadSums", fn := fun _ => fun
  | [d] => { results := [.lit (.bool true)], args := [d] }
  | _ => none }
def fnDespreadSumsRow : OpenClaim := { program := "ytnnknfpkbhcghaa", sum := "24e150d0cd2d28922b963c7d28f238990dfd958fcbe992fa70971b88f1963ffc", func := "loop.example/softwareradio/laws.FnDespreadSums", spec := "fnDespreadSums", apart := false }
def FnDespreadSumsSaid : Prop := fnDespreadSumsRow.holds Try.pinned (OpenSpec.ofChange fnDespreadSumsSpec)

/-- ITS FALSE NEIGHBOUR: 'it returns false'. Refute it at one input. -/
def fnDespreadSumsWrong : ChangeSpec := { name := "fnDespreadSums", fn := fun _ => fun
  | [d] => { results := [.lit (.bool false)], args := [d] }
  | _ => none }
def FnDespreadSumsWrongFalsely : Prop := fnDespreadSumsRow.holds Try.pinned (OpenSpec.ofChange fnDespreadSumsWrong)

/-- 'laws.FnDespreadBits': WHATEVER THE INPUT: true; the input reads as it did. -/
def fnDespreadBitsSpec : ChangeSpec := { name := "fnDespreadBits", fn := fun _ => fun
  | [d] => { results := [.lit (.bool true)], args := [d] }
  | _ => none }
def fnDespreadBitsRow : OpenClaim := { program := "ytnnknfpkbhcghaa", sum := "24e150d0cd2d28922b963c7d28f238990dfd958fcbe992fa70971b88f1963ffc", func := "loop.example/softwareradio/laws.FnDespreadBits", spec := "fnDespreadBits", apart := false }
def FnDespreadBitsSaid : Prop := fnDespreadBitsRow.holds Try.pinned (OpenSpec.ofChange fnDespreadBitsSpec)

/-- ITS FALSE NEIGHBOUR: 'it returns false'. Refute it at one input. -/
def fnDespreadBitsWrong : ChangeSpec := { name := "fnDespreadBits", fn := fun _ => fun
  | [d] => { results := [.lit (.bool false)], args := [d] }
  | _ => none }
def FnDespreadBitsWrongFalsely : Prop := fnDespreadBitsRow.holds Try.pinned (OpenSpec.ofChange fnDespreadBitsWrong)

/-- 'laws.FnWalshGroup': WHATEVER THE INPUT: true; the input reads as it did. -/
def fnWalshGroupSpec : ChangeSpec := { name := "fnWalshGroup", fn := fun _ => fun
  | [d] => { results := [.lit (.bool true)], args := [d] }
  | _ => none }
def fnWalshGroupRow : OpenClaim := { program := "ytnnknfpkbhcghaa", sum := "24e150d0cd2d28922b963c7d28f238990dfd958fcbe992fa70971b88f1963ffc", func := "loop.example/softwareradio/laws.FnWalshGroup", spec := "fnWalshGroup", recurses := true, apart := false }
def FnWalshGroupSaid : Prop := fnWalshGroupRow.holds Try.pinned (OpenSpec.ofChange fnWalshGroupSpec)

/-- ITS FALSE NEIGHBOUR: 'it returns false'. Refute it at one input. -/
def fnWalshGroupWrong : ChangeSpec := { name := "fnWalshGroup", fn := fun _ => fun
  | [d] => { results := [.lit (.bool false)], args := [d] }
  | _ => none }
def FnWalshGroupWrongFalsely : Prop := fnWalshGroupRow.holds Try.pinned (OpenSpec.ofChange fnWalshGroupWrong)

/-- 'laws.FnExactWalshCode': WHATEVER THE INPUT: true; the input reads as it did. -/
def fnExactWalshCodeSpec : ChangeSpec := { name := "fnExactWalshCode", fn := fun _ => fun
  | [d] => { results := [.lit (.bool true)], args := [d] }
  | _ => none }
def fnExactWalshCodeRow : OpenClaim := { program := "ytnnknfpkbhcghaa", sum := "24e150d0cd2d28922b963c7d28f238990dfd958fcbe992fa70971b88f1963ffc", func := "loop.example/softwareradio/laws.FnExactWalshCode", spec := "fnExactWalshCode", recurses := true, apart := false }
def FnExactWalshCodeSaid : Prop := fnExactWalshCodeRow.holds Try.pinned (OpenSpec.ofChange fnExactWalshCodeSpec)

/-- ITS FALSE NEIGHBOUR: 'it returns false'. Refute it at one input. -/
def fnExactWalshCodeWrong : ChangeSpec := { name := "fnExactWalshCode", fn := fun _ => fun
  | [d] => { results := [.lit (.bool false)], args := [d] }
  | _ => none }
def FnExactWalshCodeWrongFalsely : Prop := fnExactWalshCodeRow.holds Try.pinned (OpenSpec.ofChange fnExactWalshCodeWrong)

/-- 'laws.FnExactSpreadBits': WHATEVER THE INPUT: true; the input reads as it did. -/
def fnExactSpreadBitsSpec : ChangeSpec := { name := "fnExactSpreadBits", fn := fun _ => fun
  | [d1, d2] => { results := [.lit (.bool true)], args := [d1, d2] }
  | _ => none }
def fnExactSpreadBitsRow : OpenClaim := { program := "ytnnknfpkbhcghaa", sum := "24e150d0cd2d28922b963c7d28f238990dfd958fcbe992fa70971b88f1963ffc", func := "loop.example/softwareradio/laws.FnExactSpreadBits", spec := "fnExactSpreadBits", recurses := true, apart := false }
def FnExactSpreadBitsSaid : Prop := fnExactSpreadBitsRow.holds Try.pinned (OpenSpec.ofChange fnExactSpreadBitsSpec)

/-- ITS FALSE NEIGHBOUR: 'it returns false'. Refute it at one input. -/
def fnExactSpreadBitsWrong : ChangeSpec := { name := "fnExactSpreadBits", fn := fun _ => fun
  | [d1, d2] => { results := [.lit (.bool false)], args := [d1, d2] }
  | _ => none }
def FnExactSpreadBitsWrongFalsely : Prop := fnExactSpreadBitsRow.holds Try.pinned (OpenSpec.ofChange fnExactSpreadBitsWrong)

/-- 'laws.FnExactAddChips': WHATEVER THE INPUT: true; the input reads as it did. -/
def fnExactAddChipsSpec : ChangeSpec := { name := "fnExactAddChips", fn := fun _ => fun
  | [d1, d2] => { results := [.lit (.bool true)], args := [d1, d2] }
  | _ => none }
def fnExactAddChipsRow : OpenClaim := { program := "ytnnknfpkbhcghaa", sum := "24e150d0cd2d28922b963c7d28f238990dfd958fcbe992fa70971b88f1963ffc", func := "loop.example/softwareradio/laws.FnExactAddChips", spec := "fnExactAddChips", apart := false }
def FnExactAddChipsSaid : Prop := fnExactAddChipsRow.holds Try.pinned (OpenSpec.ofChange fnExactAddChipsSpec)

/-- ITS FALSE NEIGHBOUR: 'it returns false'. Refute it at one input. -/
def fnExactAddChipsWrong : ChangeSpec := { name := "fnExactAddChips", fn := fun _ => fun
  | [d1, d2] => { results := [.lit (.bool false)], args := [d1, d2] }
  | _ => none }
def FnExactAddChipsWrongFalsely : Prop := fnExactAddChipsRow.holds Try.pinned (OpenSpec.ofChange fnExactAddChipsWrong)

/-- 'laws.FnExactDespreadSums': WHATEVER THE INPUT: true; the input reads as it did. -/
def fnExactDespreadSumsSpec : ChangeSpec := { name := "fnExactDespreadSums", fn := fun _ => fun
  | [d1, d2] => { results := [.lit (.bool true)], args := [d1, d2] }
  | _ => none }
def fnExactDespreadSumsRow : OpenClaim := { program := "ytnnknfpkbhcghaa", sum := "24e150d0cd2d28922b963c7d28f238990dfd958fcbe992fa70971b88f1963ffc", func := "loop.example/softwareradio/laws.FnExactDespreadSums", spec := "fnExactDespreadSums", apart := false }
def FnExactDespreadSumsSaid : Prop := fnExactDespreadSumsRow.holds Try.pinned (OpenSpec.ofChange fnExactDespreadSumsSpec)

/-- ITS FALSE NEIGHBOUR: 'it returns false'. Refute it at one input. -/
def fnExactDespreadSumsWrong : ChangeSpec := { name := "fnExactDespreadSums", fn := fun _ => fun
  | [d1, d2] => { results := [.lit (.bool false)], args := [d1, d2] }
  | _ => none }
def FnExactDespreadSumsWrongFalsely : Prop := fnExactDespreadSumsRow.holds Try.pinned (OpenSpec.ofChange fnExactDespreadSumsWrong)

/-- 'laws.FnExactDespreadBits': WHATEVER THE INPUT: true; the input reads as it did. -/
def fnExactDespreadBitsSpec : ChangeSpec := { name := "fnExactDespreadBits", fn := fun _ => fun
  | [d1, d2] => { results := [.lit (.bool true)], args := [d1, d2] }
  | _ => none }
def fnExactDespreadBitsRow : OpenClaim := { program := "ytnnknfpkbhcghaa", sum := "24e150d0cd2d28922b963c7d28f238990dfd958fcbe992fa70971b88f1963ffc", func := "loop.example/softwareradio/laws.FnExactDespreadBits", spec := "fnExactDespreadBits", apart := false }
def FnExactDespreadBitsSaid : Prop := fnExactDespreadBitsRow.holds Try.pinned (OpenSpec.ofChange fnExactDespreadBitsSpec)

/-- ITS FALSE NEIGHBOUR: 'it returns false'. Refute it at one input. -/
def fnExactDespreadBitsWrong : ChangeSpec := { name := "fnExactDespreadBits", fn := fun _ => fun
  | [d1, d2] => { results := [.lit (.bool false)], args := [d1, d2] }
  | _ => none }
def FnExactDespreadBitsWrongFalsely : Prop := fnExactDespreadBitsRow.holds Try.pinned (OpenSpec.ofChange fnExactDespreadBitsWrong)

/- THE SECOND FORM. 'bulk': how many values and letters a reading holds, each counted each time it is reached (what is shared counts as often as it is met; a slice's spare places count too). A statement '..UptoSaid' is the law's where the arguments, and the package variables that the reading takes, are together of bulk at most 1048576: NARROWER than '..Said'. Prove '..Said' where nothing that the law and all that it calls make is longer than what came in: it says more and counts as full. Else prove '..UptoSaid'. A law counts once. -/
mutual
def uptoBulk {H : Type} : DataW H → Nat
  | .lit (.string bytes) => bytes.length + 1
  | .lit _ => 1
  | .nil => 1
  | .ptr d => uptoBulk d + 1
  | .slice elems spare => uptoBulkAll elems + uptoBulkAll spare + 1
  | .agg parts => uptoBulkAll parts + 1
  | .iface _ d => uptoBulk d + 1
  | .map entries => uptoBulkEntries entries + 1
  | .held _ => 1
def uptoBulkAll {H : Type} : List (DataW H) → Nat
  | [] => 0
  | d :: r => uptoBulk d + uptoBulkAll r
def uptoBulkEntries {H : Type} : List (Lit × DataW H) → Nat
  | [] => 0
  | x :: r => uptoBulkEntry x + uptoBulkEntries r
def uptoBulkEntry {H : Type} : Lit × DataW H → Nat
  | (.string bytes, d) => bytes.length + uptoBulk d + 1
  | (_, d) => uptoBulk d + 1
 end
def uptoSmall : (H : Type) → List (DataW H) → Bool := fun _ ds => decide (uptoBulkAll ds ≤ 1048576)
def OpenSpec.upto (s : _root_.Go.ChangeSpec) : _root_.Go.OpenSpec := { _root_.Go.OpenSpec.ofChange s with cond := some uptoSmall }

/-- 'laws.FnWalshCode', WHERE WHAT IT READS IS OF BULK AT MOST 1048576: true; the input reads as it did. -/
def fnWalshCodeUptoRow : OpenClaim := { program := "ytnnknfpkbhcghaa", sum := "24e150d0cd2d28922b963c7d28f238990dfd958fcbe992fa70971b88f1963ffc", func := "loop.example/softwareradio/laws.FnWalshCode", spec := "fnWalshCode", recurses := true, apart := false, narrowed := true }
def FnWalshCodeUptoSaid : Prop := fnWalshCodeUptoRow.holds Try.pinned (OpenSpec.upto fnWalshCodeSpec)

/-- 'laws.FnSpreadBits', WHERE WHAT IT READS IS OF BULK AT MOST 1048576: true; the input reads as it did. -/
def fnSpreadBitsUptoRow : OpenClaim := { program := "ytnnknfpkbhcghaa", sum := "24e150d0cd2d28922b963c7d28f238990dfd958fcbe992fa70971b88f1963ffc", func := "loop.example/softwareradio/laws.FnSpreadBits", spec := "fnSpreadBits", recurses := true, apart := false, narrowed := true }
def FnSpreadBitsUptoSaid : Prop := fnSpreadBitsUptoRow.holds Try.pinned (OpenSpec.upto fnSpreadBitsSpec)

/-- 'laws.FnAddChips', WHERE WHAT IT READS IS OF BULK AT MOST 1048576: true; the input reads as it did. -/
def fnAddChipsUptoRow : OpenClaim := { program := "ytnnknfpkbhcghaa", sum := "24e150d0cd2d28922b963c7d28f238990dfd958fcbe992fa70971b88f1963ffc", func := "loop.example/softwareradio/laws.FnAddChips", spec := "fnAddChips", apart := false, narrowed := true }
def FnAddChipsUptoSaid : Prop := fnAddChipsUptoRow.holds Try.pinned (OpenSpec.upto fnAddChipsSpec)

/-- 'laws.FnDespreadSums', WHERE WHAT IT READS IS OF BULK AT MOST 1048576: true; the input reads as it did. -/
def fnDespreadSumsUptoRow : OpenClaim := { program := "ytnnknfpkbhcghaa", sum := "24e150d0cd2d28922b963c7d28f238990dfd958fcbe992fa70971b88f1963ffc", func := "loop.example/softwareradio/laws.FnDespreadSums", spec := "fnDespreadSums", apart := false, narrowed := true }
def FnDespreadSumsUptoSaid : Prop := fnDespreadSumsUptoRow.holds Try.pinned (OpenSpec.upto fnDespreadSumsSpec)

/-- 'laws.FnDespreadBits', WHERE WHAT IT READS IS OF BULK AT MOST 1048576: true; the input reads as it did. -/
def fnDespreadBitsUptoRow : OpenClaim := { program := "ytnnknfpkbhcghaa", sum := "24e150d0cd2d28922b963c7d28f238990dfd958fcbe992fa70971b88f1963ffc", func := "loop.example/softwareradio/laws.FnDespreadBits", spec := "fnDespreadBits", apart := false, narrowed := true }
def FnDespreadBitsUptoSaid : Prop := fnDespreadBitsUptoRow.holds Try.pinned (OpenSpec.upto fnDespreadBitsSpec)

/-- 'laws.FnWalshGroup', WHERE WHAT IT READS IS OF BULK AT MOST 1048576: true; the input reads as it did. -/
def fnWalshGroupUptoRow : OpenClaim := { program := "ytnnknfpkbhcghaa", sum := "24e150d0cd2d28922b963c7d28f238990dfd958fcbe992fa70971b88f1963ffc", func := "loop.example/softwareradio/laws.FnWalshGroup", spec := "fnWalshGroup", recurses := true, apart := false, narrowed := true }
def FnWalshGroupUptoSaid : Prop := fnWalshGroupUptoRow.holds Try.pinned (OpenSpec.upto fnWalshGroupSpec)

/-- 'laws.FnExactWalshCode', WHERE WHAT IT READS IS OF BULK AT MOST 1048576: true; the input reads as it did. -/
def fnExactWalshCodeUptoRow : OpenClaim := { program := "ytnnknfpkbhcghaa", sum := "24e150d0cd2d28922b963c7d28f238990dfd958fcbe992fa70971b88f1963ffc", func := "loop.example/softwareradio/laws.FnExactWalshCode", spec := "fnExactWalshCode", recurses := true, apart := false, narrowed := true }
def FnExactWalshCodeUptoSaid : Prop := fnExactWalshCodeUptoRow.holds Try.pinned (OpenSpec.upto fnExactWalshCodeSpec)

/-- 'laws.FnExactSpreadBits', WHERE WHAT IT READS IS OF BULK AT MOST 1048576: true; the input reads as it did. -/
def fnExactSpreadBitsUptoRow : OpenClaim := { program := "ytnnknfpkbhcghaa", sum := "24e150d0cd2d28922b963c7d28f238990dfd958fcbe992fa70971b88f1963ffc", func := "loop.example/softwareradio/laws.FnExactSpreadBits", spec := "fnExactSpreadBits", recurses := true, apart := false, narrowed := true }
def FnExactSpreadBitsUptoSaid : Prop := fnExactSpreadBitsUptoRow.holds Try.pinned (OpenSpec.upto fnExactSpreadBitsSpec)

/-- 'laws.FnExactAddChips', WHERE WHAT IT READS IS OF BULK AT MOST 1048576: true; the input reads as it did. -/
def fnExactAddChipsUptoRow : OpenClaim := { program := "ytnnknfpkbhcghaa", sum := "24e150d0cd2d28922b963c7d28f238990dfd958fcbe992fa70971b88f1963ffc", func := "loop.example/softwareradio/laws.FnExactAddChips", spec := "fnExactAddChips", apart := false, narrowed := true }
def FnExactAddChipsUptoSaid : Prop := fnExactAddChipsUptoRow.holds Try.pinned (OpenSpec.upto fnExactAddChipsSpec)

/-- 'laws.FnExactDespreadSums', WHERE WHAT IT READS IS OF BULK AT MOST 1048576: true; the input reads as it did. -/
def fnExactDespreadSumsUptoRow : OpenClaim := { program := "ytnnknfpkbhcghaa", sum := "24e150d0cd2d28922b963c7d28f238990dfd958fcbe992fa70971b88f1963ffc", func := "loop.example/softwareradio/laws.FnExactDespreadSums", spec := "fnExactDespreadSums", apart := false, narrowed := true }
def FnExactDespreadSumsUptoSaid : Prop := fnExactDespreadSumsUptoRow.holds Try.pinned (OpenSpec.upto fnExactDespreadSumsSpec)

/-- 'laws.FnExactDespreadBits', WHERE WHAT IT READS IS OF BULK AT MOST 1048576: true; the input reads as it did. -/
def fnExactDespreadBitsUptoRow : OpenClaim := { program := "ytnnknfpkbhcghaa", sum := "24e150d0cd2d28922b963c7d28f238990dfd958fcbe992fa70971b88f1963ffc", func := "loop.example/softwareradio/laws.FnExactDespreadBits", spec := "fnExactDespreadBits", apart := false, narrowed := true }
def FnExactDespreadBitsUptoSaid : Prop := fnExactDespreadBitsUptoRow.holds Try.pinned (OpenSpec.upto fnExactDespreadBitsSpec)

end Rows
end Go.Proofs.Ytnnknfpkbhcghaa
