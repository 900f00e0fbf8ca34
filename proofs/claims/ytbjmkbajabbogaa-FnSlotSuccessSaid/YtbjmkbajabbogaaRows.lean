/-
  No cell of these rows narrows 'for every input' (looked for: loops, veiled, ifaces, maps, wideKeys, modest, calm, conditions, laid).
  DERIVED. THE GIVEN ROWS OF THIS SEAT. 9 by the template 'for every input the law returns true; each argument reads behind the call as it read before'; 0 by the template 'total and deterministic' (their statements: YtbjmkbajabbogaaTotals.lean).
  GIVEN WITH THE SEED: the statements are not yours to turn. If you find one false, say at which input.
  Laid BY PROGRAM, IN A SANDBOX (cutbox-rows.mjs): the forced cells as the released guide's own fill.sh prints them over the translation 3ec5c698c3eb94bf… (all of the seat's roots in one cut). By AI agents, Wed Nov 11 2026. No macro, syntax, notation, axiom, sorry.
-/
import Derived.Test.YtbjmkbajabbogaaChecked
import GoSem.Claim
import GoSem.ClaimJoined
import GoSem.ClaimMapViews
import Derived.JoinedTies
import Derived.KernelRfl
namespace Go.Proofs.Ytbjmkbajabbogaa
/- THE CELL 'sum', in the pinned program and in every row, IS THE sha256 OF THE DUMP (.gsa) THAT YtbjmkbajabbogaaProg.lean LOADS. Nothing in Lean hashes anything: it is a label: what it is worth is what the hold of that sum in a sandbox is worth. -/
noncomputable def Try.pinned : Pinned := { name := "ytbjmkbajabbogaa", sum := "3ec5c698c3eb94bfb038aa0c7f921c65ada93417bc2f35cd0b807783529ccd36", checked := Try.checked }
namespace Rows
def none {H : Type} : Left H := { results := [], args := [] }

/-- 'laws.FnSlotSuccess': WHATEVER THE INPUT: true; the input reads as it did. -/
def fnSlotSuccessSpec : ChangeSpec := { name := "fnSlotSuccess", fn := fun _ => fun
  | [d] => { results := [.lit (.bool true)], args := [d] }
  | _ => none }
def fnSlotSuccessRow : OpenClaim := { program := "ytbjmkbajabbogaa", sum := "3ec5c698c3eb94bfb038aa0c7f921c65ada93417bc2f35cd0b807783529ccd36", func := "loop.example/softwareradio/laws.FnSlotSuccess", spec := "fnSlotSuccess", apart := false }
def FnSlotSuccessSaid : Prop := fnSlotSuccessRow.holds Try.pinned (OpenSpec.ofChange fnSlotSuccessSpec)

/-- ITS FALSE NEIGHBOUR: 'it returns false'. Refute it at one input. -/
def fnSlotSuccessWrong : ChangeSpec := { name := "fnSlotSuccess", fn := fun _ => fun
  | [d] => { results := [.lit (.bool false)], args := [d] }
  | _ => none }
def FnSlotSuccessWrongFalsely : Prop := fnSlotSuccessRow.holds Try.pinned (OpenSpec.ofChange fnSlotSuccessWrong)

/-- 'laws.FnNextSeed': WHATEVER THE INPUT: true; the input reads as it did. -/
def fnNextSeedSpec : ChangeSpec := { name := "fnNextSeed", fn := fun _ => fun
  | [d] => { results := [.lit (.bool true)], args := [d] }
  | _ => none }
def fnNextSeedRow : OpenClaim := { program := "ytbjmkbajabbogaa", sum := "3ec5c698c3eb94bfb038aa0c7f921c65ada93417bc2f35cd0b807783529ccd36", func := "loop.example/softwareradio/laws.FnNextSeed", spec := "fnNextSeed", apart := false }
def FnNextSeedSaid : Prop := fnNextSeedRow.holds Try.pinned (OpenSpec.ofChange fnNextSeedSpec)

/-- ITS FALSE NEIGHBOUR: 'it returns false'. Refute it at one input. -/
def fnNextSeedWrong : ChangeSpec := { name := "fnNextSeed", fn := fun _ => fun
  | [d] => { results := [.lit (.bool false)], args := [d] }
  | _ => none }
def FnNextSeedWrongFalsely : Prop := fnNextSeedRow.holds Try.pinned (OpenSpec.ofChange fnNextSeedWrong)

/-- 'laws.FnBackoffSlots': WHATEVER THE INPUT: true; the input reads as it did. -/
def fnBackoffSlotsSpec : ChangeSpec := { name := "fnBackoffSlots", fn := fun _ => fun
  | [d] => { results := [.lit (.bool true)], args := [d] }
  | _ => none }
def fnBackoffSlotsRow : OpenClaim := { program := "ytbjmkbajabbogaa", sum := "3ec5c698c3eb94bfb038aa0c7f921c65ada93417bc2f35cd0b807783529ccd36", func := "loop.example/softwareradio/laws.FnBackoffSlots", spec := "fnBackoffSlots", apart := false }
def FnBackoffSlotsSaid : Prop := fnBackoffSlotsRow.holds Try.pinned (OpenSpec.ofChange fnBackoffSlotsSpec)

/-- ITS FALSE NEIGHBOUR: 'it returns false'. Refute it at one input. -/
def fnBackoffSlotsWrong : ChangeSpec := { name := "fnBackoffSlots", fn := fun _ => fun
  | [d] => { results := [.lit (.bool false)], args := [d] }
  | _ => none }
def FnBackoffSlotsWrongFalsely : Prop := fnBackoffSlotsRow.holds Try.pinned (OpenSpec.ofChange fnBackoffSlotsWrong)

/-- 'laws.FnAccessRun': WHATEVER THE INPUT: true; the input reads as it did. -/
def fnAccessRunSpec : ChangeSpec := { name := "fnAccessRun", fn := fun _ => fun
  | [d] => { results := [.lit (.bool true)], args := [d] }
  | _ => none }
def fnAccessRunRow : OpenClaim := { program := "ytbjmkbajabbogaa", sum := "3ec5c698c3eb94bfb038aa0c7f921c65ada93417bc2f35cd0b807783529ccd36", func := "loop.example/softwareradio/laws.FnAccessRun", spec := "fnAccessRun", unfollowed := true, recurses := true, apart := false }
def FnAccessRunSaid : Prop := fnAccessRunRow.holds Try.pinned (OpenSpec.ofChange fnAccessRunSpec)

/-- ITS FALSE NEIGHBOUR: 'it returns false'. Refute it at one input. -/
def fnAccessRunWrong : ChangeSpec := { name := "fnAccessRun", fn := fun _ => fun
  | [d] => { results := [.lit (.bool false)], args := [d] }
  | _ => none }
def FnAccessRunWrongFalsely : Prop := fnAccessRunRow.holds Try.pinned (OpenSpec.ofChange fnAccessRunWrong)

/-- 'laws.FnAccessOrder': WHATEVER THE INPUT: true; the input reads as it did. -/
def fnAccessOrderSpec : ChangeSpec := { name := "fnAccessOrder", fn := fun _ => fun
  | [d] => { results := [.lit (.bool true)], args := [d] }
  | _ => none }
def fnAccessOrderRow : OpenClaim := { program := "ytbjmkbajabbogaa", sum := "3ec5c698c3eb94bfb038aa0c7f921c65ada93417bc2f35cd0b807783529ccd36", func := "loop.example/softwareradio/laws.FnAccessOrder", spec := "fnAccessOrder", unfollowed := true, recurses := true, apart := false }
def FnAccessOrderSaid : Prop := fnAccessOrderRow.holds Try.pinned (OpenSpec.ofChange fnAccessOrderSpec)

/-- ITS FALSE NEIGHBOUR: 'it returns false'. Refute it at one input. -/
def fnAccessOrderWrong : ChangeSpec := { name := "fnAccessOrder", fn := fun _ => fun
  | [d] => { results := [.lit (.bool false)], args := [d] }
  | _ => none }
def FnAccessOrderWrongFalsely : Prop := fnAccessOrderRow.holds Try.pinned (OpenSpec.ofChange fnAccessOrderWrong)

/-- 'laws.FnExactSlotSuccess': WHATEVER THE INPUT: true; the input reads as it did. -/
def fnExactSlotSuccessSpec : ChangeSpec := { name := "fnExactSlotSuccess", fn := fun _ => fun
  | [d] => { results := [.lit (.bool true)], args := [d] }
  | _ => none }
def fnExactSlotSuccessRow : OpenClaim := { program := "ytbjmkbajabbogaa", sum := "3ec5c698c3eb94bfb038aa0c7f921c65ada93417bc2f35cd0b807783529ccd36", func := "loop.example/softwareradio/laws.FnExactSlotSuccess", spec := "fnExactSlotSuccess", apart := false }
def FnExactSlotSuccessSaid : Prop := fnExactSlotSuccessRow.holds Try.pinned (OpenSpec.ofChange fnExactSlotSuccessSpec)

/-- ITS FALSE NEIGHBOUR: 'it returns false'. Refute it at one input. -/
def fnExactSlotSuccessWrong : ChangeSpec := { name := "fnExactSlotSuccess", fn := fun _ => fun
  | [d] => { results := [.lit (.bool false)], args := [d] }
  | _ => none }
def FnExactSlotSuccessWrongFalsely : Prop := fnExactSlotSuccessRow.holds Try.pinned (OpenSpec.ofChange fnExactSlotSuccessWrong)

/-- 'laws.FnExactNextSeed': WHATEVER THE INPUT: true; the input reads as it did. -/
def fnExactNextSeedSpec : ChangeSpec := { name := "fnExactNextSeed", fn := fun _ => fun
  | [d] => { results := [.lit (.bool true)], args := [d] }
  | _ => none }
def fnExactNextSeedRow : OpenClaim := { program := "ytbjmkbajabbogaa", sum := "3ec5c698c3eb94bfb038aa0c7f921c65ada93417bc2f35cd0b807783529ccd36", func := "loop.example/softwareradio/laws.FnExactNextSeed", spec := "fnExactNextSeed", apart := false }
def FnExactNextSeedSaid : Prop := fnExactNextSeedRow.holds Try.pinned (OpenSpec.ofChange fnExactNextSeedSpec)

/-- ITS FALSE NEIGHBOUR: 'it returns false'. Refute it at one input. -/
def fnExactNextSeedWrong : ChangeSpec := { name := "fnExactNextSeed", fn := fun _ => fun
  | [d] => { results := [.lit (.bool false)], args := [d] }
  | _ => none }
def FnExactNextSeedWrongFalsely : Prop := fnExactNextSeedRow.holds Try.pinned (OpenSpec.ofChange fnExactNextSeedWrong)

/-- 'laws.FnExactBackoffSlots': WHATEVER THE INPUT: true; the input reads as it did. -/
def fnExactBackoffSlotsSpec : ChangeSpec := { name := "fnExactBackoffSlots", fn := fun _ => fun
  | [d1, d2] => { results := [.lit (.bool true)], args := [d1, d2] }
  | _ => none }
def fnExactBackoffSlotsRow : OpenClaim := { program := "ytbjmkbajabbogaa", sum := "3ec5c698c3eb94bfb038aa0c7f921c65ada93417bc2f35cd0b807783529ccd36", func := "loop.example/softwareradio/laws.FnExactBackoffSlots", spec := "fnExactBackoffSlots", apart := false }
def FnExactBackoffSlotsSaid : Prop := fnExactBackoffSlotsRow.holds Try.pinned (OpenSpec.ofChange fnExactBackoffSlotsSpec)

/-- ITS FALSE NEIGHBOUR: 'it returns false'. Refute it at one input. -/
def fnExactBackoffSlotsWrong : ChangeSpec := { name := "fnExactBackoffSlots", fn := fun _ => fun
  | [d1, d2] => { results := [.lit (.bool false)], args := [d1, d2] }
  | _ => none }
def FnExactBackoffSlotsWrongFalsely : Prop := fnExactBackoffSlotsRow.holds Try.pinned (OpenSpec.ofChange fnExactBackoffSlotsWrong)

/-- 'laws.FnExactAccessRun': WHATEVER THE INPUT: true; the input reads as it did. -/
def fnExactAccessRunSpec : ChangeSpec := { name := "fnExactAccessRun", fn := fun _ => fun
  | [d] => { results := [.lit (.bool true)], args := [d] }
  | _ => none }
def fnExactAccessRunRow : OpenClaim := { program := "ytbjmkbajabbogaa", sum := "3ec5c698c3eb94bfb038aa0c7f921c65ada93417bc2f35cd0b807783529ccd36", func := "loop.example/softwareradio/laws.FnExactAccessRun", spec := "fnExactAccessRun", unfollowed := true, recurses := true, apart := false }
def FnExactAccessRunSaid : Prop := fnExactAccessRunRow.holds Try.pinned (OpenSpec.ofChange fnExactAccessRunSpec)

/-- ITS FALSE NEIGHBOUR: 'it returns false'. Refute it at one input. -/
def fnExactAccessRunWrong : ChangeSpec := { name := "fnExactAccessRun", fn := fun _ => fun
  | [d] => { results := [.lit (.bool false)], args := [d] }
  | _ => none }
def FnExactAccessRunWrongFalsely : Prop := fnExactAccessRunRow.holds Try.pinned (OpenSpec.ofChange fnExactAccessRunWrong)

/- THE SECOND FORM. 'bulk': how many values and letters a reading holds, each counted each time it is reached (what is shared counts as often as it is met; a slice's spare places count too). A statement '..UptoSaid' is the law's where the arguments, and the package variables that the reading takes, are together of bulk at most 1048576: NARROWER than '..Said'. Prove '..Said' where nothing that the law and all that it calls make is longer than what came in: it says more and counts as full. Else prove '..UptoSaid'. A law counts once. -/
mutual
def uptoBulk {H : Type} : DataW H → Nat
  | .lit (.string bytes) => bytes.length + 1
  | .lit _ => 1
  | .nil => 1
  | .ptr d => uptoBulk d + 1
  | .slice elems spare => uptoBulkAll elems + uptoBulkAll spare + 1
  | .agg parts => uptoBulkAll parts + 1
  | .iface _ d => uptoBulk d + 1
  | .map entries => uptoBulkEntries entries + 1
  | .held _ => 1
def uptoBulkAll {H : Type} : List (DataW H) → Nat
  | [] => 0
  | d :: r => uptoBulk d + uptoBulkAll r
def uptoBulkEntries {H : Type} : List (Lit × DataW H) → Nat
  | [] => 0
  | x :: r => uptoBulkEntry x + uptoBulkEntries r
def uptoBulkEntry {H : Type} : Lit × DataW H → Nat
  | (.string bytes, d) => bytes.length + uptoBulk d + 1
  | (_, d) => uptoBulk d + 1
 end
def uptoSmall : (H : Type) → List (DataW H) → Bool := fun _ ds => decide (uptoBulkAll ds ≤ 1048576)
def OpenSpec.upto (s : _root_.Go.ChangeSpec) : _root_.Go.OpenSpec := { _root_.Go.OpenSpec.ofChange s with cond := some uptoSmall }

/-- 'laws.FnSlotSuccess', WHERE WHAT IT READS IS OF BULK AT MOST 1048576: true; the input reads as it did. -/
def fnSlotSuccessUptoRow : OpenClaim := { program := "ytbjmkbajabbogaa", sum := "3ec5c698c3eb94bfb038aa0c7f921c65ada93417bc2f35cd0b807783529ccd36", func := "loop.example/softwareradio/laws.FnSlotSuccess", spec := "fnSlotSuccess", apart := false, narrowed := true }
def FnSlotSuccessUptoSaid : Prop := fnSlotSuccessUptoRow.holds Try.pinned (OpenSpec.upto fnSlotSuccessSpec)

/-- 'laws.FnNextSeed', WHERE WHAT IT READS IS OF BULK AT MOST 1048576: true; the input reads as it did. -/
def fnNextSeedUptoRow : OpenClaim := { program := "ytbjmkbajabbogaa", sum := "3ec5c698c3eb94bfb038aa0c7f921c65ada93417bc2f35cd0b807783529ccd36", func := "loop.example/softwareradio/laws.FnNextSeed", spec := "fnNextSeed", apart := false, narrowed := true }
def FnNextSeedUptoSaid : Prop := fnNextSeedUptoRow.holds Try.pinned (OpenSpec.upto fnNextSeedSpec)

/-- 'laws.FnBackoffSlots', WHERE WHAT IT READS IS OF BULK AT MOST 1048576: true; the input reads as it did. -/
def fnBackoffSlotsUptoRow : OpenClaim := { program := "ytbjmkbajabbogaa", sum := "3ec5c698c3eb94bfb038aa0c7f921c65ada93417bc2f35cd0b807783529ccd36", func := "loop.example/softwareradio/laws.FnBackoffSlots", spec := "fnBackoffSlots", apart := false, narrowed := true }
def FnBackoffSlotsUptoSaid : Prop := fnBackoffSlotsUptoRow.holds Try.pinned (OpenSpec.upto fnBackoffSlotsSpec)

/-- 'laws.FnAccessRun', WHERE WHAT IT READS IS OF BULK AT MOST 1048576: true; the input reads as it did. -/
def fnAccessRunUptoRow : OpenClaim := { program := "ytbjmkbajabbogaa", sum := "3ec5c698c3eb94bfb038aa0c7f921c65ada93417bc2f35cd0b807783529ccd36", func := "loop.example/softwareradio/laws.FnAccessRun", spec := "fnAccessRun", unfollowed := true, recurses := true, apart := false, narrowed := true }
def FnAccessRunUptoSaid : Prop := fnAccessRunUptoRow.holds Try.pinned (OpenSpec.upto fnAccessRunSpec)

/-- 'laws.FnAccessOrder', WHERE WHAT IT READS IS OF BULK AT MOST 1048576: true; the input reads as it did. -/
def fnAccessOrderUptoRow : OpenClaim := { program := "ytbjmkbajabbogaa", sum := "3ec5c698c3eb94bfb038aa0c7f921c65ada93417bc2f35cd0b807783529ccd36", func := "loop.example/softwareradio/laws.FnAccessOrder", spec := "fnAccessOrder", unfollowed := true, recurses := true, apart := false, narrowed := true }
def FnAccessOrderUptoSaid : Prop := fnAccessOrderUptoRow.holds Try.pinned (OpenSpec.upto fnAccessOrderSpec)

/-- 'laws.FnExactSlotSuccess', WHERE WHAT IT READS IS OF BULK AT MOST 1048576: true; the input reads as it did. -/
def fnExactSlotSuccessUptoRow : OpenClaim := { program := "ytbjmkbajabbogaa", sum := "3ec5c698c3eb94bfb038aa0c7f921c65ada93417bc2f35cd0b807783529ccd36", func := "loop.example/softwareradio/laws.FnExactSlotSuccess", spec := "fnExactSlotSuccess", apart := false, narrowed := true }
def FnExactSlotSuccessUptoSaid : Prop := fnExactSlotSuccessUptoRow.holds Try.pinned (OpenSpec.upto fnExactSlotSuccessSpec)

/-- 'laws.FnExactNextSeed', WHERE WHAT IT READS IS OF BULK AT MOST 1048576: true; the input reads as it did. -/
def fnExactNextSeedUptoRow : OpenClaim := { program := "ytbjmkbajabbogaa", sum := "3ec5c698c3eb94bfb038aa0c7f921c65ada93417bc2f35cd0b807783529ccd36", func := "loop.example/softwareradio/laws.FnExactNextSeed", spec := "fnExactNextSeed", apart := false, narrowed := true }
def FnExactNextSeedUptoSaid : Prop := fnExactNextSeedUptoRow.holds Try.pinned (OpenSpec.upto fnExactNextSeedSpec)

/-- 'laws.FnExactBackoffSlots', WHERE WHAT IT READS IS OF BULK AT MOST 1048576: true; the input reads as it did. -/
def fnExactBackoffSlotsUptoRow : OpenClaim := { program := "ytbjmkbajabbogaa", sum := "3ec5c698c3eb94bfb038aa0c7f921c65ada93417bc2f35cd0b807783529ccd36", func := "loop.example/softwareradio/laws.FnExactBackoffSlots", spec := "fnExactBackoffSlots", apart := false, narrowed := true }
def FnExactBackoffSlotsUptoSaid : Prop := fnExactBackoffSlotsUptoRow.holds Try.pinned (OpenSpec.upto fnExactBackoffSlotsSpec)

/-- 'laws.FnExactAccessRun', WHERE WHAT IT READS IS OF BULK AT MOST 1048576: true; the input reads as it did. -/
def fnExactAccessRunUptoRow : OpenClaim := { program := "ytbjmkbajabbogaa", sum := "3ec5c698c3eb94bfb038aa0c7f921c65ada93417bc2f35cd0b807783529ccd36", func := "loop.example/softwareradio/laws.FnExactAccessRun", spec := "fnExactAccessRun", unfollowed := true, recurses := true, apart := false, narrowed := true }
def FnExactAccessRunUptoSaid : Prop := fnExactAccessRunUptoRow.holds Try.pinned (OpenSpec.upto fnExactAccessRunSpec)

end Rows
end Go.Proofs.Ytbjmkbajabbogaa
