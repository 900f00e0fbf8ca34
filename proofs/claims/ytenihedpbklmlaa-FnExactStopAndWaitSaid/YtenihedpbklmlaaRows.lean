/-
  No cell of these rows narrows 'for every input' (looked for: loops, veiled, ifaces, maps, wideKeys, modest, calm, conditions, laid).
  DERIVED. THE GIVEN ROWS OF THIS SEAT. 10 by the template 'for every input the law returns true; each argument reads behind the call as it read before'; 0 by the template 'total and deterministic' (their statements: YtenihedpbklmlaaTotals.lean).
  GIVEN WITH THE SEED: the statements are not yours to turn. If you find one false, say at which input.
  Laid BY PROGRAM, IN A SANDBOX (cutbox-rows.mjs): the forced cells as the released guide's own fill.sh prints them over the translation a1c01eac6afd6670… (all of the seat's roots in one cut). By AI agents, Wed Nov 11 2026. No macro, syntax, notation, axiom, sorry.
-/
import Derived.Test.YtenihedpbklmlaaChecked
import GoSem.Claim
import GoSem.ClaimJoined
import GoSem.ClaimMapViews
import Derived.JoinedTies
import Derived.KernelRfl
namespace Go.Proofs.Ytenihedpbklmlaa
/- THE CELL 'sum', in the pinned program and in every row, IS THE sha256 OF THE DUMP (.gsa) THAT YtenihedpbklmlaaProg.lean LOADS. Nothing in Lean hashes anything: it is a label: what it is worth is what the hold of that sum in a sandbox is worth. -/
noncomputable def Try.pinned : Pinned := { name := "ytenihedpbklmlaa", sum := "a1c01eac6afd6670a992701cad840dab3024e2b4935e88a3f220345be5f07448", checked := Try.checked }
namespace Rows
def none {H : Type} : Left H := { results := [], args := [] }

/-- 'laws.FnAccessRun': WHATEVER THE INPUT: true; the input reads as it did. -/
def fnAccessRunSpec : ChangeSpec := { name := "fnAccessRun", fn := fun _ => fun
  | [d] => { results := [.lit (.bool true)], args := [d] }
  | _ => none }
def fnAccessRunRow : OpenClaim := { program := "ytenihedpbklmlaa", sum := "a1c01eac6afd6670a992701cad840dab3024e2b4935e88a3f220345be5f07448", func := "loop.example/softwareradio/laws.FnAccessRun", spec := "fnAccessRun", unfollowed := true, recurses := true, apart := false }
def FnAccessRunSaid : Prop := fnAccessRunRow.holds Try.pinned (OpenSpec.ofChange fnAccessRunSpec)

/-- ITS FALSE NEIGHBOUR: 'it returns false'. Refute it at one input. -/
def fnAccessRunWrong : ChangeSpec := { name := "fnAccessRun", fn := fun _ => fun
  | [d] => { results := [.lit (.bool false)], args := [d] }
  | _ => none }
def FnAccessRunWrongFalsely : Prop := fnAccessRunRow.holds Try.pinned (OpenSpec.ofChange fnAccessRunWrong)

/-- 'laws.FnAccessOrder': WHATEVER THE INPUT: true; the input reads as it did. -/
def fnAccessOrderSpec : ChangeSpec := { name := "fnAccessOrder", fn := fun _ => fun
  | [d] => { results := [.lit (.bool true)], args := [d] }
  | _ => none }
def fnAccessOrderRow : OpenClaim := { program := "ytenihedpbklmlaa", sum := "a1c01eac6afd6670a992701cad840dab3024e2b4935e88a3f220345be5f07448", func := "loop.example/softwareradio/laws.FnAccessOrder", spec := "fnAccessOrder", unfollowed := true, recurses := true, apart := false }
def FnAccessOrderSaid : Prop := fnAccessOrderRow.holds Try.pinned (OpenSpec.ofChange fnAccessOrderSpec)

/-- ITS FALSE NEIGHBOUR: 'it returns false'. Refute it at one input. -/
def fnAccessOrderWrong : ChangeSpec := { name := "fnAccessOrder", fn := fun _ => fun
  | [d] => { results := [.lit (.bool false)], args := [d] }
  | _ => none }
def FnAccessOrderWrongFalsely : Prop := fnAccessOrderRow.holds Try.pinned (OpenSpec.ofChange fnAccessOrderWrong)

/-- 'laws.FnExactAccessRun': WHATEVER THE INPUT: true; the input reads as it did. -/
def fnExactAccessRunSpec : ChangeSpec := { name := "fnExactAccessRun", fn := fun _ => fun
  | [d] => { results := [.lit (.bool true)], args := [d] }
  | _ => none }
def fnExactAccessRunRow : OpenClaim := { program := "ytenihedpbklmlaa", sum := "a1c01eac6afd6670a992701cad840dab3024e2b4935e88a3f220345be5f07448", func := "loop.example/softwareradio/laws.FnExactAccessRun", spec := "fnExactAccessRun", unfollowed := true, recurses := true, apart := false }
def FnExactAccessRunSaid : Prop := fnExactAccessRunRow.holds Try.pinned (OpenSpec.ofChange fnExactAccessRunSpec)

/-- ITS FALSE NEIGHBOUR: 'it returns false'. Refute it at one input. -/
def fnExactAccessRunWrong : ChangeSpec := { name := "fnExactAccessRun", fn := fun _ => fun
  | [d] => { results := [.lit (.bool false)], args := [d] }
  | _ => none }
def FnExactAccessRunWrongFalsely : Prop := fnExactAccessRunRow.holds Try.pinned (OpenSpec.ofChange fnExactAccessRunWrong)

/-- 'laws.FnStopAndWait': WHATEVER THE INPUT: true; the input reads as it did. -/
def fnStopAndWaitSpec : ChangeSpec := { name := "fnStopAndWait", fn := fun _ => fun
  | [d] => { results := [.lit (.bool true)], args := [d] }
  | _ => none }
def fnStopAndWaitRow : OpenClaim := { program := "ytenihedpbklmlaa", sum := "a1c01eac6afd6670a992701cad840dab3024e2b4935e88a3f220345be5f07448", func := "loop.example/softwareradio/laws.FnStopAndWait", spec := "fnStopAndWait", unfollowed := true, recurses := true, apart := false }
def FnStopAndWaitSaid : Prop := fnStopAndWaitRow.holds Try.pinned (OpenSpec.ofChange fnStopAndWaitSpec)

/-- ITS FALSE NEIGHBOUR: 'it returns false'. Refute it at one input. -/
def fnStopAndWaitWrong : ChangeSpec := { name := "fnStopAndWait", fn := fun _ => fun
  | [d] => { results := [.lit (.bool false)], args := [d] }
  | _ => none }
def FnStopAndWaitWrongFalsely : Prop := fnStopAndWaitRow.holds Try.pinned (OpenSpec.ofChange fnStopAndWaitWrong)

/-- 'laws.FnGoBack': WHATEVER THE INPUT: true; the input reads as it did. -/
def fnGoBackSpec : ChangeSpec := { name := "fnGoBack", fn := fun _ => fun
  | [d] => { results := [.lit (.bool true)], args := [d] }
  | _ => none }
def fnGoBackRow : OpenClaim := { program := "ytenihedpbklmlaa", sum := "a1c01eac6afd6670a992701cad840dab3024e2b4935e88a3f220345be5f07448", func := "loop.example/softwareradio/laws.FnGoBack", spec := "fnGoBack", unfollowed := true, recurses := true, apart := false }
def FnGoBackSaid : Prop := fnGoBackRow.holds Try.pinned (OpenSpec.ofChange fnGoBackSpec)

/-- ITS FALSE NEIGHBOUR: 'it returns false'. Refute it at one input. -/
def fnGoBackWrong : ChangeSpec := { name := "fnGoBack", fn := fun _ => fun
  | [d] => { results := [.lit (.bool false)], args := [d] }
  | _ => none }
def FnGoBackWrongFalsely : Prop := fnGoBackRow.holds Try.pinned (OpenSpec.ofChange fnGoBackWrong)

/-- 'laws.FnSelectRepeat': WHATEVER THE INPUT: true; the input reads as it did. -/
def fnSelectRepeatSpec : ChangeSpec := { name := "fnSelectRepeat", fn := fun _ => fun
  | [d] => { results := [.lit (.bool true)], args := [d] }
  | _ => none }
def fnSelectRepeatRow : OpenClaim := { program := "ytenihedpbklmlaa", sum := "a1c01eac6afd6670a992701cad840dab3024e2b4935e88a3f220345be5f07448", func := "loop.example/softwareradio/laws.FnSelectRepeat", spec := "fnSelectRepeat", unfollowed := true, recurses := true, apart := false }
def FnSelectRepeatSaid : Prop := fnSelectRepeatRow.holds Try.pinned (OpenSpec.ofChange fnSelectRepeatSpec)

/-- ITS FALSE NEIGHBOUR: 'it returns false'. Refute it at one input. -/
def fnSelectRepeatWrong : ChangeSpec := { name := "fnSelectRepeat", fn := fun _ => fun
  | [d] => { results := [.lit (.bool false)], args := [d] }
  | _ => none }
def FnSelectRepeatWrongFalsely : Prop := fnSelectRepeatRow.holds Try.pinned (OpenSpec.ofChange fnSelectRepeatWrong)

/-- 'laws.FnGoSelect': WHATEVER THE INPUT: true; the input reads as it did. -/
def fnGoSelectSpec : ChangeSpec := { name := "fnGoSelect", fn := fun _ => fun
  | [d] => { results := [.lit (.bool true)], args := [d] }
  | _ => none }
def fnGoSelectRow : OpenClaim := { program := "ytenihedpbklmlaa", sum := "a1c01eac6afd6670a992701cad840dab3024e2b4935e88a3f220345be5f07448", func := "loop.example/softwareradio/laws.FnGoSelect", spec := "fnGoSelect", unfollowed := true, recurses := true, apart := false }
def FnGoSelectSaid : Prop := fnGoSelectRow.holds Try.pinned (OpenSpec.ofChange fnGoSelectSpec)

/-- ITS FALSE NEIGHBOUR: 'it returns false'. Refute it at one input. -/
def fnGoSelectWrong : ChangeSpec := { name := "fnGoSelect", fn := fun _ => fun
  | [d] => { results := [.lit (.bool false)], args := [d] }
  | _ => none }
def FnGoSelectWrongFalsely : Prop := fnGoSelectRow.holds Try.pinned (OpenSpec.ofChange fnGoSelectWrong)

/-- 'laws.FnExactStopAndWait': WHATEVER THE INPUT: true; the input reads as it did. -/
def fnExactStopAndWaitSpec : ChangeSpec := { name := "fnExactStopAndWait", fn := fun _ => fun
  | [d1, d2, d3] => { results := [.lit (.bool true)], args := [d1, d2, d3] }
  | _ => none }
def fnExactStopAndWaitRow : OpenClaim := { program := "ytenihedpbklmlaa", sum := "a1c01eac6afd6670a992701cad840dab3024e2b4935e88a3f220345be5f07448", func := "loop.example/softwareradio/laws.FnExactStopAndWait", spec := "fnExactStopAndWait", unfollowed := true, recurses := true, apart := false }
def FnExactStopAndWaitSaid : Prop := fnExactStopAndWaitRow.holds Try.pinned (OpenSpec.ofChange fnExactStopAndWaitSpec)

/-- ITS FALSE NEIGHBOUR: 'it returns false'. Refute it at one input. -/
def fnExactStopAndWaitWrong : ChangeSpec := { name := "fnExactStopAndWait", fn := fun _ => fun
  | [d1, d2, d3] => { results := [.lit (.bool false)], args := [d1, d2, d3] }
  | _ => none }
def FnExactStopAndWaitWrongFalsely : Prop := fnExactStopAndWaitRow.holds Try.pinned (OpenSpec.ofChange fnExactStopAndWaitWrong)

/-- 'laws.FnExactGoBack': WHATEVER THE INPUT: true; the input reads as it did. -/
def fnExactGoBackSpec : ChangeSpec := { name := "fnExactGoBack", fn := fun _ => fun
  | [d1, d2, d3] => { results := [.lit (.bool true)], args := [d1, d2, d3] }
  | _ => none }
def fnExactGoBackRow : OpenClaim := { program := "ytenihedpbklmlaa", sum := "a1c01eac6afd6670a992701cad840dab3024e2b4935e88a3f220345be5f07448", func := "loop.example/softwareradio/laws.FnExactGoBack", spec := "fnExactGoBack", unfollowed := true, recurses := true, apart := false }
def FnExactGoBackSaid : Prop := fnExactGoBackRow.holds Try.pinned (OpenSpec.ofChange fnExactGoBackSpec)

/-- ITS FALSE NEIGHBOUR: 'it returns false'. Refute it at one input. -/
def fnExactGoBackWrong : ChangeSpec := { name := "fnExactGoBack", fn := fun _ => fun
  | [d1, d2, d3] => { results := [.lit (.bool false)], args := [d1, d2, d3] }
  | _ => none }
def FnExactGoBackWrongFalsely : Prop := fnExactGoBackRow.holds Try.pinned (OpenSpec.ofChange fnExactGoBackWrong)

/-- 'laws.FnExactSelectRepeat': WHATEVER THE INPUT: true; the input reads as it did. -/
def fnExactSelectRepeatSpec : ChangeSpec := { name := "fnExactSelectRepeat", fn := fun _ => fun
  | [d1, d2, d3] => { results := [.lit (.bool true)], args := [d1, d2, d3] }
  | _ => none }
def fnExactSelectRepeatRow : OpenClaim := { program := "ytenihedpbklmlaa", sum := "a1c01eac6afd6670a992701cad840dab3024e2b4935e88a3f220345be5f07448", func := "loop.example/softwareradio/laws.FnExactSelectRepeat", spec := "fnExactSelectRepeat", unfollowed := true, recurses := true, apart := false }
def FnExactSelectRepeatSaid : Prop := fnExactSelectRepeatRow.holds Try.pinned (OpenSpec.ofChange fnExactSelectRepeatSpec)

/-- ITS FALSE NEIGHBOUR: 'it returns false'. Refute it at one input. -/
def fnExactSelectRepeatWrong : ChangeSpec := { name := "fnExactSelectRepeat", fn := fun _ => fun
  | [d1, d2, d3] => { results := [.lit (.bool false)], args := [d1, d2, d3] }
  | _ => none }
def FnExactSelectRepeatWrongFalsely : Prop := fnExactSelectRepeatRow.holds Try.pinned (OpenSpec.ofChange fnExactSelectRepeatWrong)

/- THE SECOND FORM. 'bulk': how many values and letters a reading holds, each counted each time it is reached (what is shared counts as often as it is met; a slice's spare places count too). A statement '..UptoSaid' is the law's where the arguments, and the package variables that the reading takes, are together of bulk at most 1048576: NARROWER than '..Said'. Prove '..Said' where nothing that the law and all that it calls make is longer than what came in: it says more and counts as full. Else prove '..UptoSaid'. A law counts once. -/
mutual
def uptoBulk {H : Type} : DataW H → Nat
  | .lit (.string bytes) => bytes.length + 1
  | .lit _ => 1
  | .nil => 1
  | .ptr d => uptoBulk d + 1
  | .slice elems spare => uptoBulkAll elems + uptoBulkAll spare + 1
  | .agg parts => uptoBulkAll parts + 1
  | .iface _ d => uptoBulk d + 1
  | .map entries => uptoBulkEntries entries + 1
  | .held _ => 1
def uptoBulkAll {H : Type} : List (DataW H) → Nat
  | [] => 0
  | d :: r => uptoBulk d + uptoBulkAll r
def uptoBulkEntries {H : Type} : List (Lit × DataW H) → Nat
  | [] => 0
  | x :: r => uptoBulkEntry x + uptoBulkEntries r
def uptoBulkEntry {H : Type} : Lit × DataW H → Nat
  | (.string bytes, d) => bytes.length + uptoBulk d + 1
  | (_, d) => uptoBulk d + 1
 end
def uptoSmall : (H : Type) → List (DataW H) → Bool := fun _ ds => decide (uptoBulkAll ds ≤ 1048576)
def OpenSpec.upto (s : _root_.Go.ChangeSpec) : _root_.Go.OpenSpec := { _root_.Go.OpenSpec.ofChange s with cond := some uptoSmall }

/-- 'laws.FnAccessRun', WHERE WHAT IT READS IS OF BULK AT MOST 1048576: true; the input reads as it did. -/
def fnAccessRunUptoRow : OpenClaim := { program := "ytenihedpbklmlaa", sum := "a1c01eac6afd6670a992701cad840dab3024e2b4935e88a3f220345be5f07448", func := "loop.example/softwareradio/laws.FnAccessRun", spec := "fnAccessRun", unfollowed := true, recurses := true, apart := false, narrowed := true }
def FnAccessRunUptoSaid : Prop := fnAccessRunUptoRow.holds Try.pinned (OpenSpec.upto fnAccessRunSpec)

/-- 'laws.FnAccessOrder', WHERE WHAT IT READS IS OF BULK AT MOST 1048576: true; the input reads as it did. -/
def fnAccessOrderUptoRow : OpenClaim := { program := "ytenihedpbklmlaa", sum := "a1c01eac6afd6670a992701cad840dab3024e2b4935e88a3f220345be5f07448", func := "loop.example/softwareradio/laws.FnAccessOrder", spec := "fnAccessOrder", unfollowed := true, recurses := true, apart := false, narrowed := true }
def FnAccessOrderUptoSaid : Prop := fnAccessOrderUptoRow.holds Try.pinned (OpenSpec.upto fnAccessOrderSpec)

/-- 'laws.FnExactAccessRun', WHERE WHAT IT READS IS OF BULK AT MOST 1048576: true; the input reads as it did. -/
def fnExactAccessRunUptoRow : OpenClaim := { program := "ytenihedpbklmlaa", sum := "a1c01eac6afd6670a992701cad840dab3024e2b4935e88a3f220345be5f07448", func := "loop.example/softwareradio/laws.FnExactAccessRun", spec := "fnExactAccessRun", unfollowed := true, recurses := true, apart := false, narrowed := true }
def FnExactAccessRunUptoSaid : Prop := fnExactAccessRunUptoRow.holds Try.pinned (OpenSpec.upto fnExactAccessRunSpec)

/-- 'laws.FnStopAndWait', WHERE WHAT IT READS IS OF BULK AT MOST 1048576: true; the input reads as it did. -/
def fnStopAndWaitUptoRow : OpenClaim := { program := "ytenihedpbklmlaa", sum := "a1c01eac6afd6670a992701cad840dab3024e2b4935e88a3f220345be5f07448", func := "loop.example/softwareradio/laws.FnStopAndWait", spec := "fnStopAndWait", unfollowed := true, recurses := true, apart := false, narrowed := true }
def FnStopAndWaitUptoSaid : Prop := fnStopAndWaitUptoRow.holds Try.pinned (OpenSpec.upto fnStopAndWaitSpec)

/-- 'laws.FnGoBack', WHERE WHAT IT READS IS OF BULK AT MOST 1048576: true; the input reads as it did. -/
def fnGoBackUptoRow : OpenClaim := { program := "ytenihedpbklmlaa", sum := "a1c01eac6afd6670a992701cad840dab3024e2b4935e88a3f220345be5f07448", func := "loop.example/softwareradio/laws.FnGoBack", spec := "fnGoBack", unfollowed := true, recurses := true, apart := false, narrowed := true }
def FnGoBackUptoSaid : Prop := fnGoBackUptoRow.holds Try.pinned (OpenSpec.upto fnGoBackSpec)

/-- 'laws.FnSelectRepeat', WHERE WHAT IT READS IS OF BULK AT MOST 1048576: true; the input reads as it did. -/
def fnSelectRepeatUptoRow : OpenClaim := { program := "ytenihedpbklmlaa", sum := "a1c01eac6afd6670a992701cad840dab3024e2b4935e88a3f220345be5f07448", func := "loop.example/softwareradio/laws.FnSelectRepeat", spec := "fnSelectRepeat", unfollowed := true, recurses := true, apart := false, narrowed := true }
def FnSelectRepeatUptoSaid : Prop := fnSelectRepeatUptoRow.holds Try.pinned (OpenSpec.upto fnSelectRepeatSpec)

/-- 'laws.FnGoSelect', WHERE WHAT IT READS IS OF BULK AT MOST 1048576: true; the input reads as it did. -/
def fnGoSelectUptoRow : OpenClaim := { program := "ytenihedpbklmlaa", sum := "a1c01eac6afd6670a992701cad840dab3024e2b4935e88a3f220345be5f07448", func := "loop.example/softwareradio/laws.FnGoSelect", spec := "fnGoSelect", unfollowed := true, recurses := true, apart := false, narrowed := true }
def FnGoSelectUptoSaid : Prop := fnGoSelectUptoRow.holds Try.pinned (OpenSpec.upto fnGoSelectSpec)

/-- 'laws.FnExactStopAndWait', WHERE WHAT IT READS IS OF BULK AT MOST 1048576: true; the input reads as it did. -/
def fnExactStopAndWaitUptoRow : OpenClaim := { program := "ytenihedpbklmlaa", sum := "a1c01eac6afd6670a992701cad840dab3024e2b4935e88a3f220345be5f07448", func := "loop.example/softwareradio/laws.FnExactStopAndWait", spec := "fnExactStopAndWait", unfollowed := true, recurses := true, apart := false, narrowed := true }
def FnExactStopAndWaitUptoSaid : Prop := fnExactStopAndWaitUptoRow.holds Try.pinned (OpenSpec.upto fnExactStopAndWaitSpec)

/-- 'laws.FnExactGoBack', WHERE WHAT IT READS IS OF BULK AT MOST 1048576: true; the input reads as it did. -/
def fnExactGoBackUptoRow : OpenClaim := { program := "ytenihedpbklmlaa", sum := "a1c01eac6afd6670a992701cad840dab3024e2b4935e88a3f220345be5f07448", func := "loop.example/softwareradio/laws.FnExactGoBack", spec := "fnExactGoBack", unfollowed := true, recurses := true, apart := false, narrowed := true }
def FnExactGoBackUptoSaid : Prop := fnExactGoBackUptoRow.holds Try.pinned (OpenSpec.upto fnExactGoBackSpec)

/-- 'laws.FnExactSelectRepeat', WHERE WHAT IT READS IS OF BULK AT MOST 1048576: true; the input reads as it did. -/
def fnExactSelectRepeatUptoRow : OpenClaim := { program := "ytenihedpbklmlaa", sum := "a1c01eac6afd6670a992701cad840dab3024e2b4935e88a3f220345be5f07448", func := "loop.example/softwareradio/laws.FnExactSelectRepeat", spec := "fnExactSelectRepeat", unfollowed := true, recurses := true, apart := false, narrowed := true }
def FnExactSelectRepeatUptoSaid : Prop := fnExactSelectRepeatUptoRow.holds Try.pinned (OpenSpec.upto fnExactSelectRepeatSpec)

end Rows
end Go.Proofs.Ytenihedpbklmlaa
