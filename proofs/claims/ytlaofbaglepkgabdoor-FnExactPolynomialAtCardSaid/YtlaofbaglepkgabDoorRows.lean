/-
  NARROWER THAN 'FOR EVERY INPUT', by the rows' own cells (each row's printed sentence says how): FnExactFieldMul: laid · FnExactFieldInverse: laid · FnExactFieldPower: laid · FnExactPolynomialAt: laid.
  DERIVED. THE GIVEN ROWS OF THIS SEAT. 4 by the template 'for every input the law returns true; each argument reads behind the call as it read before'; 0 by the template 'total and deterministic' (their statements: YtlaofbaglepkgabDoorTotals.lean).
  GIVEN WITH THE SEED: the statements are not yours to turn. If you find one false, say at which input.
  Laid BY PROGRAM, IN A SANDBOX (cutbox-rows.mjs): the forced cells as the released guide's own fill.sh prints them over the translation da9955d1e59729ca… (all of the seat's roots in one cut). By AI agents, Wed Nov 11 2026. No macro, syntax, notation, axiom, sorry.
-/
import Derived.Test.YtlaofbaglepkgabDoorChecked
import GoSem.Claim
import GoSem.ClaimJoined
import GoSem.ClaimMapViews
import Derived.JoinedTies
import Derived.KernelRfl
namespace Go.Proofs.YtlaofbaglepkgabDoor
/- THE CELL 'sum', in the pinned program and in every row, IS THE sha256 OF THE DUMP (.gsa) THAT YtlaofbaglepkgabDoorProg.lean LOADS. Nothing in Lean hashes anything: it is a label: what it is worth is what the hold of that sum in a sandbox is worth. -/
noncomputable def Tryd.pinned : Pinned := { name := "ytlaofbaglepkgabdoor", sum := "da9955d1e59729cac06f3aed365c3fb657b52a973ec688900478ed2eff4b7b82", checked := Tryd.checked }
namespace Rows
def none {H : Type} : Left H := { results := [], args := [] }

/- WHAT THE LISTED PACKAGE-LEVEL VARIABLES READ AS WHEN THE CALL BEGINS. Each datum BY PROGRAM (the guide's laid-datum.mjs) off the statement by which the dump's own 'gosem.cut.vars' lays the variable. In a bare row this is a premise. The card (YtlaofbaglepkgabDoorCards.lean) ties it to the program's text. -/
def laid_loop_example_softwareradio_impl_fieldPowers {H : Type} : DataW H := .agg [.lit (.int .i64 1), .lit (.int .i64 2), .lit (.int .i64 4), .lit (.int .i64 8), .lit (.int .i64 3), .lit (.int .i64 6), .lit (.int .i64 12), .lit (.int .i64 11), .lit (.int .i64 5), .lit (.int .i64 10), .lit (.int .i64 7), .lit (.int .i64 14), .lit (.int .i64 15), .lit (.int .i64 13), .lit (.int .i64 9)]
def laid_loop_example_softwareradio_impl_fieldLogarithms {H : Type} : DataW H := .agg [.lit (.int .i64 0), .lit (.int .i64 0), .lit (.int .i64 1), .lit (.int .i64 4), .lit (.int .i64 2), .lit (.int .i64 8), .lit (.int .i64 5), .lit (.int .i64 10), .lit (.int .i64 3), .lit (.int .i64 14), .lit (.int .i64 9), .lit (.int .i64 7), .lit (.int .i64 6), .lit (.int .i64 13), .lit (.int .i64 11), .lit (.int .i64 12)]

/-- 'laws.FnExactFieldMul': WHATEVER THE INPUT: true; the input reads as it did. -/
def fnExactFieldMulSpec : ChangeSpec := { name := "fnExactFieldMul", vars := ["loop.example/softwareradio/impl.fieldLogarithms", "loop.example/softwareradio/impl.fieldPowers"], fn := fun _ => fun
  | [d1, d2, g1, g2] => { results := [.lit (.bool true)], args := [d1, d2], vars := [g1, g2] }
  | _ => none }
def fnExactFieldMulRow : OpenClaim := { program := "ytlaofbaglepkgabdoor", sum := "da9955d1e59729cac06f3aed365c3fb657b52a973ec688900478ed2eff4b7b82", func := "loop.example/softwareradio/laws.FnExactFieldMul", spec := "fnExactFieldMul", named := ["loop.example/softwareradio/impl.fieldLogarithms", "loop.example/softwareradio/impl.fieldPowers"], apart := false, laid := [("loop.example/softwareradio/impl.fieldPowers", laid_loop_example_softwareradio_impl_fieldPowers), ("loop.example/softwareradio/impl.fieldLogarithms", laid_loop_example_softwareradio_impl_fieldLogarithms)] }
def FnExactFieldMulSaid : Prop := fnExactFieldMulRow.holds Tryd.pinned (OpenSpec.ofChange fnExactFieldMulSpec)

/-- ITS FALSE NEIGHBOUR: 'it returns false'. Refute it at one input. -/
def fnExactFieldMulWrong : ChangeSpec := { name := "fnExactFieldMul", vars := ["loop.example/softwareradio/impl.fieldLogarithms", "loop.example/softwareradio/impl.fieldPowers"], fn := fun _ => fun
  | [d1, d2, g1, g2] => { results := [.lit (.bool false)], args := [d1, d2], vars := [g1, g2] }
  | _ => none }
def FnExactFieldMulWrongFalsely : Prop := fnExactFieldMulRow.holds Tryd.pinned (OpenSpec.ofChange fnExactFieldMulWrong)

/-- 'laws.FnExactFieldInverse': WHATEVER THE INPUT: true; the input reads as it did. -/
def fnExactFieldInverseSpec : ChangeSpec := { name := "fnExactFieldInverse", vars := ["loop.example/softwareradio/impl.fieldLogarithms", "loop.example/softwareradio/impl.fieldPowers"], fn := fun _ => fun
  | [d, g1, g2] => { results := [.lit (.bool true)], args := [d], vars := [g1, g2] }
  | _ => none }
def fnExactFieldInverseRow : OpenClaim := { program := "ytlaofbaglepkgabdoor", sum := "da9955d1e59729cac06f3aed365c3fb657b52a973ec688900478ed2eff4b7b82", func := "loop.example/softwareradio/laws.FnExactFieldInverse", spec := "fnExactFieldInverse", named := ["loop.example/softwareradio/impl.fieldLogarithms", "loop.example/softwareradio/impl.fieldPowers"], apart := false, laid := [("loop.example/softwareradio/impl.fieldPowers", laid_loop_example_softwareradio_impl_fieldPowers), ("loop.example/softwareradio/impl.fieldLogarithms", laid_loop_example_softwareradio_impl_fieldLogarithms)] }
def FnExactFieldInverseSaid : Prop := fnExactFieldInverseRow.holds Tryd.pinned (OpenSpec.ofChange fnExactFieldInverseSpec)

/-- ITS FALSE NEIGHBOUR: 'it returns false'. Refute it at one input. -/
def fnExactFieldInverseWrong : ChangeSpec := { name := "fnExactFieldInverse", vars := ["loop.example/softwareradio/impl.fieldLogarithms", "loop.example/softwareradio/impl.fieldPowers"], fn := fun _ => fun
  | [d, g1, g2] => { results := [.lit (.bool false)], args := [d], vars := [g1, g2] }
  | _ => none }
def FnExactFieldInverseWrongFalsely : Prop := fnExactFieldInverseRow.holds Tryd.pinned (OpenSpec.ofChange fnExactFieldInverseWrong)

/-- 'laws.FnExactFieldPower': WHATEVER THE INPUT: true; the input reads as it did. -/
def fnExactFieldPowerSpec : ChangeSpec := { name := "fnExactFieldPower", vars := ["loop.example/softwareradio/impl.fieldLogarithms", "loop.example/softwareradio/impl.fieldPowers"], fn := fun _ => fun
  | [d1, d2, g1, g2] => { results := [.lit (.bool true)], args := [d1, d2], vars := [g1, g2] }
  | _ => none }
def fnExactFieldPowerRow : OpenClaim := { program := "ytlaofbaglepkgabdoor", sum := "da9955d1e59729cac06f3aed365c3fb657b52a973ec688900478ed2eff4b7b82", func := "loop.example/softwareradio/laws.FnExactFieldPower", spec := "fnExactFieldPower", named := ["loop.example/softwareradio/impl.fieldLogarithms", "loop.example/softwareradio/impl.fieldPowers"], apart := false, laid := [("loop.example/softwareradio/impl.fieldPowers", laid_loop_example_softwareradio_impl_fieldPowers), ("loop.example/softwareradio/impl.fieldLogarithms", laid_loop_example_softwareradio_impl_fieldLogarithms)] }
def FnExactFieldPowerSaid : Prop := fnExactFieldPowerRow.holds Tryd.pinned (OpenSpec.ofChange fnExactFieldPowerSpec)

/-- ITS FALSE NEIGHBOUR: 'it returns false'. Refute it at one input. -/
def fnExactFieldPowerWrong : ChangeSpec := { name := "fnExactFieldPower", vars := ["loop.example/softwareradio/impl.fieldLogarithms", "loop.example/softwareradio/impl.fieldPowers"], fn := fun _ => fun
  | [d1, d2, g1, g2] => { results := [.lit (.bool false)], args := [d1, d2], vars := [g1, g2] }
  | _ => none }
def FnExactFieldPowerWrongFalsely : Prop := fnExactFieldPowerRow.holds Tryd.pinned (OpenSpec.ofChange fnExactFieldPowerWrong)

/-- 'laws.FnExactPolynomialAt': WHATEVER THE INPUT: true; the input reads as it did. -/
def fnExactPolynomialAtSpec : ChangeSpec := { name := "fnExactPolynomialAt", vars := ["loop.example/softwareradio/impl.fieldLogarithms", "loop.example/softwareradio/impl.fieldPowers"], fn := fun _ => fun
  | [d1, d2, g1, g2] => { results := [.lit (.bool true)], args := [d1, d2], vars := [g1, g2] }
  | _ => none }
def fnExactPolynomialAtRow : OpenClaim := { program := "ytlaofbaglepkgabdoor", sum := "da9955d1e59729cac06f3aed365c3fb657b52a973ec688900478ed2eff4b7b82", func := "loop.example/softwareradio/laws.FnExactPolynomialAt", spec := "fnExactPolynomialAt", named := ["loop.example/softwareradio/impl.fieldLogarithms", "loop.example/softwareradio/impl.fieldPowers"], apart := false, laid := [("loop.example/softwareradio/impl.fieldPowers", laid_loop_example_softwareradio_impl_fieldPowers), ("loop.example/softwareradio/impl.fieldLogarithms", laid_loop_example_softwareradio_impl_fieldLogarithms)] }
def FnExactPolynomialAtSaid : Prop := fnExactPolynomialAtRow.holds Tryd.pinned (OpenSpec.ofChange fnExactPolynomialAtSpec)

/-- ITS FALSE NEIGHBOUR: 'it returns false'. Refute it at one input. -/
def fnExactPolynomialAtWrong : ChangeSpec := { name := "fnExactPolynomialAt", vars := ["loop.example/softwareradio/impl.fieldLogarithms", "loop.example/softwareradio/impl.fieldPowers"], fn := fun _ => fun
  | [d1, d2, g1, g2] => { results := [.lit (.bool false)], args := [d1, d2], vars := [g1, g2] }
  | _ => none }
def FnExactPolynomialAtWrongFalsely : Prop := fnExactPolynomialAtRow.holds Tryd.pinned (OpenSpec.ofChange fnExactPolynomialAtWrong)

/- THE SECOND FORM. 'bulk': how many values and letters a reading holds, each counted each time it is reached (what is shared counts as often as it is met; a slice's spare places count too). A statement '..UptoSaid' is the law's where the arguments, and the package variables that the reading takes, are together of bulk at most 1048576: NARROWER than '..Said'. Prove '..Said' where nothing that the law and all that it calls make is longer than what came in: it says more and counts as full. Else prove '..UptoSaid'. A law counts once. -/
mutual
def uptoBulk {H : Type} : DataW H → Nat
  | .lit (.string bytes) => bytes.length + 1
  | .lit _ => 1
  | .nil => 1
  | .ptr d => uptoBulk d + 1
  | .slice elems spare => uptoBulkAll elems + uptoBulkAll spare + 1
  | .agg parts => uptoBulkAll parts + 1
  | .iface _ d => uptoBulk d + 1
  | .map entries => uptoBulkEntries entries + 1
  | .held _ => 1
def uptoBulkAll {H : Type} : List (DataW H) → Nat
  | [] => 0
  | d :: r => uptoBulk d + uptoBulkAll r
def uptoBulkEntries {H : Type} : List (Lit × DataW H) → Nat
  | [] => 0
  | x :: r => uptoBulkEntry x + uptoBulkEntries r
def uptoBulkEntry {H : Type} : Lit × DataW H → Nat
  | (.string bytes, d) => bytes.length + uptoBulk d + 1
  | (_, d) => uptoBulk d + 1
 end
def uptoSmall : (H : Type) → List (DataW H) → Bool := fun _ ds => decide (uptoBulkAll ds ≤ 1048576)
def OpenSpec.upto (s : _root_.Go.ChangeSpec) : _root_.Go.OpenSpec := { _root_.Go.OpenSpec.ofChange s with cond := some uptoSmall }

/-- 'laws.FnExactFieldMul', WHERE WHAT IT READS IS OF BULK AT MOST 1048576: true; the input reads as it did. -/
def fnExactFieldMulUptoRow : OpenClaim := { program := "ytlaofbaglepkgabdoor", sum := "da9955d1e59729cac06f3aed365c3fb657b52a973ec688900478ed2eff4b7b82", func := "loop.example/softwareradio/laws.FnExactFieldMul", spec := "fnExactFieldMul", named := ["loop.example/softwareradio/impl.fieldLogarithms", "loop.example/softwareradio/impl.fieldPowers"], apart := false, laid := [("loop.example/softwareradio/impl.fieldPowers", laid_loop_example_softwareradio_impl_fieldPowers), ("loop.example/softwareradio/impl.fieldLogarithms", laid_loop_example_softwareradio_impl_fieldLogarithms)], narrowed := true }
def FnExactFieldMulUptoSaid : Prop := fnExactFieldMulUptoRow.holds Tryd.pinned (OpenSpec.upto fnExactFieldMulSpec)

/-- 'laws.FnExactFieldInverse', WHERE WHAT IT READS IS OF BULK AT MOST 1048576: true; the input reads as it did. -/
def fnExactFieldInverseUptoRow : OpenClaim := { program := "ytlaofbaglepkgabdoor", sum := "da9955d1e59729cac06f3aed365c3fb657b52a973ec688900478ed2eff4b7b82", func := "loop.example/softwareradio/laws.FnExactFieldInverse", spec := "fnExactFieldInverse", named := ["loop.example/softwareradio/impl.fieldLogarithms", "loop.example/softwareradio/impl.fieldPowers"], apart := false, laid := [("loop.example/softwareradio/impl.fieldPowers", laid_loop_example_softwareradio_impl_fieldPowers), ("loop.example/softwareradio/impl.fieldLogarithms", laid_loop_example_softwareradio_impl_fieldLogarithms)], narrowed := true }
def FnExactFieldInverseUptoSaid : Prop := fnExactFieldInverseUptoRow.holds Tryd.pinned (OpenSpec.upto fnExactFieldInverseSpec)

/-- 'laws.FnExactFieldPower', WHERE WHAT IT READS IS OF BULK AT MOST 1048576: true; the input reads as it did. -/
def fnExactFieldPowerUptoRow : OpenClaim := { program := "ytlaofbaglepkgabdoor", sum := "da9955d1e59729cac06f3aed365c3fb657b52a973ec688900478ed2eff4b7b82", func := "loop.example/softwareradio/laws.FnExactFieldPower", spec := "fnExactFieldPower", named := ["loop.example/softwareradio/impl.fieldLogarithms", "loop.example/softwareradio/impl.fieldPowers"], apart := false, laid := [("loop.example/softwareradio/impl.fieldPowers", laid_loop_example_softwareradio_impl_fieldPowers), ("loop.example/softwareradio/impl.fieldLogarithms", laid_loop_example_softwareradio_impl_fieldLogarithms)], narrowed := true }
def FnExactFieldPowerUptoSaid : Prop := fnExactFieldPowerUptoRow.holds Tryd.pinned (OpenSpec.upto fnExactFieldPowerSpec)

/-- 'laws.FnExactPolynomialAt', WHERE WHAT IT READS IS OF BULK AT MOST 1048576: true; the input reads as it did. -/
def fnExactPolynomialAtUptoRow : OpenClaim := { program := "ytlaofbaglepkgabdoor", sum := "da9955d1e59729cac06f3aed365c3fb657b52a973ec688900478ed2eff4b7b82", func := "loop.example/softwareradio/laws.FnExactPolynomialAt", spec := "fnExactPolynomialAt", named := ["loop.example/softwareradio/impl.fieldLogarithms", "loop.example/softwareradio/impl.fieldPowers"], apart := false, laid := [("loop.example/softwareradio/impl.fieldPowers", laid_loop_example_softwareradio_impl_fieldPowers), ("loop.example/softwareradio/impl.fieldLogarithms", laid_loop_example_softwareradio_impl_fieldLogarithms)], narrowed := true }
def FnExactPolynomialAtUptoSaid : Prop := fnExactPolynomialAtUptoRow.holds Tryd.pinned (OpenSpec.upto fnExactPolynomialAtSpec)

end Rows
end Go.Proofs.YtlaofbaglepkgabDoor
