/-
  NARROWER THAN 'FOR EVERY INPUT', by the rows' own cells (each row's printed sentence says how): FnFieldMul: laid · FnFieldInverse: laid · FnFieldPower: laid · FnPolynomialAt: laid · FnFieldPolynomial: laid · FnFieldSquare: laid · FnFieldGenerator: laid.
  DERIVED. THE GIVEN ROWS OF THIS SEAT. 7 by the template 'for every input the law returns true; each argument reads behind the call as it read before'; 0 by the template 'total and deterministic' (their statements: YtlaofbaglepkgaaDoorTotals.lean).
  GIVEN WITH THE SEED: the statements are not yours to turn. If you find one false, say at which input.
  Laid BY PROGRAM, IN A SANDBOX (cutbox-rows.mjs): the forced cells as the released guide's own fill.sh prints them over the translation af469b74707839af… (all of the seat's roots in one cut). By AI agents, Wed Nov 11 2026. No macro, syntax, notation, axiom, sorry.
-/
import Derived.Test.YtlaofbaglepkgaaDoorChecked
import GoSem.Claim
import GoSem.ClaimJoined
import GoSem.ClaimMapViews
import Derived.JoinedTies
import Derived.KernelRfl
namespace Go.Proofs.YtlaofbaglepkgaaDoor
/- THE CELL 'sum', in the pinned program and in every row, IS THE sha256 OF THE DUMP (.gsa) THAT YtlaofbaglepkgaaDoorProg.lean LOADS. Nothing in Lean hashes anything: it is a label: what it is worth is what the hold of that sum in a sandbox is worth. -/
noncomputable def Tryd.pinned : Pinned := { name := "ytlaofbaglepkgaadoor", sum := "af469b74707839afee974488f4bf422ffaded8b9ad964348813c851ebdc77162", checked := Tryd.checked }
namespace Rows
def none {H : Type} : Left H := { results := [], args := [] }

/- WHAT THE LISTED PACKAGE-LEVEL VARIABLES READ AS WHEN THE CALL BEGINS. Each datum BY PROGRAM (the guide's laid-datum.mjs) off the statement by which the dump's own 'gosem.cut.vars' lays the variable. In a bare row this is a premise. The card (YtlaofbaglepkgaaDoorCards.lean) ties it to the program's text. -/
def laid_loop_example_softwareradio_impl_fieldPowers {H : Type} : DataW H := .agg [.lit (.int .i64 1), .lit (.int .i64 2), .lit (.int .i64 4), .lit (.int .i64 8), .lit (.int .i64 3), .lit (.int .i64 6), .lit (.int .i64 12), .lit (.int .i64 11), .lit (.int .i64 5), .lit (.int .i64 10), .lit (.int .i64 7), .lit (.int .i64 14), .lit (.int .i64 15), .lit (.int .i64 13), .lit (.int .i64 9)]
def laid_loop_example_softwareradio_impl_fieldLogarithms {H : Type} : DataW H := .agg [.lit (.int .i64 0), .lit (.int .i64 0), .lit (.int .i64 1), .lit (.int .i64 4), .lit (.int .i64 2), .lit (.int .i64 8), .lit (.int .i64 5), .lit (.int .i64 10), .lit (.int .i64 3), .lit (.int .i64 14), .lit (.int .i64 9), .lit (.int .i64 7), .lit (.int .i64 6), .lit (.int .i64 13), .lit (.int .i64 11), .lit (.int .i64 12)]

/-- 'laws.FnFieldMul': WHATEVER THE INPUT: true; the input reads as it did. -/
def fnFieldMulSpec : ChangeSpec := { name := "fnFieldMul", vars := ["loop.example/softwareradio/impl.fieldLogarithms", "loop.example/softwareradio/impl.fieldPowers"], fn := fun _ => fun
  | [d, g1, g2] => { results := [.lit (.bool true)], args := [d], vars := [g1, g2] }
  | _ => none }
def fnFieldMulRow : OpenClaim := { program := "ytlaofbaglepkgaadoor", sum := "af469b74707839afee974488f4bf422ffaded8b9ad964348813c851ebdc77162", func := "loop.example/softwareradio/laws.FnFieldMul", spec := "fnFieldMul", named := ["loop.example/softwareradio/impl.fieldLogarithms", "loop.example/softwareradio/impl.fieldPowers"], apart := false, laid := [("loop.example/softwareradio/impl.fieldPowers", laid_loop_example_softwareradio_impl_fieldPowers), ("loop.example/softwareradio/impl.fieldLogarithms", laid_loop_example_softwareradio_impl_fieldLogarithms)] }
def FnFieldMulSaid : Prop := fnFieldMulRow.holds Tryd.pinned (OpenSpec.ofChange fnFieldMulSpec)

/-- ITS FALSE NEIGHBOUR: 'it returns false'. Refute it at one input. -/
def fnFieldMulWrong : ChangeSpec := { name := "fnFieldMul", vars := ["loop.example/softwareradio/impl.fieldLogarithms", "loop.example/softwareradio/impl.fieldPowers"], fn := fun _ => fun
  | [d, g1, g2] => { results := [.lit (.bool false)], args := [d], vars := [g1, g2] }
  | _ => none }
def FnFieldMulWrongFalsely : Prop := fnFieldMulRow.holds Tryd.pinned (OpenSpec.ofChange fnFieldMulWrong)

/-- 'laws.FnFieldInverse': WHATEVER THE INPUT: true; the input reads as it did. -/
def fnFieldInverseSpec : ChangeSpec := { name := "fnFieldInverse", vars := ["loop.example/softwareradio/impl.fieldLogarithms", "loop.example/softwareradio/impl.fieldPowers"], fn := fun _ => fun
  | [d, g1, g2] => { results := [.lit (.bool true)], args := [d], vars := [g1, g2] }
  | _ => none }
def fnFieldInverseRow : OpenClaim := { program := "ytlaofbaglepkgaadoor", sum := "af469b74707839afee974488f4bf422ffaded8b9ad964348813c851ebdc77162", func := "loop.example/softwareradio/laws.FnFieldInverse", spec := "fnFieldInverse", named := ["loop.example/softwareradio/impl.fieldLogarithms", "loop.example/softwareradio/impl.fieldPowers"], apart := false, laid := [("loop.example/softwareradio/impl.fieldPowers", laid_loop_example_softwareradio_impl_fieldPowers), ("loop.example/softwareradio/impl.fieldLogarithms", laid_loop_example_softwareradio_impl_fieldLogarithms)] }
def FnFieldInverseSaid : Prop := fnFieldInverseRow.holds Tryd.pinned (OpenSpec.ofChange fnFieldInverseSpec)

/-- ITS FALSE NEIGHBOUR: 'it returns false'. Refute it at one input. -/
def fnFieldInverseWrong : ChangeSpec := { name := "fnFieldInverse", vars := ["loop.example/softwareradio/impl.fieldLogarithms", "loop.example/softwareradio/impl.fieldPowers"], fn := fun _ => fun
  | [d, g1, g2] => { results := [.lit (.bool false)], args := [d], vars := [g1, g2] }
  | _ => none }
def FnFieldInverseWrongFalsely : Prop := fnFieldInverseRow.holds Tryd.pinned (OpenSpec.ofChange fnFieldInverseWrong)

/-- 'laws.FnFieldPower': WHATEVER THE INPUT: true; the input reads as it did. -/
def fnFieldPowerSpec : ChangeSpec := { name := "fnFieldPower", vars := ["loop.example/softwareradio/impl.fieldLogarithms", "loop.example/softwareradio/impl.fieldPowers"], fn := fun _ => fun
  | [d, g1, g2] => { results := [.lit (.bool true)], args := [d], vars := [g1, g2] }
  | _ => none }
def fnFieldPowerRow : OpenClaim := { program := "ytlaofbaglepkgaadoor", sum := "af469b74707839afee974488f4bf422ffaded8b9ad964348813c851ebdc77162", func := "loop.example/softwareradio/laws.FnFieldPower", spec := "fnFieldPower", named := ["loop.example/softwareradio/impl.fieldLogarithms", "loop.example/softwareradio/impl.fieldPowers"], apart := false, laid := [("loop.example/softwareradio/impl.fieldPowers", laid_loop_example_softwareradio_impl_fieldPowers), ("loop.example/softwareradio/impl.fieldLogarithms", laid_loop_example_softwareradio_impl_fieldLogarithms)] }
def FnFieldPowerSaid : Prop := fnFieldPowerRow.holds Tryd.pinned (OpenSpec.ofChange fnFieldPowerSpec)

/-- ITS FALSE NEIGHBOUR: 'it returns false'. Refute it at one input. -/
def fnFieldPowerWrong : ChangeSpec := { name := "fnFieldPower", vars := ["loop.example/softwareradio/impl.fieldLogarithms", "loop.example/softwareradio/impl.fieldPowers"], fn := fun _ => fun
  | [d, g1, g2] => { results := [.lit (.bool false)], args := [d], vars := [g1, g2] }
  | _ => none }
def FnFieldPowerWrongFalsely : Prop := fnFieldPowerRow.holds Tryd.pinned (OpenSpec.ofChange fnFieldPowerWrong)

/-- 'laws.FnPolynomialAt': WHATEVER THE INPUT: true; the input reads as it did. -/
def fnPolynomialAtSpec : ChangeSpec := { name := "fnPolynomialAt", vars := ["loop.example/softwareradio/impl.fieldLogarithms", "loop.example/softwareradio/impl.fieldPowers"], fn := fun _ => fun
  | [d, g1, g2] => { results := [.lit (.bool true)], args := [d], vars := [g1, g2] }
  | _ => none }
def fnPolynomialAtRow : OpenClaim := { program := "ytlaofbaglepkgaadoor", sum := "af469b74707839afee974488f4bf422ffaded8b9ad964348813c851ebdc77162", func := "loop.example/softwareradio/laws.FnPolynomialAt", spec := "fnPolynomialAt", named := ["loop.example/softwareradio/impl.fieldLogarithms", "loop.example/softwareradio/impl.fieldPowers"], apart := false, laid := [("loop.example/softwareradio/impl.fieldPowers", laid_loop_example_softwareradio_impl_fieldPowers), ("loop.example/softwareradio/impl.fieldLogarithms", laid_loop_example_softwareradio_impl_fieldLogarithms)] }
def FnPolynomialAtSaid : Prop := fnPolynomialAtRow.holds Tryd.pinned (OpenSpec.ofChange fnPolynomialAtSpec)

/-- ITS FALSE NEIGHBOUR: 'it returns false'. Refute it at one input. -/
def fnPolynomialAtWrong : ChangeSpec := { name := "fnPolynomialAt", vars := ["loop.example/softwareradio/impl.fieldLogarithms", "loop.example/softwareradio/impl.fieldPowers"], fn := fun _ => fun
  | [d, g1, g2] => { results := [.lit (.bool false)], args := [d], vars := [g1, g2] }
  | _ => none }
def FnPolynomialAtWrongFalsely : Prop := fnPolynomialAtRow.holds Tryd.pinned (OpenSpec.ofChange fnPolynomialAtWrong)

/-- 'laws.FnFieldPolynomial': WHATEVER THE INPUT: true; the input reads as it did. -/
def fnFieldPolynomialSpec : ChangeSpec := { name := "fnFieldPolynomial", vars := ["loop.example/softwareradio/impl.fieldLogarithms", "loop.example/softwareradio/impl.fieldPowers"], fn := fun _ => fun
  | [d, g1, g2] => { results := [.lit (.bool true)], args := [d], vars := [g1, g2] }
  | _ => none }
def fnFieldPolynomialRow : OpenClaim := { program := "ytlaofbaglepkgaadoor", sum := "af469b74707839afee974488f4bf422ffaded8b9ad964348813c851ebdc77162", func := "loop.example/softwareradio/laws.FnFieldPolynomial", spec := "fnFieldPolynomial", named := ["loop.example/softwareradio/impl.fieldLogarithms", "loop.example/softwareradio/impl.fieldPowers"], apart := false, laid := [("loop.example/softwareradio/impl.fieldPowers", laid_loop_example_softwareradio_impl_fieldPowers), ("loop.example/softwareradio/impl.fieldLogarithms", laid_loop_example_softwareradio_impl_fieldLogarithms)] }
def FnFieldPolynomialSaid : Prop := fnFieldPolynomialRow.holds Tryd.pinned (OpenSpec.ofChange fnFieldPolynomialSpec)

/-- ITS FALSE NEIGHBOUR: 'it returns false'. Refute it at one input. -/
def fnFieldPolynomialWrong : ChangeSpec := { name := "fnFieldPolynomial", vars := ["loop.example/softwareradio/impl.fieldLogarithms", "loop.example/softwareradio/impl.fieldPowers"], fn := fun _ => fun
  | [d, g1, g2] => { results := [.lit (.bool false)], args := [d], vars := [g1, g2] }
  | _ => none }
def FnFieldPolynomialWrongFalsely : Prop := fnFieldPolynomialRow.holds Tryd.pinned (OpenSpec.ofChange fnFieldPolynomialWrong)

/-- 'laws.FnFieldSquare': WHATEVER THE INPUT: true; the input reads as it did. -/
def fnFieldSquareSpec : ChangeSpec := { name := "fnFieldSquare", vars := ["loop.example/softwareradio/impl.fieldLogarithms", "loop.example/softwareradio/impl.fieldPowers"], fn := fun _ => fun
  | [d, g1, g2] => { results := [.lit (.bool true)], args := [d], vars := [g1, g2] }
  | _ => none }
def fnFieldSquareRow : OpenClaim := { program := "ytlaofbaglepkgaadoor", sum := "af469b74707839afee974488f4bf422ffaded8b9ad964348813c851ebdc77162", func := "loop.example/softwareradio/laws.FnFieldSquare", spec := "fnFieldSquare", named := ["loop.example/softwareradio/impl.fieldLogarithms", "loop.example/softwareradio/impl.fieldPowers"], apart := false, laid := [("loop.example/softwareradio/impl.fieldPowers", laid_loop_example_softwareradio_impl_fieldPowers), ("loop.example/softwareradio/impl.fieldLogarithms", laid_loop_example_softwareradio_impl_fieldLogarithms)] }
def FnFieldSquareSaid : Prop := fnFieldSquareRow.holds Tryd.pinned (OpenSpec.ofChange fnFieldSquareSpec)

/-- ITS FALSE NEIGHBOUR: 'it returns false'. Refute it at one input. -/
def fnFieldSquareWrong : ChangeSpec := { name := "fnFieldSquare", vars := ["loop.example/softwareradio/impl.fieldLogarithms", "loop.example/softwareradio/impl.fieldPowers"], fn := fun _ => fun
  | [d, g1, g2] => { results := [.lit (.bool false)], args := [d], vars := [g1, g2] }
  | _ => none }
def FnFieldSquareWrongFalsely : Prop := fnFieldSquareRow.holds Tryd.pinned (OpenSpec.ofChange fnFieldSquareWrong)

/-- 'laws.FnFieldGenerator': WHATEVER THE INPUT: true; the input reads as it did. -/
def fnFieldGeneratorSpec : ChangeSpec := { name := "fnFieldGenerator", vars := ["loop.example/softwareradio/impl.fieldLogarithms", "loop.example/softwareradio/impl.fieldPowers"], fn := fun _ => fun
  | [d, g1, g2] => { results := [.lit (.bool true)], args := [d], vars := [g1, g2] }
  | _ => none }
def fnFieldGeneratorRow : OpenClaim := { program := "ytlaofbaglepkgaadoor", sum := "af469b74707839afee974488f4bf422ffaded8b9ad964348813c851ebdc77162", func := "loop.example/softwareradio/laws.FnFieldGenerator", spec := "fnFieldGenerator", named := ["loop.example/softwareradio/impl.fieldLogarithms", "loop.example/softwareradio/impl.fieldPowers"], apart := false, laid := [("loop.example/softwareradio/impl.fieldPowers", laid_loop_example_softwareradio_impl_fieldPowers), ("loop.example/softwareradio/impl.fieldLogarithms", laid_loop_example_softwareradio_impl_fieldLogarithms)] }
def FnFieldGeneratorSaid : Prop := fnFieldGeneratorRow.holds Tryd.pinned (OpenSpec.ofChange fnFieldGeneratorSpec)

/-- ITS FALSE NEIGHBOUR: 'it returns false'. Refute it at one input. -/
def fnFieldGeneratorWrong : ChangeSpec := { name := "fnFieldGenerator", vars := ["loop.example/softwareradio/impl.fieldLogarithms", "loop.example/softwareradio/impl.fieldPowers"], fn := fun _ => fun
  | [d, g1, g2] => { results := [.lit (.bool false)], args := [d], vars := [g1, g2] }
  | _ => none }
def FnFieldGeneratorWrongFalsely : Prop := fnFieldGeneratorRow.holds Tryd.pinned (OpenSpec.ofChange fnFieldGeneratorWrong)

/- THE SECOND FORM. 'bulk': how many values and letters a reading holds, each counted each time it is reached (what is shared counts as often as it is met; a slice's spare places count too). A statement '..UptoSaid' is the law's where the arguments, and the package variables that the reading takes, are together of bulk at most 1048576: NARROWER than '..Said'. Prove '..Said' where nothing that the law and all that it calls make is longer than what came in: it says more and counts as full. Else prove '..UptoSaid'. A law counts once. -/
mutual
def uptoBulk {H : Type} : DataW H → Nat
  | .lit (.string bytes) => bytes.length + 1
  | .lit _ => 1
  | .nil => 1
  | .ptr d => uptoBulk d + 1
  | .slice elems spare => uptoBulkAll elems + uptoBulkAll spare + 1
  | .agg parts => uptoBulkAll parts + 1
  | .iface _ d => uptoBulk d + 1
  | .map entries => uptoBulkEntries entries + 1
  | .held _ => 1
def uptoBulkAll {H : Type} : List (DataW H) → Nat
  | [] => 0
  | d :: r => uptoBulk d + uptoBulkAll r
def uptoBulkEntries {H : Type} : List (Lit × DataW H) → Nat
  | [] => 0
  | x :: r => uptoBulkEntry x + uptoBulkEntries r
def uptoBulkEntry {H : Type} : Lit × DataW H → Nat
  | (.string bytes, d) => bytes.length + uptoBulk d + 1
  | (_, d) => uptoBulk d + 1
 end
def uptoSmall : (H : Type) → List (DataW H) → Bool := fun _ ds => decide (uptoBulkAll ds ≤ 1048576)
def OpenSpec.upto (s : _root_.Go.ChangeSpec) : _root_.Go.OpenSpec := { _root_.Go.OpenSpec.ofChange s with cond := some uptoSmall }

/-- 'laws.FnFieldMul', WHERE WHAT IT READS IS OF BULK AT MOST 1048576: true; the input reads as it did. -/
def fnFieldMulUptoRow : OpenClaim := { program := "ytlaofbaglepkgaadoor", sum := "af469b74707839afee974488f4bf422ffaded8b9ad964348813c851ebdc77162", func := "loop.example/softwareradio/laws.FnFieldMul", spec := "fnFieldMul", named := ["loop.example/softwareradio/impl.fieldLogarithms", "loop.example/softwareradio/impl.fieldPowers"], apart := false, laid := [("loop.example/softwareradio/impl.fieldPowers", laid_loop_example_softwareradio_impl_fieldPowers), ("loop.example/softwareradio/impl.fieldLogarithms", laid_loop_example_softwareradio_impl_fieldLogarithms)], narrowed := true }
def FnFieldMulUptoSaid : Prop := fnFieldMulUptoRow.holds Tryd.pinned (OpenSpec.upto fnFieldMulSpec)

/-- 'laws.FnFieldInverse', WHERE WHAT IT READS IS OF BULK AT MOST 1048576: true; the input reads as it did. -/
def fnFieldInverseUptoRow : OpenClaim := { program := "ytlaofbaglepkgaadoor", sum := "af469b74707839afee974488f4bf422ffaded8b9ad964348813c851ebdc77162", func := "loop.example/softwareradio/laws.FnFieldInverse", spec := "fnFieldInverse", named := ["loop.example/softwareradio/impl.fieldLogarithms", "loop.example/softwareradio/impl.fieldPowers"], apart := false, laid := [("loop.example/softwareradio/impl.fieldPowers", laid_loop_example_softwareradio_impl_fieldPowers), ("loop.example/softwareradio/impl.fieldLogarithms", laid_loop_example_softwareradio_impl_fieldLogarithms)], narrowed := true }
def FnFieldInverseUptoSaid : Prop := fnFieldInverseUptoRow.holds Tryd.pinned (OpenSpec.upto fnFieldInverseSpec)

/-- 'laws.FnFieldPower', WHERE WHAT IT READS IS OF BULK AT MOST 1048576: true; the input reads as it did. -/
def fnFieldPowerUptoRow : OpenClaim := { program := "ytlaofbaglepkgaadoor", sum := "af469b74707839afee974488f4bf422ffaded8b9ad964348813c851ebdc77162", func := "loop.example/softwareradio/laws.FnFieldPower", spec := "fnFieldPower", named := ["loop.example/softwareradio/impl.fieldLogarithms", "loop.example/softwareradio/impl.fieldPowers"], apart := false, laid := [("loop.example/softwareradio/impl.fieldPowers", laid_loop_example_softwareradio_impl_fieldPowers), ("loop.example/softwareradio/impl.fieldLogarithms", laid_loop_example_softwareradio_impl_fieldLogarithms)], narrowed := true }
def FnFieldPowerUptoSaid : Prop := fnFieldPowerUptoRow.holds Tryd.pinned (OpenSpec.upto fnFieldPowerSpec)

/-- 'laws.FnPolynomialAt', WHERE WHAT IT READS IS OF BULK AT MOST 1048576: true; the input reads as it did. -/
def fnPolynomialAtUptoRow : OpenClaim := { program := "ytlaofbaglepkgaadoor", sum := "af469b74707839afee974488f4bf422ffaded8b9ad964348813c851ebdc77162", func := "loop.example/softwareradio/laws.FnPolynomialAt", spec := "fnPolynomialAt", named := ["loop.example/softwareradio/impl.fieldLogarithms", "loop.example/softwareradio/impl.fieldPowers"], apart := false, laid := [("loop.example/softwareradio/impl.fieldPowers", laid_loop_example_softwareradio_impl_fieldPowers), ("loop.example/softwareradio/impl.fieldLogarithms", laid_loop_example_softwareradio_impl_fieldLogarithms)], narrowed := true }
def FnPolynomialAtUptoSaid : Prop := fnPolynomialAtUptoRow.holds Tryd.pinned (OpenSpec.upto fnPolynomialAtSpec)

/-- 'laws.FnFieldPolynomial', WHERE WHAT IT READS IS OF BULK AT MOST 1048576: true; the input reads as it did. -/
def fnFieldPolynomialUptoRow : OpenClaim := { program := "ytlaofbaglepkgaadoor", sum := "af469b74707839afee974488f4bf422ffaded8b9ad964348813c851ebdc77162", func := "loop.example/softwareradio/laws.FnFieldPolynomial", spec := "fnFieldPolynomial", named := ["loop.example/softwareradio/impl.fieldLogarithms", "loop.example/softwareradio/impl.fieldPowers"], apart := false, laid := [("loop.example/softwareradio/impl.fieldPowers", laid_loop_example_softwareradio_impl_fieldPowers), ("loop.example/softwareradio/impl.fieldLogarithms", laid_loop_example_softwareradio_impl_fieldLogarithms)], narrowed := true }
def FnFieldPolynomialUptoSaid : Prop := fnFieldPolynomialUptoRow.holds Tryd.pinned (OpenSpec.upto fnFieldPolynomialSpec)

/-- 'laws.FnFieldSquare', WHERE WHAT IT READS IS OF BULK AT MOST 1048576: true; the input reads as it did. -/
def fnFieldSquareUptoRow : OpenClaim := { program := "ytlaofbaglepkgaadoor", sum := "af469b74707839afee974488f4bf422ffaded8b9ad964348813c851ebdc77162", func := "loop.example/softwareradio/laws.FnFieldSquare", spec := "fnFieldSquare", named := ["loop.example/softwareradio/impl.fieldLogarithms", "loop.example/softwareradio/impl.fieldPowers"], apart := false, laid := [("loop.example/softwareradio/impl.fieldPowers", laid_loop_example_softwareradio_impl_fieldPowers), ("loop.example/softwareradio/impl.fieldLogarithms", laid_loop_example_softwareradio_impl_fieldLogarithms)], narrowed := true }
def FnFieldSquareUptoSaid : Prop := fnFieldSquareUptoRow.holds Tryd.pinned (OpenSpec.upto fnFieldSquareSpec)

/-- 'laws.FnFieldGenerator', WHERE WHAT IT READS IS OF BULK AT MOST 1048576: true; the input reads as it did. -/
def fnFieldGeneratorUptoRow : OpenClaim := { program := "ytlaofbaglepkgaadoor", sum := "af469b74707839afee974488f4bf422ffaded8b9ad964348813c851ebdc77162", func := "loop.example/softwareradio/laws.FnFieldGenerator", spec := "fnFieldGenerator", named := ["loop.example/softwareradio/impl.fieldLogarithms", "loop.example/softwareradio/impl.fieldPowers"], apart := false, laid := [("loop.example/softwareradio/impl.fieldPowers", laid_loop_example_softwareradio_impl_fieldPowers), ("loop.example/softwareradio/impl.fieldLogarithms", laid_loop_example_softwareradio_impl_fieldLogarithms)], narrowed := true }
def FnFieldGeneratorUptoSaid : Prop := fnFieldGeneratorUptoRow.holds Tryd.pinned (OpenSpec.upto fnFieldGeneratorSpec)

end Rows
end Go.Proofs.YtlaofbaglepkgaaDoor
