/-
  DERIVED. GIVEN WITH THE SEED: THE CARDS: each row of YtlaofbaglepkgaaDoorRows.lean that lists a variable, with what it lists TIED to the program's text (the seventh form; the later family's looks); each row that meets fmt, with fmt's text TOLD by the authors' own Lean function (tested against real Go, not proved from fmt's source: count such statements apart). THE CARD IS WHAT COUNTS. Prove the row's statement (the work); the ties are given (YtlaofbaglepkgaaDoorTie.lean); close each card by the builder's one call (the guide's Derived/Test/ToyasCard.lean, 'card_holds'). Laid BY PROGRAM, IN A SANDBOX (cutbox-door.mjs). By AI agents, Wed Nov 11 2026. No macro, syntax, notation, axiom, sorry.
-/
import Derived.Test.YtlaofbaglepkgaaDoorRows
import GoSem.ClaimSeven
namespace Go.Proofs.YtlaofbaglepkgaaDoor
namespace Rows

/-- THE TIED CARD OF 'laws.FnFieldMul'. -/
def fnFieldMulCard : Claim7 := { stood := { row := fnFieldMulRow, standIns := [], harness := (true, "c50622020b4b3e429c67db30e172ce708d4e5f3bf3f50cbaa077ba5bf124f22f"), looks := false }, kinds := [], alts := [], laidByText := true, laidKinds := [.data, .data], laidTests := true, laidLooks := .later }
def FnFieldMulCardSaid : Prop := Claim7.holds Tryd.pinned (.plain (OpenSpec.ofChange fnFieldMulSpec)) fnFieldMulCard

/-- THE TIED CARD OF 'laws.FnFieldInverse'. -/
def fnFieldInverseCard : Claim7 := { stood := { row := fnFieldInverseRow, standIns := [], harness := (true, "c50622020b4b3e429c67db30e172ce708d4e5f3bf3f50cbaa077ba5bf124f22f"), looks := false }, kinds := [], alts := [], laidByText := true, laidKinds := [.data, .data], laidTests := true, laidLooks := .later }
def FnFieldInverseCardSaid : Prop := Claim7.holds Tryd.pinned (.plain (OpenSpec.ofChange fnFieldInverseSpec)) fnFieldInverseCard

/-- THE TIED CARD OF 'laws.FnFieldPower'. -/
def fnFieldPowerCard : Claim7 := { stood := { row := fnFieldPowerRow, standIns := [], harness := (true, "c50622020b4b3e429c67db30e172ce708d4e5f3bf3f50cbaa077ba5bf124f22f"), looks := false }, kinds := [], alts := [], laidByText := true, laidKinds := [.data, .data], laidTests := true, laidLooks := .later }
def FnFieldPowerCardSaid : Prop := Claim7.holds Tryd.pinned (.plain (OpenSpec.ofChange fnFieldPowerSpec)) fnFieldPowerCard

/-- THE TIED CARD OF 'laws.FnPolynomialAt'. -/
def fnPolynomialAtCard : Claim7 := { stood := { row := fnPolynomialAtRow, standIns := [], harness := (true, "c50622020b4b3e429c67db30e172ce708d4e5f3bf3f50cbaa077ba5bf124f22f"), looks := false }, kinds := [], alts := [], laidByText := true, laidKinds := [.data, .data], laidTests := true, laidLooks := .later }
def FnPolynomialAtCardSaid : Prop := Claim7.holds Tryd.pinned (.plain (OpenSpec.ofChange fnPolynomialAtSpec)) fnPolynomialAtCard

/-- THE TIED CARD OF 'laws.FnFieldPolynomial'. -/
def fnFieldPolynomialCard : Claim7 := { stood := { row := fnFieldPolynomialRow, standIns := [], harness := (true, "c50622020b4b3e429c67db30e172ce708d4e5f3bf3f50cbaa077ba5bf124f22f"), looks := false }, kinds := [], alts := [], laidByText := true, laidKinds := [.data, .data], laidTests := true, laidLooks := .later }
def FnFieldPolynomialCardSaid : Prop := Claim7.holds Tryd.pinned (.plain (OpenSpec.ofChange fnFieldPolynomialSpec)) fnFieldPolynomialCard

/-- THE TIED CARD OF 'laws.FnFieldSquare'. -/
def fnFieldSquareCard : Claim7 := { stood := { row := fnFieldSquareRow, standIns := [], harness := (true, "c50622020b4b3e429c67db30e172ce708d4e5f3bf3f50cbaa077ba5bf124f22f"), looks := false }, kinds := [], alts := [], laidByText := true, laidKinds := [.data, .data], laidTests := true, laidLooks := .later }
def FnFieldSquareCardSaid : Prop := Claim7.holds Tryd.pinned (.plain (OpenSpec.ofChange fnFieldSquareSpec)) fnFieldSquareCard

/-- THE TIED CARD OF 'laws.FnFieldGenerator'. -/
def fnFieldGeneratorCard : Claim7 := { stood := { row := fnFieldGeneratorRow, standIns := [], harness := (true, "c50622020b4b3e429c67db30e172ce708d4e5f3bf3f50cbaa077ba5bf124f22f"), looks := false }, kinds := [], alts := [], laidByText := true, laidKinds := [.data, .data], laidTests := true, laidLooks := .later }
def FnFieldGeneratorCardSaid : Prop := Claim7.holds Tryd.pinned (.plain (OpenSpec.ofChange fnFieldGeneratorSpec)) fnFieldGeneratorCard

/-- THE SECOND FORM's CARD OF 'laws.FnFieldMul'. -/
def fnFieldMulUptoCard : Claim7 := { stood := { row := fnFieldMulUptoRow, standIns := [], harness := (true, "c50622020b4b3e429c67db30e172ce708d4e5f3bf3f50cbaa077ba5bf124f22f"), looks := false }, kinds := [], alts := [], laidByText := true, laidKinds := [.data, .data], laidTests := true, laidLooks := .later }
def FnFieldMulUptoCardSaid : Prop := Claim7.holds Tryd.pinned (.plain (OpenSpec.upto fnFieldMulSpec)) fnFieldMulUptoCard

/-- THE SECOND FORM's CARD OF 'laws.FnFieldInverse'. -/
def fnFieldInverseUptoCard : Claim7 := { stood := { row := fnFieldInverseUptoRow, standIns := [], harness := (true, "c50622020b4b3e429c67db30e172ce708d4e5f3bf3f50cbaa077ba5bf124f22f"), looks := false }, kinds := [], alts := [], laidByText := true, laidKinds := [.data, .data], laidTests := true, laidLooks := .later }
def FnFieldInverseUptoCardSaid : Prop := Claim7.holds Tryd.pinned (.plain (OpenSpec.upto fnFieldInverseSpec)) fnFieldInverseUptoCard

/-- THE SECOND FORM's CARD OF 'laws.FnFieldPower'. -/
def fnFieldPowerUptoCard : Claim7 := { stood := { row := fnFieldPowerUptoRow, standIns := [], harness := (true, "c50622020b4b3e429c67db30e172ce708d4e5f3bf3f50cbaa077ba5bf124f22f"), looks := false }, kinds := [], alts := [], laidByText := true, laidKinds := [.data, .data], laidTests := true, laidLooks := .later }
def FnFieldPowerUptoCardSaid : Prop := Claim7.holds Tryd.pinned (.plain (OpenSpec.upto fnFieldPowerSpec)) fnFieldPowerUptoCard

/-- THE SECOND FORM's CARD OF 'laws.FnPolynomialAt'. -/
def fnPolynomialAtUptoCard : Claim7 := { stood := { row := fnPolynomialAtUptoRow, standIns := [], harness := (true, "c50622020b4b3e429c67db30e172ce708d4e5f3bf3f50cbaa077ba5bf124f22f"), looks := false }, kinds := [], alts := [], laidByText := true, laidKinds := [.data, .data], laidTests := true, laidLooks := .later }
def FnPolynomialAtUptoCardSaid : Prop := Claim7.holds Tryd.pinned (.plain (OpenSpec.upto fnPolynomialAtSpec)) fnPolynomialAtUptoCard

/-- THE SECOND FORM's CARD OF 'laws.FnFieldPolynomial'. -/
def fnFieldPolynomialUptoCard : Claim7 := { stood := { row := fnFieldPolynomialUptoRow, standIns := [], harness := (true, "c50622020b4b3e429c67db30e172ce708d4e5f3bf3f50cbaa077ba5bf124f22f"), looks := false }, kinds := [], alts := [], laidByText := true, laidKinds := [.data, .data], laidTests := true, laidLooks := .later }
def FnFieldPolynomialUptoCardSaid : Prop := Claim7.holds Tryd.pinned (.plain (OpenSpec.upto fnFieldPolynomialSpec)) fnFieldPolynomialUptoCard

/-- THE SECOND FORM's CARD OF 'laws.FnFieldSquare'. -/
def fnFieldSquareUptoCard : Claim7 := { stood := { row := fnFieldSquareUptoRow, standIns := [], harness := (true, "c50622020b4b3e429c67db30e172ce708d4e5f3bf3f50cbaa077ba5bf124f22f"), looks := false }, kinds := [], alts := [], laidByText := true, laidKinds := [.data, .data], laidTests := true, laidLooks := .later }
def FnFieldSquareUptoCardSaid : Prop := Claim7.holds Tryd.pinned (.plain (OpenSpec.upto fnFieldSquareSpec)) fnFieldSquareUptoCard

/-- THE SECOND FORM's CARD OF 'laws.FnFieldGenerator'. -/
def fnFieldGeneratorUptoCard : Claim7 := { stood := { row := fnFieldGeneratorUptoRow, standIns := [], harness := (true, "c50622020b4b3e429c67db30e172ce708d4e5f3bf3f50cbaa077ba5bf124f22f"), looks := false }, kinds := [], alts := [], laidByText := true, laidKinds := [.data, .data], laidTests := true, laidLooks := .later }
def FnFieldGeneratorUptoCardSaid : Prop := Claim7.holds Tryd.pinned (.plain (OpenSpec.upto fnFieldGeneratorSpec)) fnFieldGeneratorUptoCard
end Rows
end Go.Proofs.YtlaofbaglepkgaaDoor
