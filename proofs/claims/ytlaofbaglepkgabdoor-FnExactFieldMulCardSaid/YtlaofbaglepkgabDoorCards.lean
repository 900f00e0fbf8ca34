/-
  DERIVED. GIVEN WITH THE SEED: THE CARDS: each row of YtlaofbaglepkgabDoorRows.lean that lists a variable, with what it lists TIED to the program's text (the seventh form; the later family's looks); each row that meets fmt, with fmt's text TOLD by the authors' own Lean function (tested against real Go, not proved from fmt's source: count such statements apart). THE CARD IS WHAT COUNTS. Prove the row's statement (the work); the ties are given (YtlaofbaglepkgabDoorTie.lean); close each card by the builder's one call (the guide's Derived/Test/ToyasCard.lean, 'card_holds'). Laid BY PROGRAM, IN A SANDBOX (cutbox-door.mjs). By AI agents, Wed Nov 11 2026. No macro, syntax, notation, axiom, sorry.
-/
import Derived.Test.YtlaofbaglepkgabDoorRows
import GoSem.ClaimSeven
namespace Go.Proofs.YtlaofbaglepkgabDoor
namespace Rows

/-- THE TIED CARD OF 'laws.FnExactFieldMul'. -/
def fnExactFieldMulCard : Claim7 := { stood := { row := fnExactFieldMulRow, standIns := [], harness := (true, "17ac68280e1344780626fde2aab40031a4d4d42acadef57bdf0ca285ed4e6739"), looks := false }, kinds := [], alts := [], laidByText := true, laidKinds := [.data, .data], laidTests := true, laidLooks := .later }
def FnExactFieldMulCardSaid : Prop := Claim7.holds Tryd.pinned (.plain (OpenSpec.ofChange fnExactFieldMulSpec)) fnExactFieldMulCard

/-- THE TIED CARD OF 'laws.FnExactFieldInverse'. -/
def fnExactFieldInverseCard : Claim7 := { stood := { row := fnExactFieldInverseRow, standIns := [], harness := (true, "17ac68280e1344780626fde2aab40031a4d4d42acadef57bdf0ca285ed4e6739"), looks := false }, kinds := [], alts := [], laidByText := true, laidKinds := [.data, .data], laidTests := true, laidLooks := .later }
def FnExactFieldInverseCardSaid : Prop := Claim7.holds Tryd.pinned (.plain (OpenSpec.ofChange fnExactFieldInverseSpec)) fnExactFieldInverseCard

/-- THE TIED CARD OF 'laws.FnExactFieldPower'. -/
def fnExactFieldPowerCard : Claim7 := { stood := { row := fnExactFieldPowerRow, standIns := [], harness := (true, "17ac68280e1344780626fde2aab40031a4d4d42acadef57bdf0ca285ed4e6739"), looks := false }, kinds := [], alts := [], laidByText := true, laidKinds := [.data, .data], laidTests := true, laidLooks := .later }
def FnExactFieldPowerCardSaid : Prop := Claim7.holds Tryd.pinned (.plain (OpenSpec.ofChange fnExactFieldPowerSpec)) fnExactFieldPowerCard

/-- THE TIED CARD OF 'laws.FnExactPolynomialAt'. -/
def fnExactPolynomialAtCard : Claim7 := { stood := { row := fnExactPolynomialAtRow, standIns := [], harness := (true, "17ac68280e1344780626fde2aab40031a4d4d42acadef57bdf0ca285ed4e6739"), looks := false }, kinds := [], alts := [], laidByText := true, laidKinds := [.data, .data], laidTests := true, laidLooks := .later }
def FnExactPolynomialAtCardSaid : Prop := Claim7.holds Tryd.pinned (.plain (OpenSpec.ofChange fnExactPolynomialAtSpec)) fnExactPolynomialAtCard

/-- THE SECOND FORM's CARD OF 'laws.FnExactFieldMul'. -/
def fnExactFieldMulUptoCard : Claim7 := { stood := { row := fnExactFieldMulUptoRow, standIns := [], harness := (true, "17ac68280e1344780626fde2aab40031a4d4d42acadef57bdf0ca285ed4e6739"), looks := false }, kinds := [], alts := [], laidByText := true, laidKinds := [.data, .data], laidTests := true, laidLooks := .later }
def FnExactFieldMulUptoCardSaid : Prop := Claim7.holds Tryd.pinned (.plain (OpenSpec.upto fnExactFieldMulSpec)) fnExactFieldMulUptoCard

/-- THE SECOND FORM's CARD OF 'laws.FnExactFieldInverse'. -/
def fnExactFieldInverseUptoCard : Claim7 := { stood := { row := fnExactFieldInverseUptoRow, standIns := [], harness := (true, "17ac68280e1344780626fde2aab40031a4d4d42acadef57bdf0ca285ed4e6739"), looks := false }, kinds := [], alts := [], laidByText := true, laidKinds := [.data, .data], laidTests := true, laidLooks := .later }
def FnExactFieldInverseUptoCardSaid : Prop := Claim7.holds Tryd.pinned (.plain (OpenSpec.upto fnExactFieldInverseSpec)) fnExactFieldInverseUptoCard

/-- THE SECOND FORM's CARD OF 'laws.FnExactFieldPower'. -/
def fnExactFieldPowerUptoCard : Claim7 := { stood := { row := fnExactFieldPowerUptoRow, standIns := [], harness := (true, "17ac68280e1344780626fde2aab40031a4d4d42acadef57bdf0ca285ed4e6739"), looks := false }, kinds := [], alts := [], laidByText := true, laidKinds := [.data, .data], laidTests := true, laidLooks := .later }
def FnExactFieldPowerUptoCardSaid : Prop := Claim7.holds Tryd.pinned (.plain (OpenSpec.upto fnExactFieldPowerSpec)) fnExactFieldPowerUptoCard

/-- THE SECOND FORM's CARD OF 'laws.FnExactPolynomialAt'. -/
def fnExactPolynomialAtUptoCard : Claim7 := { stood := { row := fnExactPolynomialAtUptoRow, standIns := [], harness := (true, "17ac68280e1344780626fde2aab40031a4d4d42acadef57bdf0ca285ed4e6739"), looks := false }, kinds := [], alts := [], laidByText := true, laidKinds := [.data, .data], laidTests := true, laidLooks := .later }
def FnExactPolynomialAtUptoCardSaid : Prop := Claim7.holds Tryd.pinned (.plain (OpenSpec.upto fnExactPolynomialAtSpec)) fnExactPolynomialAtUptoCard
end Rows
end Go.Proofs.YtlaofbaglepkgabDoor
