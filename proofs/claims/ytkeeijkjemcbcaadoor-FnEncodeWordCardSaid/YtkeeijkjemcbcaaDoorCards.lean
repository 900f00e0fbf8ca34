/-
  DERIVED. GIVEN WITH THE SEED: THE CARDS: each row of YtkeeijkjemcbcaaDoorRows.lean that lists a variable, with what it lists TIED to the program's text (the seventh form; the later family's looks); each row that meets fmt, with fmt's text TOLD by the authors' own Lean function (tested against real Go, not proved from fmt's source: count such statements apart). THE CARD IS WHAT COUNTS. Prove the row's statement (the work); the ties are given (YtkeeijkjemcbcaaDoorTie.lean); close each card by the builder's one call (the guide's Derived/Test/ToyasCard.lean, 'card_holds'). Laid BY PROGRAM, IN A SANDBOX (cutbox-door.mjs). By AI agents, Wed Nov 11 2026. No macro, syntax, notation, axiom, sorry.
-/
import Derived.Test.YtkeeijkjemcbcaaDoorRows
import GoSem.ClaimSeven
namespace Go.Proofs.YtkeeijkjemcbcaaDoor
namespace Rows

/-- THE TIED CARD OF 'laws.FnEncodeWord'. -/
def fnEncodeWordCard : Claim7 := { stood := { row := fnEncodeWordRow, standIns := [], harness := (true, "9b76c24c6ffb79a31b33ec16bcd2a2ea8356fa3348a62510bf1a16fc5ddf2e7e"), looks := false }, kinds := [], alts := [], laidByText := true, laidKinds := [.data, .data, .data, .data], laidTests := true, laidLooks := .later }
def FnEncodeWordCardSaid : Prop := Claim7.holds Tryd.pinned (.plain (OpenSpec.ofChange fnEncodeWordSpec)) fnEncodeWordCard

/-- THE TIED CARD OF 'laws.FnWordSyndromes'. -/
def fnWordSyndromesCard : Claim7 := { stood := { row := fnWordSyndromesRow, standIns := [], harness := (true, "9b76c24c6ffb79a31b33ec16bcd2a2ea8356fa3348a62510bf1a16fc5ddf2e7e"), looks := false }, kinds := [], alts := [], laidByText := true, laidKinds := [.data, .data, .data, .data], laidTests := true, laidLooks := .later }
def FnWordSyndromesCardSaid : Prop := Claim7.holds Tryd.pinned (.plain (OpenSpec.ofChange fnWordSyndromesSpec)) fnWordSyndromesCard

/-- THE TIED CARD OF 'laws.FnWordDistance'. -/
def fnWordDistanceCard : Claim7 := { stood := { row := fnWordDistanceRow, standIns := [], harness := (true, "9b76c24c6ffb79a31b33ec16bcd2a2ea8356fa3348a62510bf1a16fc5ddf2e7e"), looks := false }, kinds := [], alts := [], laidByText := true, laidKinds := [.data, .data, .data], laidTests := true, laidLooks := .later }
def FnWordDistanceCardSaid : Prop := Claim7.holds Tryd.pinned (.plain (OpenSpec.ofChange fnWordDistanceSpec)) fnWordDistanceCard

/-- THE TIED CARD OF 'laws.FnDecodeWord'. -/
def fnDecodeWordCard : Claim7 := { stood := { row := fnDecodeWordRow, standIns := [], harness := (true, "9b76c24c6ffb79a31b33ec16bcd2a2ea8356fa3348a62510bf1a16fc5ddf2e7e"), looks := false }, kinds := [], alts := [], laidByText := true, laidKinds := [.data, .data, .data], laidTests := true, laidLooks := .later }
def FnDecodeWordCardSaid : Prop := Claim7.holds Tryd.pinned (.plain (OpenSpec.ofChange fnDecodeWordSpec)) fnDecodeWordCard

/-- THE TIED CARD OF 'laws.FnWordThree'. -/
def fnWordThreeCard : Claim7 := { stood := { row := fnWordThreeRow, standIns := [], harness := (true, "9b76c24c6ffb79a31b33ec16bcd2a2ea8356fa3348a62510bf1a16fc5ddf2e7e"), looks := false }, kinds := [], alts := [], laidByText := true, laidKinds := [.data, .data, .data, .data], laidTests := true, laidLooks := .later }
def FnWordThreeCardSaid : Prop := Claim7.holds Tryd.pinned (.plain (OpenSpec.ofChange fnWordThreeSpec)) fnWordThreeCard

/-- THE TIED CARD OF 'laws.FnWordTurn'. -/
def fnWordTurnCard : Claim7 := { stood := { row := fnWordTurnRow, standIns := [], harness := (true, "9b76c24c6ffb79a31b33ec16bcd2a2ea8356fa3348a62510bf1a16fc5ddf2e7e"), looks := false }, kinds := [], alts := [], laidByText := true, laidKinds := [.data, .data, .data, .data], laidTests := true, laidLooks := .later }
def FnWordTurnCardSaid : Prop := Claim7.holds Tryd.pinned (.plain (OpenSpec.ofChange fnWordTurnSpec)) fnWordTurnCard

/-- THE TIED CARD OF 'laws.FnWordOne'. -/
def fnWordOneCard : Claim7 := { stood := { row := fnWordOneRow, standIns := [], harness := (true, "9b76c24c6ffb79a31b33ec16bcd2a2ea8356fa3348a62510bf1a16fc5ddf2e7e"), looks := false }, kinds := [], alts := [], laidByText := true, laidKinds := [.data, .data, .data, .data], laidTests := true, laidLooks := .later }
def FnWordOneCardSaid : Prop := Claim7.holds Tryd.pinned (.plain (OpenSpec.ofChange fnWordOneSpec)) fnWordOneCard

/-- THE TIED CARD OF 'laws.FnExactEncodeWord'. -/
def fnExactEncodeWordCard : Claim7 := { stood := { row := fnExactEncodeWordRow, standIns := [], harness := (true, "9b76c24c6ffb79a31b33ec16bcd2a2ea8356fa3348a62510bf1a16fc5ddf2e7e"), looks := false }, kinds := [], alts := [], laidByText := true, laidKinds := [.data, .data, .data], laidTests := true, laidLooks := .later }
def FnExactEncodeWordCardSaid : Prop := Claim7.holds Tryd.pinned (.plain (OpenSpec.ofChange fnExactEncodeWordSpec)) fnExactEncodeWordCard

/-- THE TIED CARD OF 'laws.FnExactWordSyndromes'. -/
def fnExactWordSyndromesCard : Claim7 := { stood := { row := fnExactWordSyndromesRow, standIns := [], harness := (true, "9b76c24c6ffb79a31b33ec16bcd2a2ea8356fa3348a62510bf1a16fc5ddf2e7e"), looks := false }, kinds := [], alts := [], laidByText := true, laidKinds := [.data, .data, .data], laidTests := true, laidLooks := .later }
def FnExactWordSyndromesCardSaid : Prop := Claim7.holds Tryd.pinned (.plain (OpenSpec.ofChange fnExactWordSyndromesSpec)) fnExactWordSyndromesCard

/-- THE TIED CARD OF 'laws.FnExactDecodeWord'. -/
def fnExactDecodeWordCard : Claim7 := { stood := { row := fnExactDecodeWordRow, standIns := [], harness := (true, "9b76c24c6ffb79a31b33ec16bcd2a2ea8356fa3348a62510bf1a16fc5ddf2e7e"), looks := false }, kinds := [], alts := [], laidByText := true, laidKinds := [.data, .data, .data], laidTests := true, laidLooks := .later }
def FnExactDecodeWordCardSaid : Prop := Claim7.holds Tryd.pinned (.plain (OpenSpec.ofChange fnExactDecodeWordSpec)) fnExactDecodeWordCard

/-- THE SECOND FORM's CARD OF 'laws.FnEncodeWord'. -/
def fnEncodeWordUptoCard : Claim7 := { stood := { row := fnEncodeWordUptoRow, standIns := [], harness := (true, "9b76c24c6ffb79a31b33ec16bcd2a2ea8356fa3348a62510bf1a16fc5ddf2e7e"), looks := false }, kinds := [], alts := [], laidByText := true, laidKinds := [.data, .data, .data, .data], laidTests := true, laidLooks := .later }
def FnEncodeWordUptoCardSaid : Prop := Claim7.holds Tryd.pinned (.plain (OpenSpec.upto fnEncodeWordSpec)) fnEncodeWordUptoCard

/-- THE SECOND FORM's CARD OF 'laws.FnWordSyndromes'. -/
def fnWordSyndromesUptoCard : Claim7 := { stood := { row := fnWordSyndromesUptoRow, standIns := [], harness := (true, "9b76c24c6ffb79a31b33ec16bcd2a2ea8356fa3348a62510bf1a16fc5ddf2e7e"), looks := false }, kinds := [], alts := [], laidByText := true, laidKinds := [.data, .data, .data, .data], laidTests := true, laidLooks := .later }
def FnWordSyndromesUptoCardSaid : Prop := Claim7.holds Tryd.pinned (.plain (OpenSpec.upto fnWordSyndromesSpec)) fnWordSyndromesUptoCard

/-- THE SECOND FORM's CARD OF 'laws.FnWordDistance'. -/
def fnWordDistanceUptoCard : Claim7 := { stood := { row := fnWordDistanceUptoRow, standIns := [], harness := (true, "9b76c24c6ffb79a31b33ec16bcd2a2ea8356fa3348a62510bf1a16fc5ddf2e7e"), looks := false }, kinds := [], alts := [], laidByText := true, laidKinds := [.data, .data, .data], laidTests := true, laidLooks := .later }
def FnWordDistanceUptoCardSaid : Prop := Claim7.holds Tryd.pinned (.plain (OpenSpec.upto fnWordDistanceSpec)) fnWordDistanceUptoCard

/-- THE SECOND FORM's CARD OF 'laws.FnDecodeWord'. -/
def fnDecodeWordUptoCard : Claim7 := { stood := { row := fnDecodeWordUptoRow, standIns := [], harness := (true, "9b76c24c6ffb79a31b33ec16bcd2a2ea8356fa3348a62510bf1a16fc5ddf2e7e"), looks := false }, kinds := [], alts := [], laidByText := true, laidKinds := [.data, .data, .data], laidTests := true, laidLooks := .later }
def FnDecodeWordUptoCardSaid : Prop := Claim7.holds Tryd.pinned (.plain (OpenSpec.upto fnDecodeWordSpec)) fnDecodeWordUptoCard

/-- THE SECOND FORM's CARD OF 'laws.FnWordThree'. -/
def fnWordThreeUptoCard : Claim7 := { stood := { row := fnWordThreeUptoRow, standIns := [], harness := (true, "9b76c24c6ffb79a31b33ec16bcd2a2ea8356fa3348a62510bf1a16fc5ddf2e7e"), looks := false }, kinds := [], alts := [], laidByText := true, laidKinds := [.data, .data, .data, .data], laidTests := true, laidLooks := .later }
def FnWordThreeUptoCardSaid : Prop := Claim7.holds Tryd.pinned (.plain (OpenSpec.upto fnWordThreeSpec)) fnWordThreeUptoCard

/-- THE SECOND FORM's CARD OF 'laws.FnWordTurn'. -/
def fnWordTurnUptoCard : Claim7 := { stood := { row := fnWordTurnUptoRow, standIns := [], harness := (true, "9b76c24c6ffb79a31b33ec16bcd2a2ea8356fa3348a62510bf1a16fc5ddf2e7e"), looks := false }, kinds := [], alts := [], laidByText := true, laidKinds := [.data, .data, .data, .data], laidTests := true, laidLooks := .later }
def FnWordTurnUptoCardSaid : Prop := Claim7.holds Tryd.pinned (.plain (OpenSpec.upto fnWordTurnSpec)) fnWordTurnUptoCard

/-- THE SECOND FORM's CARD OF 'laws.FnWordOne'. -/
def fnWordOneUptoCard : Claim7 := { stood := { row := fnWordOneUptoRow, standIns := [], harness := (true, "9b76c24c6ffb79a31b33ec16bcd2a2ea8356fa3348a62510bf1a16fc5ddf2e7e"), looks := false }, kinds := [], alts := [], laidByText := true, laidKinds := [.data, .data, .data, .data], laidTests := true, laidLooks := .later }
def FnWordOneUptoCardSaid : Prop := Claim7.holds Tryd.pinned (.plain (OpenSpec.upto fnWordOneSpec)) fnWordOneUptoCard

/-- THE SECOND FORM's CARD OF 'laws.FnExactEncodeWord'. -/
def fnExactEncodeWordUptoCard : Claim7 := { stood := { row := fnExactEncodeWordUptoRow, standIns := [], harness := (true, "9b76c24c6ffb79a31b33ec16bcd2a2ea8356fa3348a62510bf1a16fc5ddf2e7e"), looks := false }, kinds := [], alts := [], laidByText := true, laidKinds := [.data, .data, .data], laidTests := true, laidLooks := .later }
def FnExactEncodeWordUptoCardSaid : Prop := Claim7.holds Tryd.pinned (.plain (OpenSpec.upto fnExactEncodeWordSpec)) fnExactEncodeWordUptoCard

/-- THE SECOND FORM's CARD OF 'laws.FnExactWordSyndromes'. -/
def fnExactWordSyndromesUptoCard : Claim7 := { stood := { row := fnExactWordSyndromesUptoRow, standIns := [], harness := (true, "9b76c24c6ffb79a31b33ec16bcd2a2ea8356fa3348a62510bf1a16fc5ddf2e7e"), looks := false }, kinds := [], alts := [], laidByText := true, laidKinds := [.data, .data, .data], laidTests := true, laidLooks := .later }
def FnExactWordSyndromesUptoCardSaid : Prop := Claim7.holds Tryd.pinned (.plain (OpenSpec.upto fnExactWordSyndromesSpec)) fnExactWordSyndromesUptoCard

/-- THE SECOND FORM's CARD OF 'laws.FnExactDecodeWord'. -/
def fnExactDecodeWordUptoCard : Claim7 := { stood := { row := fnExactDecodeWordUptoRow, standIns := [], harness := (true, "9b76c24c6ffb79a31b33ec16bcd2a2ea8356fa3348a62510bf1a16fc5ddf2e7e"), looks := false }, kinds := [], alts := [], laidByText := true, laidKinds := [.data, .data, .data], laidTests := true, laidLooks := .later }
def FnExactDecodeWordUptoCardSaid : Prop := Claim7.holds Tryd.pinned (.plain (OpenSpec.upto fnExactDecodeWordSpec)) fnExactDecodeWordUptoCard
end Rows
end Go.Proofs.YtkeeijkjemcbcaaDoor
