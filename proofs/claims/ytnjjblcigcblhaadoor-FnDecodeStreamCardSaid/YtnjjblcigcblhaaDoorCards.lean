/-
  DERIVED. GIVEN WITH THE SEED: THE CARDS: each row of YtnjjblcigcblhaaDoorRows.lean that lists a variable, with what it lists TIED to the program's text (the seventh form; the later family's looks); each row that meets fmt, with fmt's text TOLD by the authors' own Lean function (tested against real Go, not proved from fmt's source: count such statements apart). THE CARD IS WHAT COUNTS. Prove the row's statement (the work); the ties are given (YtnjjblcigcblhaaDoorTie.lean); close each card by the builder's one call (the guide's Derived/Test/ToyasCard.lean, 'card_holds'). Laid BY PROGRAM, IN A SANDBOX (cutbox-door.mjs). By AI agents, Wed Nov 11 2026. No macro, syntax, notation, axiom, sorry.
-/
import Derived.Test.YtnjjblcigcblhaaDoorRows
import GoSem.ClaimSeven
namespace Go.Proofs.YtnjjblcigcblhaaDoor
namespace Rows

/-- THE TIED CARD OF 'laws.FnEncodeStream'. -/
def fnEncodeStreamCard : Claim7 := { stood := { row := fnEncodeStreamRow, standIns := [], harness := (true, "0c7b1ec482b79514ddb7adbee50527274a5b91c07fea65013c94054a12e1f4a1"), looks := false }, kinds := [], alts := [], laidByText := true, laidKinds := [.data, .data], laidTests := true, laidLooks := .later }
def FnEncodeStreamCardSaid : Prop := Claim7.holds Tryd.pinned (.plain (OpenSpec.ofChange fnEncodeStreamSpec)) fnEncodeStreamCard

/-- THE TIED CARD OF 'laws.FnDecodeStream'. -/
def fnDecodeStreamCard : Claim7 := { stood := { row := fnDecodeStreamRow, standIns := [], harness := (true, "0c7b1ec482b79514ddb7adbee50527274a5b91c07fea65013c94054a12e1f4a1"), looks := false }, kinds := [], alts := [], laidByText := true, laidKinds := [.data, .data], laidTests := true, laidLooks := .later }
def FnDecodeStreamCardSaid : Prop := Claim7.holds Tryd.pinned (.plain (OpenSpec.ofChange fnDecodeStreamSpec)) fnDecodeStreamCard

/-- THE TIED CARD OF 'laws.FnStreamErrors'. -/
def fnStreamErrorsCard : Claim7 := { stood := { row := fnStreamErrorsRow, standIns := [], harness := (true, "0c7b1ec482b79514ddb7adbee50527274a5b91c07fea65013c94054a12e1f4a1"), looks := false }, kinds := [], alts := [], laidByText := true, laidKinds := [.data, .data], laidTests := true, laidLooks := .later }
def FnStreamErrorsCardSaid : Prop := Claim7.holds Tryd.pinned (.plain (OpenSpec.ofChange fnStreamErrorsSpec)) fnStreamErrorsCard

/-- THE TIED CARD OF 'laws.FnStreamTwo'. -/
def fnStreamTwoCard : Claim7 := { stood := { row := fnStreamTwoRow, standIns := [], harness := (true, "0c7b1ec482b79514ddb7adbee50527274a5b91c07fea65013c94054a12e1f4a1"), looks := false }, kinds := [], alts := [], laidByText := true, laidKinds := [.data, .data], laidTests := true, laidLooks := .later }
def FnStreamTwoCardSaid : Prop := Claim7.holds Tryd.pinned (.plain (OpenSpec.ofChange fnStreamTwoSpec)) fnStreamTwoCard

/-- THE TIED CARD OF 'laws.FnStreamDistance'. -/
def fnStreamDistanceCard : Claim7 := { stood := { row := fnStreamDistanceRow, standIns := [], harness := (true, "0c7b1ec482b79514ddb7adbee50527274a5b91c07fea65013c94054a12e1f4a1"), looks := false }, kinds := [], alts := [], laidByText := true, laidKinds := [.data, .data], laidTests := true, laidLooks := .later }
def FnStreamDistanceCardSaid : Prop := Claim7.holds Tryd.pinned (.plain (OpenSpec.ofChange fnStreamDistanceSpec)) fnStreamDistanceCard

/-- THE TIED CARD OF 'laws.FnExactEncodeStream'. -/
def fnExactEncodeStreamCard : Claim7 := { stood := { row := fnExactEncodeStreamRow, standIns := [], harness := (true, "0c7b1ec482b79514ddb7adbee50527274a5b91c07fea65013c94054a12e1f4a1"), looks := false }, kinds := [], alts := [], laidByText := true, laidKinds := [.data, .data], laidTests := true, laidLooks := .later }
def FnExactEncodeStreamCardSaid : Prop := Claim7.holds Tryd.pinned (.plain (OpenSpec.ofChange fnExactEncodeStreamSpec)) fnExactEncodeStreamCard

/-- THE TIED CARD OF 'laws.FnExactDecodeStream'. -/
def fnExactDecodeStreamCard : Claim7 := { stood := { row := fnExactDecodeStreamRow, standIns := [], harness := (true, "0c7b1ec482b79514ddb7adbee50527274a5b91c07fea65013c94054a12e1f4a1"), looks := false }, kinds := [], alts := [], laidByText := true, laidKinds := [.data, .data], laidTests := true, laidLooks := .later }
def FnExactDecodeStreamCardSaid : Prop := Claim7.holds Tryd.pinned (.plain (OpenSpec.ofChange fnExactDecodeStreamSpec)) fnExactDecodeStreamCard

/-- THE TIED CARD OF 'laws.FnExactStreamErrors'. -/
def fnExactStreamErrorsCard : Claim7 := { stood := { row := fnExactStreamErrorsRow, standIns := [], harness := (true, "0c7b1ec482b79514ddb7adbee50527274a5b91c07fea65013c94054a12e1f4a1"), looks := false }, kinds := [], alts := [], laidByText := true, laidKinds := [.data, .data], laidTests := true, laidLooks := .later }
def FnExactStreamErrorsCardSaid : Prop := Claim7.holds Tryd.pinned (.plain (OpenSpec.ofChange fnExactStreamErrorsSpec)) fnExactStreamErrorsCard

/-- THE SECOND FORM's CARD OF 'laws.FnEncodeStream'. -/
def fnEncodeStreamUptoCard : Claim7 := { stood := { row := fnEncodeStreamUptoRow, standIns := [], harness := (true, "0c7b1ec482b79514ddb7adbee50527274a5b91c07fea65013c94054a12e1f4a1"), looks := false }, kinds := [], alts := [], laidByText := true, laidKinds := [.data, .data], laidTests := true, laidLooks := .later }
def FnEncodeStreamUptoCardSaid : Prop := Claim7.holds Tryd.pinned (.plain (OpenSpec.upto fnEncodeStreamSpec)) fnEncodeStreamUptoCard

/-- THE SECOND FORM's CARD OF 'laws.FnDecodeStream'. -/
def fnDecodeStreamUptoCard : Claim7 := { stood := { row := fnDecodeStreamUptoRow, standIns := [], harness := (true, "0c7b1ec482b79514ddb7adbee50527274a5b91c07fea65013c94054a12e1f4a1"), looks := false }, kinds := [], alts := [], laidByText := true, laidKinds := [.data, .data], laidTests := true, laidLooks := .later }
def FnDecodeStreamUptoCardSaid : Prop := Claim7.holds Tryd.pinned (.plain (OpenSpec.upto fnDecodeStreamSpec)) fnDecodeStreamUptoCard

/-- THE SECOND FORM's CARD OF 'laws.FnStreamErrors'. -/
def fnStreamErrorsUptoCard : Claim7 := { stood := { row := fnStreamErrorsUptoRow, standIns := [], harness := (true, "0c7b1ec482b79514ddb7adbee50527274a5b91c07fea65013c94054a12e1f4a1"), looks := false }, kinds := [], alts := [], laidByText := true, laidKinds := [.data, .data], laidTests := true, laidLooks := .later }
def FnStreamErrorsUptoCardSaid : Prop := Claim7.holds Tryd.pinned (.plain (OpenSpec.upto fnStreamErrorsSpec)) fnStreamErrorsUptoCard

/-- THE SECOND FORM's CARD OF 'laws.FnStreamTwo'. -/
def fnStreamTwoUptoCard : Claim7 := { stood := { row := fnStreamTwoUptoRow, standIns := [], harness := (true, "0c7b1ec482b79514ddb7adbee50527274a5b91c07fea65013c94054a12e1f4a1"), looks := false }, kinds := [], alts := [], laidByText := true, laidKinds := [.data, .data], laidTests := true, laidLooks := .later }
def FnStreamTwoUptoCardSaid : Prop := Claim7.holds Tryd.pinned (.plain (OpenSpec.upto fnStreamTwoSpec)) fnStreamTwoUptoCard

/-- THE SECOND FORM's CARD OF 'laws.FnStreamDistance'. -/
def fnStreamDistanceUptoCard : Claim7 := { stood := { row := fnStreamDistanceUptoRow, standIns := [], harness := (true, "0c7b1ec482b79514ddb7adbee50527274a5b91c07fea65013c94054a12e1f4a1"), looks := false }, kinds := [], alts := [], laidByText := true, laidKinds := [.data, .data], laidTests := true, laidLooks := .later }
def FnStreamDistanceUptoCardSaid : Prop := Claim7.holds Tryd.pinned (.plain (OpenSpec.upto fnStreamDistanceSpec)) fnStreamDistanceUptoCard

/-- THE SECOND FORM's CARD OF 'laws.FnExactEncodeStream'. -/
def fnExactEncodeStreamUptoCard : Claim7 := { stood := { row := fnExactEncodeStreamUptoRow, standIns := [], harness := (true, "0c7b1ec482b79514ddb7adbee50527274a5b91c07fea65013c94054a12e1f4a1"), looks := false }, kinds := [], alts := [], laidByText := true, laidKinds := [.data, .data], laidTests := true, laidLooks := .later }
def FnExactEncodeStreamUptoCardSaid : Prop := Claim7.holds Tryd.pinned (.plain (OpenSpec.upto fnExactEncodeStreamSpec)) fnExactEncodeStreamUptoCard

/-- THE SECOND FORM's CARD OF 'laws.FnExactDecodeStream'. -/
def fnExactDecodeStreamUptoCard : Claim7 := { stood := { row := fnExactDecodeStreamUptoRow, standIns := [], harness := (true, "0c7b1ec482b79514ddb7adbee50527274a5b91c07fea65013c94054a12e1f4a1"), looks := false }, kinds := [], alts := [], laidByText := true, laidKinds := [.data, .data], laidTests := true, laidLooks := .later }
def FnExactDecodeStreamUptoCardSaid : Prop := Claim7.holds Tryd.pinned (.plain (OpenSpec.upto fnExactDecodeStreamSpec)) fnExactDecodeStreamUptoCard

/-- THE SECOND FORM's CARD OF 'laws.FnExactStreamErrors'. -/
def fnExactStreamErrorsUptoCard : Claim7 := { stood := { row := fnExactStreamErrorsUptoRow, standIns := [], harness := (true, "0c7b1ec482b79514ddb7adbee50527274a5b91c07fea65013c94054a12e1f4a1"), looks := false }, kinds := [], alts := [], laidByText := true, laidKinds := [.data, .data], laidTests := true, laidLooks := .later }
def FnExactStreamErrorsUptoCardSaid : Prop := Claim7.holds Tryd.pinned (.plain (OpenSpec.upto fnExactStreamErrorsSpec)) fnExactStreamErrorsUptoCard
end Rows
end Go.Proofs.YtnjjblcigcblhaaDoor
