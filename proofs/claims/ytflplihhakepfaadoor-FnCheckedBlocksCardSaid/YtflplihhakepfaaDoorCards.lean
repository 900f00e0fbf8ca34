/-
  DERIVED. GIVEN WITH THE SEED: THE CARDS: each row of YtflplihhakepfaaDoorRows.lean that lists a variable, with what it lists TIED to the program's text (the seventh form; the later family's looks); each row that meets fmt, with fmt's text TOLD by the authors' own Lean function (tested against real Go, not proved from fmt's source: count such statements apart). THE CARD IS WHAT COUNTS. Prove the row's statement (the work); the ties are given (YtflplihhakepfaaDoorTie.lean); close each card by the builder's one call (the guide's Derived/Test/ToyasCard.lean, 'card_holds'). Laid BY PROGRAM, IN A SANDBOX (cutbox-door.mjs). By AI agents, Wed Nov 11 2026. No macro, syntax, notation, axiom, sorry.
-/
import Derived.Test.YtflplihhakepfaaDoorRows
import GoSem.ClaimSeven
namespace Go.Proofs.YtflplihhakepfaaDoor
namespace Rows

/-- THE TIED CARD OF 'laws.FnEncodeNibble'. -/
def fnEncodeNibbleCard : Claim7 := { stood := { row := fnEncodeNibbleRow, standIns := [], harness := (true, "cee5afa41a40bc18e71f845759ea2a9cac05ecd8c9fb8b1904d72f7f866b881d"), looks := false }, kinds := [], alts := [], laidByText := true, laidKinds := [.data, .data], laidTests := true, laidLooks := .later }
def FnEncodeNibbleCardSaid : Prop := Claim7.holds Tryd.pinned (.plain (OpenSpec.ofChange fnEncodeNibbleSpec)) fnEncodeNibbleCard

/-- THE TIED CARD OF 'laws.FnSyndromeOf'. -/
def fnSyndromeOfCard : Claim7 := { stood := { row := fnSyndromeOfRow, standIns := [], harness := (true, "cee5afa41a40bc18e71f845759ea2a9cac05ecd8c9fb8b1904d72f7f866b881d"), looks := false }, kinds := [], alts := [], laidByText := true, laidKinds := [.data], laidTests := true, laidLooks := .later }
def FnSyndromeOfCardSaid : Prop := Claim7.holds Tryd.pinned (.plain (OpenSpec.ofChange fnSyndromeOfSpec)) fnSyndromeOfCard

/-- THE TIED CARD OF 'laws.FnDecodeNibble'. -/
def fnDecodeNibbleCard : Claim7 := { stood := { row := fnDecodeNibbleRow, standIns := [], harness := (true, "cee5afa41a40bc18e71f845759ea2a9cac05ecd8c9fb8b1904d72f7f866b881d"), looks := false }, kinds := [], alts := [], laidByText := true, laidKinds := [.data, .data], laidTests := true, laidLooks := .later }
def FnDecodeNibbleCardSaid : Prop := Claim7.holds Tryd.pinned (.plain (OpenSpec.ofChange fnDecodeNibbleSpec)) fnDecodeNibbleCard

/-- THE TIED CARD OF 'laws.FnEncodeBlocks'. -/
def fnEncodeBlocksCard : Claim7 := { stood := { row := fnEncodeBlocksRow, standIns := [], harness := (true, "cee5afa41a40bc18e71f845759ea2a9cac05ecd8c9fb8b1904d72f7f866b881d"), looks := false }, kinds := [], alts := [], laidByText := true, laidKinds := [.data, .data], laidTests := true, laidLooks := .later }
def FnEncodeBlocksCardSaid : Prop := Claim7.holds Tryd.pinned (.plain (OpenSpec.ofChange fnEncodeBlocksSpec)) fnEncodeBlocksCard

/-- THE TIED CARD OF 'laws.FnDecodeBlocks'. -/
def fnDecodeBlocksCard : Claim7 := { stood := { row := fnDecodeBlocksRow, standIns := [], harness := (true, "cee5afa41a40bc18e71f845759ea2a9cac05ecd8c9fb8b1904d72f7f866b881d"), looks := false }, kinds := [], alts := [], laidByText := true, laidKinds := [.data, .data], laidTests := true, laidLooks := .later }
def FnDecodeBlocksCardSaid : Prop := Claim7.holds Tryd.pinned (.plain (OpenSpec.ofChange fnDecodeBlocksSpec)) fnDecodeBlocksCard

/-- THE TIED CARD OF 'laws.FnCheckedBlocks'. -/
def fnCheckedBlocksCard : Claim7 := { stood := { row := fnCheckedBlocksRow, standIns := [], harness := (true, "cee5afa41a40bc18e71f845759ea2a9cac05ecd8c9fb8b1904d72f7f866b881d"), looks := false }, kinds := [], alts := [], laidByText := true, laidKinds := [.data, .data], laidTests := true, laidLooks := .later }
def FnCheckedBlocksCardSaid : Prop := Claim7.holds Tryd.pinned (.plain (OpenSpec.ofChange fnCheckedBlocksSpec)) fnCheckedBlocksCard

/-- THE TIED CARD OF 'laws.FnNibbleTwo'. -/
def fnNibbleTwoCard : Claim7 := { stood := { row := fnNibbleTwoRow, standIns := [], harness := (true, "cee5afa41a40bc18e71f845759ea2a9cac05ecd8c9fb8b1904d72f7f866b881d"), looks := false }, kinds := [], alts := [], laidByText := true, laidKinds := [.data, .data], laidTests := true, laidLooks := .later }
def FnNibbleTwoCardSaid : Prop := Claim7.holds Tryd.pinned (.plain (OpenSpec.ofChange fnNibbleTwoSpec)) fnNibbleTwoCard

/-- THE SECOND FORM's CARD OF 'laws.FnEncodeNibble'. -/
def fnEncodeNibbleUptoCard : Claim7 := { stood := { row := fnEncodeNibbleUptoRow, standIns := [], harness := (true, "cee5afa41a40bc18e71f845759ea2a9cac05ecd8c9fb8b1904d72f7f866b881d"), looks := false }, kinds := [], alts := [], laidByText := true, laidKinds := [.data, .data], laidTests := true, laidLooks := .later }
def FnEncodeNibbleUptoCardSaid : Prop := Claim7.holds Tryd.pinned (.plain (OpenSpec.upto fnEncodeNibbleSpec)) fnEncodeNibbleUptoCard

/-- THE SECOND FORM's CARD OF 'laws.FnSyndromeOf'. -/
def fnSyndromeOfUptoCard : Claim7 := { stood := { row := fnSyndromeOfUptoRow, standIns := [], harness := (true, "cee5afa41a40bc18e71f845759ea2a9cac05ecd8c9fb8b1904d72f7f866b881d"), looks := false }, kinds := [], alts := [], laidByText := true, laidKinds := [.data], laidTests := true, laidLooks := .later }
def FnSyndromeOfUptoCardSaid : Prop := Claim7.holds Tryd.pinned (.plain (OpenSpec.upto fnSyndromeOfSpec)) fnSyndromeOfUptoCard

/-- THE SECOND FORM's CARD OF 'laws.FnDecodeNibble'. -/
def fnDecodeNibbleUptoCard : Claim7 := { stood := { row := fnDecodeNibbleUptoRow, standIns := [], harness := (true, "cee5afa41a40bc18e71f845759ea2a9cac05ecd8c9fb8b1904d72f7f866b881d"), looks := false }, kinds := [], alts := [], laidByText := true, laidKinds := [.data, .data], laidTests := true, laidLooks := .later }
def FnDecodeNibbleUptoCardSaid : Prop := Claim7.holds Tryd.pinned (.plain (OpenSpec.upto fnDecodeNibbleSpec)) fnDecodeNibbleUptoCard

/-- THE SECOND FORM's CARD OF 'laws.FnEncodeBlocks'. -/
def fnEncodeBlocksUptoCard : Claim7 := { stood := { row := fnEncodeBlocksUptoRow, standIns := [], harness := (true, "cee5afa41a40bc18e71f845759ea2a9cac05ecd8c9fb8b1904d72f7f866b881d"), looks := false }, kinds := [], alts := [], laidByText := true, laidKinds := [.data, .data], laidTests := true, laidLooks := .later }
def FnEncodeBlocksUptoCardSaid : Prop := Claim7.holds Tryd.pinned (.plain (OpenSpec.upto fnEncodeBlocksSpec)) fnEncodeBlocksUptoCard

/-- THE SECOND FORM's CARD OF 'laws.FnDecodeBlocks'. -/
def fnDecodeBlocksUptoCard : Claim7 := { stood := { row := fnDecodeBlocksUptoRow, standIns := [], harness := (true, "cee5afa41a40bc18e71f845759ea2a9cac05ecd8c9fb8b1904d72f7f866b881d"), looks := false }, kinds := [], alts := [], laidByText := true, laidKinds := [.data, .data], laidTests := true, laidLooks := .later }
def FnDecodeBlocksUptoCardSaid : Prop := Claim7.holds Tryd.pinned (.plain (OpenSpec.upto fnDecodeBlocksSpec)) fnDecodeBlocksUptoCard

/-- THE SECOND FORM's CARD OF 'laws.FnCheckedBlocks'. -/
def fnCheckedBlocksUptoCard : Claim7 := { stood := { row := fnCheckedBlocksUptoRow, standIns := [], harness := (true, "cee5afa41a40bc18e71f845759ea2a9cac05ecd8c9fb8b1904d72f7f866b881d"), looks := false }, kinds := [], alts := [], laidByText := true, laidKinds := [.data, .data], laidTests := true, laidLooks := .later }
def FnCheckedBlocksUptoCardSaid : Prop := Claim7.holds Tryd.pinned (.plain (OpenSpec.upto fnCheckedBlocksSpec)) fnCheckedBlocksUptoCard

/-- THE SECOND FORM's CARD OF 'laws.FnNibbleTwo'. -/
def fnNibbleTwoUptoCard : Claim7 := { stood := { row := fnNibbleTwoUptoRow, standIns := [], harness := (true, "cee5afa41a40bc18e71f845759ea2a9cac05ecd8c9fb8b1904d72f7f866b881d"), looks := false }, kinds := [], alts := [], laidByText := true, laidKinds := [.data, .data], laidTests := true, laidLooks := .later }
def FnNibbleTwoUptoCardSaid : Prop := Claim7.holds Tryd.pinned (.plain (OpenSpec.upto fnNibbleTwoSpec)) fnNibbleTwoUptoCard
end Rows
end Go.Proofs.YtflplihhakepfaaDoor
