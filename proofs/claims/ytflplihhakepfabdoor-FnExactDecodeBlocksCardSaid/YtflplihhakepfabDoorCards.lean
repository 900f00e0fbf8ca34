/-
  DERIVED. GIVEN WITH THE SEED: THE CARDS: each row of YtflplihhakepfabDoorRows.lean that lists a variable, with what it lists TIED to the program's text (the seventh form; the later family's looks); each row that meets fmt, with fmt's text TOLD by the authors' own Lean function (tested against real Go, not proved from fmt's source: count such statements apart). THE CARD IS WHAT COUNTS. Prove the row's statement (the work); the ties are given (YtflplihhakepfabDoorTie.lean); close each card by the builder's one call (the guide's Derived/Test/ToyasCard.lean, 'card_holds'). Laid BY PROGRAM, IN A SANDBOX (cutbox-door.mjs). By AI agents, Wed Nov 11 2026. No macro, syntax, notation, axiom, sorry.
-/
import Derived.Test.YtflplihhakepfabDoorRows
import GoSem.ClaimSeven
namespace Go.Proofs.YtflplihhakepfabDoor
namespace Rows

/-- THE TIED CARD OF 'laws.FnExactSyndromeOf'. -/
def fnExactSyndromeOfCard : Claim7 := { stood := { row := fnExactSyndromeOfRow, standIns := [], harness := (true, "1be3d05564c0801cd0f75a0649f4bdc7fcaccf44eb89cf905cf776113a2da73a"), looks := false }, kinds := [], alts := [], laidByText := true, laidKinds := [.data], laidTests := true, laidLooks := .later }
def FnExactSyndromeOfCardSaid : Prop := Claim7.holds Tryd.pinned (.plain (OpenSpec.ofChange fnExactSyndromeOfSpec)) fnExactSyndromeOfCard

/-- THE TIED CARD OF 'laws.FnExactDecodeNibble'. -/
def fnExactDecodeNibbleCard : Claim7 := { stood := { row := fnExactDecodeNibbleRow, standIns := [], harness := (true, "1be3d05564c0801cd0f75a0649f4bdc7fcaccf44eb89cf905cf776113a2da73a"), looks := false }, kinds := [], alts := [], laidByText := true, laidKinds := [.data, .data], laidTests := true, laidLooks := .later }
def FnExactDecodeNibbleCardSaid : Prop := Claim7.holds Tryd.pinned (.plain (OpenSpec.ofChange fnExactDecodeNibbleSpec)) fnExactDecodeNibbleCard

/-- THE TIED CARD OF 'laws.FnExactDecodeBlocks'. -/
def fnExactDecodeBlocksCard : Claim7 := { stood := { row := fnExactDecodeBlocksRow, standIns := [], harness := (true, "1be3d05564c0801cd0f75a0649f4bdc7fcaccf44eb89cf905cf776113a2da73a"), looks := false }, kinds := [], alts := [], laidByText := true, laidKinds := [.data, .data], laidTests := true, laidLooks := .later }
def FnExactDecodeBlocksCardSaid : Prop := Claim7.holds Tryd.pinned (.plain (OpenSpec.ofChange fnExactDecodeBlocksSpec)) fnExactDecodeBlocksCard

/-- THE SECOND FORM's CARD OF 'laws.FnExactSyndromeOf'. -/
def fnExactSyndromeOfUptoCard : Claim7 := { stood := { row := fnExactSyndromeOfUptoRow, standIns := [], harness := (true, "1be3d05564c0801cd0f75a0649f4bdc7fcaccf44eb89cf905cf776113a2da73a"), looks := false }, kinds := [], alts := [], laidByText := true, laidKinds := [.data], laidTests := true, laidLooks := .later }
def FnExactSyndromeOfUptoCardSaid : Prop := Claim7.holds Tryd.pinned (.plain (OpenSpec.upto fnExactSyndromeOfSpec)) fnExactSyndromeOfUptoCard

/-- THE SECOND FORM's CARD OF 'laws.FnExactDecodeNibble'. -/
def fnExactDecodeNibbleUptoCard : Claim7 := { stood := { row := fnExactDecodeNibbleUptoRow, standIns := [], harness := (true, "1be3d05564c0801cd0f75a0649f4bdc7fcaccf44eb89cf905cf776113a2da73a"), looks := false }, kinds := [], alts := [], laidByText := true, laidKinds := [.data, .data], laidTests := true, laidLooks := .later }
def FnExactDecodeNibbleUptoCardSaid : Prop := Claim7.holds Tryd.pinned (.plain (OpenSpec.upto fnExactDecodeNibbleSpec)) fnExactDecodeNibbleUptoCard

/-- THE SECOND FORM's CARD OF 'laws.FnExactDecodeBlocks'. -/
def fnExactDecodeBlocksUptoCard : Claim7 := { stood := { row := fnExactDecodeBlocksUptoRow, standIns := [], harness := (true, "1be3d05564c0801cd0f75a0649f4bdc7fcaccf44eb89cf905cf776113a2da73a"), looks := false }, kinds := [], alts := [], laidByText := true, laidKinds := [.data, .data], laidTests := true, laidLooks := .later }
def FnExactDecodeBlocksUptoCardSaid : Prop := Claim7.holds Tryd.pinned (.plain (OpenSpec.upto fnExactDecodeBlocksSpec)) fnExactDecodeBlocksUptoCard
end Rows
end Go.Proofs.YtflplihhakepfabDoor
