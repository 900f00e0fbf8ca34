/-
  DERIVED. GIVEN WITH THE SEED: THE CARDS: each row of YtibgpgifdjefnaaDoorRows.lean that lists a variable, with what it lists TIED to the program's text (the seventh form; the later family's looks); each row that meets fmt, with fmt's text TOLD by the authors' own Lean function (tested against real Go, not proved from fmt's source: count such statements apart). THE CARD IS WHAT COUNTS. Prove the row's statement (the work); the ties are given (YtibgpgifdjefnaaDoorTie.lean); close each card by the builder's one call (the guide's Derived/Test/ToyasCard.lean, 'card_holds'). Laid BY PROGRAM, IN A SANDBOX (cutbox-door.mjs). By AI agents, Wed Nov 11 2026. No macro, syntax, notation, axiom, sorry.
-/
import Derived.Test.YtibgpgifdjefnaaDoorRows
import GoSem.ClaimSeven
namespace Go.Proofs.YtibgpgifdjefnaaDoor
namespace Rows

/-- THE TIED CARD OF 'laws.FnBestSlots'. -/
def fnBestSlotsCard : Claim7 := { stood := { row := fnBestSlotsRow, standIns := [], harness := (true, "5c74b4811cb0120523acf5ffd9cbcca73b4319482ec6d3bdb367c79d25249120"), looks := false }, kinds := [], alts := [], laidByText := true, laidKinds := [.data], laidTests := true, laidLooks := .later }
def FnBestSlotsCardSaid : Prop := Claim7.holds Tryd.pinned (.plain (OpenSpec.ofChange fnBestSlotsSpec)) fnBestSlotsCard

/-- THE TIED CARD OF 'laws.FnGroupSize'. -/
def fnGroupSizeCard : Claim7 := { stood := { row := fnGroupSizeRow, standIns := [], harness := (true, "5c74b4811cb0120523acf5ffd9cbcca73b4319482ec6d3bdb367c79d25249120"), looks := false }, kinds := [], alts := [], laidByText := true, laidKinds := [.data], laidTests := true, laidLooks := .later }
def FnGroupSizeCardSaid : Prop := Claim7.holds Tryd.pinned (.plain (OpenSpec.ofChange fnGroupSizeSpec)) fnGroupSizeCard

/-- THE TIED CARD OF 'laws.FnSlotsComplete'. -/
def fnSlotsCompleteCard : Claim7 := { stood := { row := fnSlotsCompleteRow, standIns := [], harness := (true, "5c74b4811cb0120523acf5ffd9cbcca73b4319482ec6d3bdb367c79d25249120"), looks := false }, kinds := [], alts := [], laidByText := true, laidKinds := [.data], laidTests := true, laidLooks := .later }
def FnSlotsCompleteCardSaid : Prop := Claim7.holds Tryd.pinned (.plain (OpenSpec.ofChange fnSlotsCompleteSpec)) fnSlotsCompleteCard

/-- THE TIED CARD OF 'laws.FnExactGroupSize'. -/
def fnExactGroupSizeCard : Claim7 := { stood := { row := fnExactGroupSizeRow, standIns := [], harness := (true, "5c74b4811cb0120523acf5ffd9cbcca73b4319482ec6d3bdb367c79d25249120"), looks := false }, kinds := [], alts := [], laidByText := true, laidKinds := [.data], laidTests := true, laidLooks := .later }
def FnExactGroupSizeCardSaid : Prop := Claim7.holds Tryd.pinned (.plain (OpenSpec.ofChange fnExactGroupSizeSpec)) fnExactGroupSizeCard

/-- THE SECOND FORM's CARD OF 'laws.FnBestSlots'. -/
def fnBestSlotsUptoCard : Claim7 := { stood := { row := fnBestSlotsUptoRow, standIns := [], harness := (true, "5c74b4811cb0120523acf5ffd9cbcca73b4319482ec6d3bdb367c79d25249120"), looks := false }, kinds := [], alts := [], laidByText := true, laidKinds := [.data], laidTests := true, laidLooks := .later }
def FnBestSlotsUptoCardSaid : Prop := Claim7.holds Tryd.pinned (.plain (OpenSpec.upto fnBestSlotsSpec)) fnBestSlotsUptoCard

/-- THE SECOND FORM's CARD OF 'laws.FnGroupSize'. -/
def fnGroupSizeUptoCard : Claim7 := { stood := { row := fnGroupSizeUptoRow, standIns := [], harness := (true, "5c74b4811cb0120523acf5ffd9cbcca73b4319482ec6d3bdb367c79d25249120"), looks := false }, kinds := [], alts := [], laidByText := true, laidKinds := [.data], laidTests := true, laidLooks := .later }
def FnGroupSizeUptoCardSaid : Prop := Claim7.holds Tryd.pinned (.plain (OpenSpec.upto fnGroupSizeSpec)) fnGroupSizeUptoCard

/-- THE SECOND FORM's CARD OF 'laws.FnSlotsComplete'. -/
def fnSlotsCompleteUptoCard : Claim7 := { stood := { row := fnSlotsCompleteUptoRow, standIns := [], harness := (true, "5c74b4811cb0120523acf5ffd9cbcca73b4319482ec6d3bdb367c79d25249120"), looks := false }, kinds := [], alts := [], laidByText := true, laidKinds := [.data], laidTests := true, laidLooks := .later }
def FnSlotsCompleteUptoCardSaid : Prop := Claim7.holds Tryd.pinned (.plain (OpenSpec.upto fnSlotsCompleteSpec)) fnSlotsCompleteUptoCard

/-- THE SECOND FORM's CARD OF 'laws.FnExactGroupSize'. -/
def fnExactGroupSizeUptoCard : Claim7 := { stood := { row := fnExactGroupSizeUptoRow, standIns := [], harness := (true, "5c74b4811cb0120523acf5ffd9cbcca73b4319482ec6d3bdb367c79d25249120"), looks := false }, kinds := [], alts := [], laidByText := true, laidKinds := [.data], laidTests := true, laidLooks := .later }
def FnExactGroupSizeUptoCardSaid : Prop := Claim7.holds Tryd.pinned (.plain (OpenSpec.upto fnExactGroupSizeSpec)) fnExactGroupSizeUptoCard
end Rows
end Go.Proofs.YtibgpgifdjefnaaDoor
