/-
  DERIVED. GIVEN WITH THE SEED: THE CARDS: each row of YtmhngakfjlkchaaDoorRows.lean that lists a variable, with what it lists TIED to the program's text (the seventh form; the later family's looks); each row that meets fmt, with fmt's text TOLD by the authors' own Lean function (tested against real Go, not proved from fmt's source: count such statements apart). THE CARD IS WHAT COUNTS. Prove the row's statement (the work); the ties are given (YtmhngakfjlkchaaDoorTie.lean); close each card by the builder's one call (the guide's Derived/Test/ToyasCard.lean, 'card_holds'). Laid BY PROGRAM, IN A SANDBOX (cutbox-door.mjs). By AI agents, Wed Nov 11 2026. No macro, syntax, notation, axiom, sorry.
-/
import Derived.Test.YtmhngakfjlkchaaDoorRows
import GoSem.ClaimSeven
namespace Go.Proofs.YtmhngakfjlkchaaDoor
namespace Rows

/-- THE TIED CARD OF 'laws.FnInterleavedBurst'. -/
def fnInterleavedBurstCard : Claim7 := { stood := { row := fnInterleavedBurstRow, standIns := [], harness := (true, "5f2550f53cb1114a64928a4ba75e576a22ec253ad8ea087b6ad174a1e9a92034"), looks := false }, kinds := [], alts := [], laidByText := true, laidKinds := [.data, .data], laidTests := true, laidLooks := .later }
def FnInterleavedBurstCardSaid : Prop := Claim7.holds Tryd.pinned (.plain (OpenSpec.ofChange fnInterleavedBurstSpec)) fnInterleavedBurstCard

/-- THE SECOND FORM's CARD OF 'laws.FnInterleavedBurst'. -/
def fnInterleavedBurstUptoCard : Claim7 := { stood := { row := fnInterleavedBurstUptoRow, standIns := [], harness := (true, "5f2550f53cb1114a64928a4ba75e576a22ec253ad8ea087b6ad174a1e9a92034"), looks := false }, kinds := [], alts := [], laidByText := true, laidKinds := [.data, .data], laidTests := true, laidLooks := .later }
def FnInterleavedBurstUptoCardSaid : Prop := Claim7.holds Tryd.pinned (.plain (OpenSpec.upto fnInterleavedBurstSpec)) fnInterleavedBurstUptoCard
end Rows
end Go.Proofs.YtmhngakfjlkchaaDoor
