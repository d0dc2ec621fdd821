/-
  DERIVED. GIVEN WITH THE SEED: THE CARDS: each row of YtmmedmjjbdopjaaGreatDoorRows.lean that lists a variable, with what it lists TIED to the program's text (the seventh form; the later family's looks); each row that meets fmt, with fmt's text TOLD by the authors' own Lean function (tested against real Go, not proved from fmt's source: count such statements apart). THE CARD IS WHAT COUNTS. Prove the row's statement (the work); the ties are given (YtmmedmjjbdopjaaGreatDoorTie.lean); close each card by the builder's one call (the guide's Derived/Test/ToyasCard.lean, 'card_holds'). Laid BY PROGRAM, IN A SANDBOX (cutbox-door.mjs). By AI agents, Wed Nov 11 2026. No macro, syntax, notation, axiom, sorry.
-/
import Derived.Test.YtmmedmjjbdopjaaGreatDoorRows
import GoSem.ClaimSeven
namespace Go.Proofs.YtmmedmjjbdopjaaGreatDoor
namespace Rows

/-- THE TIED CARD OF 'cusplaw01.GridDeals'. -/
def gridDealsCard : Claim7 := { stood := { row := gridDealsRow, standIns := [], harness := (true, "ce360b2b7aca6eb054585a278b192649dd33746039f834c67b01c3e7e5f952cd"), looks := false }, kinds := [], alts := [], laidByText := true, laidKinds := [.data, .data, .data], laidTests := true, laidLooks := .later }
def GridDealsCardSaid : Prop := Claim7.holds Tryz.pinned (.plain (OpenSpec.ofChange gridDealsSpec)) gridDealsCard

/-- THE SECOND FORM's CARD OF 'cusplaw01.GridDeals'. -/
def gridDealsUptoCard : Claim7 := { stood := { row := gridDealsUptoRow, standIns := [], harness := (true, "ce360b2b7aca6eb054585a278b192649dd33746039f834c67b01c3e7e5f952cd"), looks := false }, kinds := [], alts := [], laidByText := true, laidKinds := [.data, .data, .data], laidTests := true, laidLooks := .later }
def GridDealsUptoCardSaid : Prop := Claim7.holds Tryz.pinned (.plain (OpenSpec.upto gridDealsSpec)) gridDealsUptoCard
end Rows
end Go.Proofs.YtmmedmjjbdopjaaGreatDoor
