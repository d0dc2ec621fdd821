/-
  DERIVED. GIVEN WITH THE SEED: THE CARDS: each row of YtgmcdnabgojaeaaGreatDoorRows.lean that lists a variable, with what it lists TIED to the program's text (the seventh form; the later family's looks); each row that meets fmt, with fmt's text TOLD by the authors' own Lean function (tested against real Go, not proved from fmt's source: count such statements apart). THE CARD IS WHAT COUNTS. Prove the row's statement (the work); the ties are given (YtgmcdnabgojaeaaGreatDoorTie.lean); close each card by the builder's one call (the guide's Derived/Test/ToyasCard.lean, 'card_holds'). Laid BY PROGRAM, IN A SANDBOX (cutbox-door.mjs). By AI agents, Wed Nov 11 2026. No macro, syntax, notation, axiom, sorry.
-/
import Derived.Test.YtgmcdnabgojaeaaGreatDoorRows
import GoSem.ClaimSeven
namespace Go.Proofs.YtgmcdnabgojaeaaGreatDoor
namespace Rows

/-- THE TIED CARD OF 'cusplaw01.GridNear'. -/
def gridNearCard : Claim7 := { stood := { row := gridNearRow, standIns := [], harness := (true, "e57e0cfdd77af01a13691f1561e72c4b5d2579bd4e527d9d2e72b105ab7d017c"), looks := false }, kinds := [], alts := [], laidByText := true, laidKinds := [.data, .data, .data], laidTests := true, laidLooks := .later }
def GridNearCardSaid : Prop := Claim7.holds Tryz.pinned (.plain (OpenSpec.ofChange gridNearSpec)) gridNearCard

/-- THE SECOND FORM's CARD OF 'cusplaw01.GridNear'. -/
def gridNearUptoCard : Claim7 := { stood := { row := gridNearUptoRow, standIns := [], harness := (true, "e57e0cfdd77af01a13691f1561e72c4b5d2579bd4e527d9d2e72b105ab7d017c"), looks := false }, kinds := [], alts := [], laidByText := true, laidKinds := [.data, .data, .data], laidTests := true, laidLooks := .later }
def GridNearUptoCardSaid : Prop := Claim7.holds Tryz.pinned (.plain (OpenSpec.upto gridNearSpec)) gridNearUptoCard
end Rows
end Go.Proofs.YtgmcdnabgojaeaaGreatDoor
