/-
  DERIVED. GIVEN WITH THE SEED: THE CARDS: each row of YtokhbkhoidpefaaGreatDoorRows.lean that lists a variable, with what it lists TIED to the program's text (the seventh form; the later family's looks); each row that meets fmt, with fmt's text TOLD by the authors' own Lean function (tested against real Go, not proved from fmt's source: count such statements apart). THE CARD IS WHAT COUNTS. Prove the row's statement (the work); the ties are given (YtokhbkhoidpefaaGreatDoorTie.lean); close each card by the builder's one call (the guide's Derived/Test/ToyasCard.lean, 'card_holds'). Laid BY PROGRAM, IN A SANDBOX (cutbox-door.mjs). By AI agents, Wed Nov 11 2026. No macro, syntax, notation, axiom, sorry.
-/
import Derived.Test.YtokhbkhoidpefaaGreatDoorRows
import GoSem.ClaimSeven
namespace Go.Proofs.YtokhbkhoidpefaaGreatDoor
namespace Rows

/-- THE TIED CARD OF 'cusplaw01.GridMoves'. -/
def gridMovesCard : Claim7 := { stood := { row := gridMovesRow, standIns := [], harness := (true, "43774ac8585455f35a64a0a868ac94e0d27ea37fad9b5558795e03a2a5a609ed"), looks := false }, kinds := [], alts := [], laidByText := true, laidKinds := [.data, .data, .data], laidTests := true, laidLooks := .later }
def GridMovesCardSaid : Prop := Claim7.holds Tryz.pinned (.plain (OpenSpec.ofChange gridMovesSpec)) gridMovesCard

/-- THE TIED CARD OF 'cusplaw01.GridParts'. -/
def gridPartsCard : Claim7 := { stood := { row := gridPartsRow, standIns := [], harness := (true, "43774ac8585455f35a64a0a868ac94e0d27ea37fad9b5558795e03a2a5a609ed"), looks := false }, kinds := [], alts := [], laidByText := true, laidKinds := [.data, .data, .data], laidTests := true, laidLooks := .later }
def GridPartsCardSaid : Prop := Claim7.holds Tryz.pinned (.plain (OpenSpec.ofChange gridPartsSpec)) gridPartsCard

/-- THE TIED CARD OF 'cusplaw01.GridGrows'. -/
def gridGrowsCard : Claim7 := { stood := { row := gridGrowsRow, standIns := [], harness := (true, "43774ac8585455f35a64a0a868ac94e0d27ea37fad9b5558795e03a2a5a609ed"), looks := false }, kinds := [], alts := [], laidByText := true, laidKinds := [.data, .data, .data], laidTests := true, laidLooks := .later }
def GridGrowsCardSaid : Prop := Claim7.holds Tryz.pinned (.plain (OpenSpec.ofChange gridGrowsSpec)) gridGrowsCard

/-- THE TIED CARD OF 'cusplaw01.GridNear'. -/
def gridNearCard : Claim7 := { stood := { row := gridNearRow, standIns := [], harness := (true, "43774ac8585455f35a64a0a868ac94e0d27ea37fad9b5558795e03a2a5a609ed"), looks := false }, kinds := [], alts := [], laidByText := true, laidKinds := [.data, .data, .data], laidTests := true, laidLooks := .later }
def GridNearCardSaid : Prop := Claim7.holds Tryz.pinned (.plain (OpenSpec.ofChange gridNearSpec)) gridNearCard

/-- THE SECOND FORM's CARD OF 'cusplaw01.GridMoves'. -/
def gridMovesUptoCard : Claim7 := { stood := { row := gridMovesUptoRow, standIns := [], harness := (true, "43774ac8585455f35a64a0a868ac94e0d27ea37fad9b5558795e03a2a5a609ed"), looks := false }, kinds := [], alts := [], laidByText := true, laidKinds := [.data, .data, .data], laidTests := true, laidLooks := .later }
def GridMovesUptoCardSaid : Prop := Claim7.holds Tryz.pinned (.plain (OpenSpec.upto gridMovesSpec)) gridMovesUptoCard

/-- THE SECOND FORM's CARD OF 'cusplaw01.GridParts'. -/
def gridPartsUptoCard : Claim7 := { stood := { row := gridPartsUptoRow, standIns := [], harness := (true, "43774ac8585455f35a64a0a868ac94e0d27ea37fad9b5558795e03a2a5a609ed"), looks := false }, kinds := [], alts := [], laidByText := true, laidKinds := [.data, .data, .data], laidTests := true, laidLooks := .later }
def GridPartsUptoCardSaid : Prop := Claim7.holds Tryz.pinned (.plain (OpenSpec.upto gridPartsSpec)) gridPartsUptoCard

/-- THE SECOND FORM's CARD OF 'cusplaw01.GridGrows'. -/
def gridGrowsUptoCard : Claim7 := { stood := { row := gridGrowsUptoRow, standIns := [], harness := (true, "43774ac8585455f35a64a0a868ac94e0d27ea37fad9b5558795e03a2a5a609ed"), looks := false }, kinds := [], alts := [], laidByText := true, laidKinds := [.data, .data, .data], laidTests := true, laidLooks := .later }
def GridGrowsUptoCardSaid : Prop := Claim7.holds Tryz.pinned (.plain (OpenSpec.upto gridGrowsSpec)) gridGrowsUptoCard

/-- THE SECOND FORM's CARD OF 'cusplaw01.GridNear'. -/
def gridNearUptoCard : Claim7 := { stood := { row := gridNearUptoRow, standIns := [], harness := (true, "43774ac8585455f35a64a0a868ac94e0d27ea37fad9b5558795e03a2a5a609ed"), looks := false }, kinds := [], alts := [], laidByText := true, laidKinds := [.data, .data, .data], laidTests := true, laidLooks := .later }
def GridNearUptoCardSaid : Prop := Claim7.holds Tryz.pinned (.plain (OpenSpec.upto gridNearSpec)) gridNearUptoCard
end Rows
end Go.Proofs.YtokhbkhoidpefaaGreatDoor
