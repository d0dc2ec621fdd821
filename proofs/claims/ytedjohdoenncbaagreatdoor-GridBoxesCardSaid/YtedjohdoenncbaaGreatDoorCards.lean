/-
  DERIVED. GIVEN WITH THE SEED: THE CARDS: each row of YtedjohdoenncbaaGreatDoorRows.lean that lists a variable, with what it lists TIED to the program's text (the seventh form; the later family's looks); each row that meets fmt, with fmt's text TOLD by the authors' own Lean function (tested against real Go, not proved from fmt's source: count such statements apart). THE CARD IS WHAT COUNTS. Prove the row's statement (the work); the ties are given (YtedjohdoenncbaaGreatDoorTie.lean); close each card by the builder's one call (the guide's Derived/Test/ToyasCard.lean, 'card_holds'). Laid BY PROGRAM, IN A SANDBOX (cutbox-door.mjs). By AI agents, Wed Nov 11 2026. No macro, syntax, notation, axiom, sorry.
-/
import Derived.Test.YtedjohdoenncbaaGreatDoorRows
import GoSem.ClaimSeven
namespace Go.Proofs.YtedjohdoenncbaaGreatDoor
namespace Rows

/-- THE TIED CARD OF 'cusplaw01.GridSets'. -/
def gridSetsCard : Claim7 := { stood := { row := gridSetsRow, standIns := [], harness := (true, "22f938a083190d115ae2abf46a580c400be7203fdc3deb14b50ac6197db8cadb"), looks := false }, kinds := [], alts := [], laidByText := true, laidKinds := [.data, .data, .data], laidTests := true, laidLooks := .later }
def GridSetsCardSaid : Prop := Claim7.holds Tryz.pinned (.plain (OpenSpec.ofChange gridSetsSpec)) gridSetsCard

/-- THE TIED CARD OF 'cusplaw01.GridBoxes'. -/
def gridBoxesCard : Claim7 := { stood := { row := gridBoxesRow, standIns := [], harness := (true, "22f938a083190d115ae2abf46a580c400be7203fdc3deb14b50ac6197db8cadb"), looks := false }, kinds := [], alts := [], laidByText := true, laidKinds := [.data, .data, .data], laidTests := true, laidLooks := .later }
def GridBoxesCardSaid : Prop := Claim7.holds Tryz.pinned (.plain (OpenSpec.ofChange gridBoxesSpec)) gridBoxesCard

/-- THE TIED CARD OF 'cusplaw01.GridMoves'. -/
def gridMovesCard : Claim7 := { stood := { row := gridMovesRow, standIns := [], harness := (true, "22f938a083190d115ae2abf46a580c400be7203fdc3deb14b50ac6197db8cadb"), looks := false }, kinds := [], alts := [], laidByText := true, laidKinds := [.data, .data, .data], laidTests := true, laidLooks := .later }
def GridMovesCardSaid : Prop := Claim7.holds Tryz.pinned (.plain (OpenSpec.ofChange gridMovesSpec)) gridMovesCard

/-- THE TIED CARD OF 'cusplaw01.GridParts'. -/
def gridPartsCard : Claim7 := { stood := { row := gridPartsRow, standIns := [], harness := (true, "22f938a083190d115ae2abf46a580c400be7203fdc3deb14b50ac6197db8cadb"), looks := false }, kinds := [], alts := [], laidByText := true, laidKinds := [.data, .data, .data], laidTests := true, laidLooks := .later }
def GridPartsCardSaid : Prop := Claim7.holds Tryz.pinned (.plain (OpenSpec.ofChange gridPartsSpec)) gridPartsCard

/-- THE TIED CARD OF 'cusplaw01.GridGrows'. -/
def gridGrowsCard : Claim7 := { stood := { row := gridGrowsRow, standIns := [], harness := (true, "22f938a083190d115ae2abf46a580c400be7203fdc3deb14b50ac6197db8cadb"), looks := false }, kinds := [], alts := [], laidByText := true, laidKinds := [.data, .data, .data], laidTests := true, laidLooks := .later }
def GridGrowsCardSaid : Prop := Claim7.holds Tryz.pinned (.plain (OpenSpec.ofChange gridGrowsSpec)) gridGrowsCard

/-- THE TIED CARD OF 'cusplaw01.GridNear'. -/
def gridNearCard : Claim7 := { stood := { row := gridNearRow, standIns := [], harness := (true, "22f938a083190d115ae2abf46a580c400be7203fdc3deb14b50ac6197db8cadb"), looks := false }, kinds := [], alts := [], laidByText := true, laidKinds := [.data, .data, .data], laidTests := true, laidLooks := .later }
def GridNearCardSaid : Prop := Claim7.holds Tryz.pinned (.plain (OpenSpec.ofChange gridNearSpec)) gridNearCard

/-- THE SECOND FORM's CARD OF 'cusplaw01.GridSets'. -/
def gridSetsUptoCard : Claim7 := { stood := { row := gridSetsUptoRow, standIns := [], harness := (true, "22f938a083190d115ae2abf46a580c400be7203fdc3deb14b50ac6197db8cadb"), looks := false }, kinds := [], alts := [], laidByText := true, laidKinds := [.data, .data, .data], laidTests := true, laidLooks := .later }
def GridSetsUptoCardSaid : Prop := Claim7.holds Tryz.pinned (.plain (OpenSpec.upto gridSetsSpec)) gridSetsUptoCard

/-- THE SECOND FORM's CARD OF 'cusplaw01.GridBoxes'. -/
def gridBoxesUptoCard : Claim7 := { stood := { row := gridBoxesUptoRow, standIns := [], harness := (true, "22f938a083190d115ae2abf46a580c400be7203fdc3deb14b50ac6197db8cadb"), looks := false }, kinds := [], alts := [], laidByText := true, laidKinds := [.data, .data, .data], laidTests := true, laidLooks := .later }
def GridBoxesUptoCardSaid : Prop := Claim7.holds Tryz.pinned (.plain (OpenSpec.upto gridBoxesSpec)) gridBoxesUptoCard

/-- THE SECOND FORM's CARD OF 'cusplaw01.GridMoves'. -/
def gridMovesUptoCard : Claim7 := { stood := { row := gridMovesUptoRow, standIns := [], harness := (true, "22f938a083190d115ae2abf46a580c400be7203fdc3deb14b50ac6197db8cadb"), looks := false }, kinds := [], alts := [], laidByText := true, laidKinds := [.data, .data, .data], laidTests := true, laidLooks := .later }
def GridMovesUptoCardSaid : Prop := Claim7.holds Tryz.pinned (.plain (OpenSpec.upto gridMovesSpec)) gridMovesUptoCard

/-- THE SECOND FORM's CARD OF 'cusplaw01.GridParts'. -/
def gridPartsUptoCard : Claim7 := { stood := { row := gridPartsUptoRow, standIns := [], harness := (true, "22f938a083190d115ae2abf46a580c400be7203fdc3deb14b50ac6197db8cadb"), looks := false }, kinds := [], alts := [], laidByText := true, laidKinds := [.data, .data, .data], laidTests := true, laidLooks := .later }
def GridPartsUptoCardSaid : Prop := Claim7.holds Tryz.pinned (.plain (OpenSpec.upto gridPartsSpec)) gridPartsUptoCard

/-- THE SECOND FORM's CARD OF 'cusplaw01.GridGrows'. -/
def gridGrowsUptoCard : Claim7 := { stood := { row := gridGrowsUptoRow, standIns := [], harness := (true, "22f938a083190d115ae2abf46a580c400be7203fdc3deb14b50ac6197db8cadb"), looks := false }, kinds := [], alts := [], laidByText := true, laidKinds := [.data, .data, .data], laidTests := true, laidLooks := .later }
def GridGrowsUptoCardSaid : Prop := Claim7.holds Tryz.pinned (.plain (OpenSpec.upto gridGrowsSpec)) gridGrowsUptoCard

/-- THE SECOND FORM's CARD OF 'cusplaw01.GridNear'. -/
def gridNearUptoCard : Claim7 := { stood := { row := gridNearUptoRow, standIns := [], harness := (true, "22f938a083190d115ae2abf46a580c400be7203fdc3deb14b50ac6197db8cadb"), looks := false }, kinds := [], alts := [], laidByText := true, laidKinds := [.data, .data, .data], laidTests := true, laidLooks := .later }
def GridNearUptoCardSaid : Prop := Claim7.holds Tryz.pinned (.plain (OpenSpec.upto gridNearSpec)) gridNearUptoCard
end Rows
end Go.Proofs.YtedjohdoenncbaaGreatDoor
