/-
  DERIVED. GIVEN WITH THE SEED: THE CARDS: each row of YtfdhppdkgfioaaaGreatDoorRows.lean that lists a variable, with what it lists TIED to the program's text (the seventh form; the later family's looks); each row that meets fmt, with fmt's text TOLD by the authors' own Lean function (tested against real Go, not proved from fmt's source: count such statements apart). THE CARD IS WHAT COUNTS. Prove the row's statement (the work); the ties are given (YtfdhppdkgfioaaaGreatDoorTie.lean); close each card by the builder's one call (the guide's Derived/Test/ToyasCard.lean, 'card_holds'). Laid BY PROGRAM, IN A SANDBOX (cutbox-door.mjs). By AI agents, Wed Nov 11 2026. No macro, syntax, notation, axiom, sorry.
-/
import Derived.Test.YtfdhppdkgfioaaaGreatDoorRows
import GoSem.ClaimSeven
namespace Go.Proofs.YtfdhppdkgfioaaaGreatDoor
namespace Rows

/-- THE TIED CARD OF 'cusplaw01.GridParts'. -/
def gridPartsCard : Claim7 := { stood := { row := gridPartsRow, standIns := [], harness := (true, "23a69930e94a71295a4938a8e63b7962c57a0490f14c9e60a22cdf2657892b7d"), looks := false }, kinds := [], alts := [], laidByText := true, laidKinds := [.data, .data, .data], laidTests := true, laidLooks := .later }
def GridPartsCardSaid : Prop := Claim7.holds Tryz.pinned (.plain (OpenSpec.ofChange gridPartsSpec)) gridPartsCard

/-- THE TIED CARD OF 'cusplaw01.GridWays'. -/
def gridWaysCard : Claim7 := { stood := { row := gridWaysRow, standIns := [], harness := (true, "23a69930e94a71295a4938a8e63b7962c57a0490f14c9e60a22cdf2657892b7d"), looks := false }, kinds := [], alts := [], laidByText := true, laidKinds := [.data, .data, .data], laidTests := true, laidLooks := .later }
def GridWaysCardSaid : Prop := Claim7.holds Tryz.pinned (.plain (OpenSpec.ofChange gridWaysSpec)) gridWaysCard

/-- THE SECOND FORM's CARD OF 'cusplaw01.GridParts'. -/
def gridPartsUptoCard : Claim7 := { stood := { row := gridPartsUptoRow, standIns := [], harness := (true, "23a69930e94a71295a4938a8e63b7962c57a0490f14c9e60a22cdf2657892b7d"), looks := false }, kinds := [], alts := [], laidByText := true, laidKinds := [.data, .data, .data], laidTests := true, laidLooks := .later }
def GridPartsUptoCardSaid : Prop := Claim7.holds Tryz.pinned (.plain (OpenSpec.upto gridPartsSpec)) gridPartsUptoCard

/-- THE SECOND FORM's CARD OF 'cusplaw01.GridWays'. -/
def gridWaysUptoCard : Claim7 := { stood := { row := gridWaysUptoRow, standIns := [], harness := (true, "23a69930e94a71295a4938a8e63b7962c57a0490f14c9e60a22cdf2657892b7d"), looks := false }, kinds := [], alts := [], laidByText := true, laidKinds := [.data, .data, .data], laidTests := true, laidLooks := .later }
def GridWaysUptoCardSaid : Prop := Claim7.holds Tryz.pinned (.plain (OpenSpec.upto gridWaysSpec)) gridWaysUptoCard
end Rows
end Go.Proofs.YtfdhppdkgfioaaaGreatDoor
