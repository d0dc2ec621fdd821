/-
  DERIVED. GIVEN WITH THE SEED: THE CARDS: each row of YtdiddniddohhgaaGreatDoorRows.lean that lists a variable, with what it lists TIED to the program's text (the seventh form; the later family's looks); each row that meets fmt, with fmt's text TOLD by the authors' own Lean function (tested against real Go, not proved from fmt's source: count such statements apart). THE CARD IS WHAT COUNTS. Prove the row's statement (the work); the ties are given (YtdiddniddohhgaaGreatDoorTie.lean); close each card by the builder's one call (the guide's Derived/Test/ToyasCard.lean, 'card_holds'). Laid BY PROGRAM, IN A SANDBOX (cutbox-door.mjs). By AI agents, Wed Nov 11 2026. No macro, syntax, notation, axiom, sorry.
-/
import Derived.Test.YtdiddniddohhgaaGreatDoorRows
import GoSem.ClaimSeven
namespace Go.Proofs.YtdiddniddohhgaaGreatDoor
namespace Rows

/-- THE TIED CARD OF 'cusplaw09.ShopLoads'. -/
def shopLoadsCard : Claim7 := { stood := { row := shopLoadsRow, standIns := [], harness := (true, "5f08584c8fdbfbd4df1aa97dc9edebb06452451e97e5c35d8dd8f8c587afecd8"), looks := false }, kinds := [], alts := [], laidByText := true, laidKinds := [.data, .data, .data], laidTests := true, laidLooks := .later }
def ShopLoadsCardSaid : Prop := Claim7.holds Tryz.pinned (.plain (OpenSpec.ofChange shopLoadsSpec)) shopLoadsCard

/-- THE TIED CARD OF 'cusplaw09.ShopPacks'. -/
def shopPacksCard : Claim7 := { stood := { row := shopPacksRow, standIns := [], harness := (true, "5f08584c8fdbfbd4df1aa97dc9edebb06452451e97e5c35d8dd8f8c587afecd8"), looks := false }, kinds := [], alts := [], laidByText := true, laidKinds := [.data, .data, .data], laidTests := true, laidLooks := .later }
def ShopPacksCardSaid : Prop := Claim7.holds Tryz.pinned (.plain (OpenSpec.ofChange shopPacksSpec)) shopPacksCard

/-- THE SECOND FORM's CARD OF 'cusplaw09.ShopLoads'. -/
def shopLoadsUptoCard : Claim7 := { stood := { row := shopLoadsUptoRow, standIns := [], harness := (true, "5f08584c8fdbfbd4df1aa97dc9edebb06452451e97e5c35d8dd8f8c587afecd8"), looks := false }, kinds := [], alts := [], laidByText := true, laidKinds := [.data, .data, .data], laidTests := true, laidLooks := .later }
def ShopLoadsUptoCardSaid : Prop := Claim7.holds Tryz.pinned (.plain (OpenSpec.upto shopLoadsSpec)) shopLoadsUptoCard

/-- THE SECOND FORM's CARD OF 'cusplaw09.ShopPacks'. -/
def shopPacksUptoCard : Claim7 := { stood := { row := shopPacksUptoRow, standIns := [], harness := (true, "5f08584c8fdbfbd4df1aa97dc9edebb06452451e97e5c35d8dd8f8c587afecd8"), looks := false }, kinds := [], alts := [], laidByText := true, laidKinds := [.data, .data, .data], laidTests := true, laidLooks := .later }
def ShopPacksUptoCardSaid : Prop := Claim7.holds Tryz.pinned (.plain (OpenSpec.upto shopPacksSpec)) shopPacksUptoCard
end Rows
end Go.Proofs.YtdiddniddohhgaaGreatDoor
