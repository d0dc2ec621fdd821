/-
  DERIVED. GIVEN WITH THE SEED: THE CARDS: each row of YtpjmobpmpghpeaaGreatDoorRows.lean that lists a variable, with what it lists TIED to the program's text (the seventh form; the later family's looks); each row that meets fmt, with fmt's text TOLD by the authors' own Lean function (tested against real Go, not proved from fmt's source: count such statements apart). THE CARD IS WHAT COUNTS. Prove the row's statement (the work); the ties are given (YtpjmobpmpghpeaaGreatDoorTie.lean); close each card by the builder's one call (the guide's Derived/Test/ToyasCard.lean, 'card_holds'). Laid BY PROGRAM, IN A SANDBOX (cutbox-door.mjs). By AI agents, Wed Nov 11 2026. No macro, syntax, notation, axiom, sorry.
-/
import Derived.Test.YtpjmobpmpghpeaaGreatDoorRows
import GoSem.ClaimSeven
namespace Go.Proofs.YtpjmobpmpghpeaaGreatDoor
namespace Rows

/-- THE TIED CARD OF 'cusplaw09.ShopStocks'. -/
def shopStocksCard : Claim7 := { stood := { row := shopStocksRow, standIns := [], harness := (true, "a86be733c16b19818329d1567f4f62fd38d2e3909ce00e1eb82b1c4f850efebc"), looks := false }, kinds := [], alts := [], laidByText := true, laidKinds := [.data, .data, .data], laidTests := true, laidLooks := .later }
def ShopStocksCardSaid : Prop := Claim7.holds Tryz.pinned (.plain (OpenSpec.ofChange shopStocksSpec)) shopStocksCard

/-- THE TIED CARD OF 'cusplaw09.ShopShades'. -/
def shopShadesCard : Claim7 := { stood := { row := shopShadesRow, standIns := [], harness := (true, "a86be733c16b19818329d1567f4f62fd38d2e3909ce00e1eb82b1c4f850efebc"), looks := false }, kinds := [], alts := [], laidByText := true, laidKinds := [.data, .data, .data], laidTests := true, laidLooks := .later }
def ShopShadesCardSaid : Prop := Claim7.holds Tryz.pinned (.plain (OpenSpec.ofChange shopShadesSpec)) shopShadesCard

/-- THE TIED CARD OF 'cusplaw09.ShopTakes'. -/
def shopTakesCard : Claim7 := { stood := { row := shopTakesRow, standIns := [], harness := (true, "a86be733c16b19818329d1567f4f62fd38d2e3909ce00e1eb82b1c4f850efebc"), looks := false }, kinds := [], alts := [], laidByText := true, laidKinds := [.data, .data, .data], laidTests := true, laidLooks := .later }
def ShopTakesCardSaid : Prop := Claim7.holds Tryz.pinned (.plain (OpenSpec.ofChange shopTakesSpec)) shopTakesCard

/-- THE TIED CARD OF 'cusplaw09.ShopNears'. -/
def shopNearsCard : Claim7 := { stood := { row := shopNearsRow, standIns := [], harness := (true, "a86be733c16b19818329d1567f4f62fd38d2e3909ce00e1eb82b1c4f850efebc"), looks := false }, kinds := [], alts := [], laidByText := true, laidKinds := [.data, .data, .data], laidTests := true, laidLooks := .later }
def ShopNearsCardSaid : Prop := Claim7.holds Tryz.pinned (.plain (OpenSpec.ofChange shopNearsSpec)) shopNearsCard

/-- THE SECOND FORM's CARD OF 'cusplaw09.ShopStocks'. -/
def shopStocksUptoCard : Claim7 := { stood := { row := shopStocksUptoRow, standIns := [], harness := (true, "a86be733c16b19818329d1567f4f62fd38d2e3909ce00e1eb82b1c4f850efebc"), looks := false }, kinds := [], alts := [], laidByText := true, laidKinds := [.data, .data, .data], laidTests := true, laidLooks := .later }
def ShopStocksUptoCardSaid : Prop := Claim7.holds Tryz.pinned (.plain (OpenSpec.upto shopStocksSpec)) shopStocksUptoCard

/-- THE SECOND FORM's CARD OF 'cusplaw09.ShopShades'. -/
def shopShadesUptoCard : Claim7 := { stood := { row := shopShadesUptoRow, standIns := [], harness := (true, "a86be733c16b19818329d1567f4f62fd38d2e3909ce00e1eb82b1c4f850efebc"), looks := false }, kinds := [], alts := [], laidByText := true, laidKinds := [.data, .data, .data], laidTests := true, laidLooks := .later }
def ShopShadesUptoCardSaid : Prop := Claim7.holds Tryz.pinned (.plain (OpenSpec.upto shopShadesSpec)) shopShadesUptoCard

/-- THE SECOND FORM's CARD OF 'cusplaw09.ShopTakes'. -/
def shopTakesUptoCard : Claim7 := { stood := { row := shopTakesUptoRow, standIns := [], harness := (true, "a86be733c16b19818329d1567f4f62fd38d2e3909ce00e1eb82b1c4f850efebc"), looks := false }, kinds := [], alts := [], laidByText := true, laidKinds := [.data, .data, .data], laidTests := true, laidLooks := .later }
def ShopTakesUptoCardSaid : Prop := Claim7.holds Tryz.pinned (.plain (OpenSpec.upto shopTakesSpec)) shopTakesUptoCard

/-- THE SECOND FORM's CARD OF 'cusplaw09.ShopNears'. -/
def shopNearsUptoCard : Claim7 := { stood := { row := shopNearsUptoRow, standIns := [], harness := (true, "a86be733c16b19818329d1567f4f62fd38d2e3909ce00e1eb82b1c4f850efebc"), looks := false }, kinds := [], alts := [], laidByText := true, laidKinds := [.data, .data, .data], laidTests := true, laidLooks := .later }
def ShopNearsUptoCardSaid : Prop := Claim7.holds Tryz.pinned (.plain (OpenSpec.upto shopNearsSpec)) shopNearsUptoCard
end Rows
end Go.Proofs.YtpjmobpmpghpeaaGreatDoor
