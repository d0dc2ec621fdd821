/-
  DERIVED. GIVEN WITH THE SEED: THE CARDS: each row of YtokfniicbeemdaaGreatDoorRows.lean that lists a variable, with what it lists TIED to the program's text (the seventh form; the later family's looks); each row that meets fmt, with fmt's text TOLD by the authors' own Lean function (tested against real Go, not proved from fmt's source: count such statements apart). THE CARD IS WHAT COUNTS. Prove the row's statement (the work); the ties are given (YtokfniicbeemdaaGreatDoorTie.lean); close each card by the builder's one call (the guide's Derived/Test/ToyasCard.lean, 'card_holds'). Laid BY PROGRAM, IN A SANDBOX (cutbox-door.mjs). By AI agents, Wed Nov 11 2026. No macro, syntax, notation, axiom, sorry.
-/
import Derived.Test.YtokfniicbeemdaaGreatDoorRows
import GoSem.ClaimSeven
namespace Go.Proofs.YtokfniicbeemdaaGreatDoor
namespace Rows

/-- THE TIED CARD OF 'cusplaw09.ShopLoads'. -/
def shopLoadsCard : Claim7 := { stood := { row := shopLoadsRow, standIns := [], harness := (true, "6e2cc74c7a8f7da04433610254262ef4e8bea7456e127899b9e38ec329905755"), looks := false }, kinds := [], alts := [], laidByText := true, laidKinds := [.data, .data, .data], laidTests := true, laidLooks := .later }
def ShopLoadsCardSaid : Prop := Claim7.holds Tryz.pinned (.plain (OpenSpec.ofChange shopLoadsSpec)) shopLoadsCard

/-- THE TIED CARD OF 'cusplaw09.ShopOrders'. -/
def shopOrdersCard : Claim7 := { stood := { row := shopOrdersRow, standIns := [], harness := (true, "6e2cc74c7a8f7da04433610254262ef4e8bea7456e127899b9e38ec329905755"), looks := false }, kinds := [], alts := [], laidByText := true, laidKinds := [.data, .data, .data], laidTests := true, laidLooks := .later }
def ShopOrdersCardSaid : Prop := Claim7.holds Tryz.pinned (.plain (OpenSpec.ofChange shopOrdersSpec)) shopOrdersCard

/-- THE TIED CARD OF 'cusplaw09.ShopSchedules'. -/
def shopSchedulesCard : Claim7 := { stood := { row := shopSchedulesRow, standIns := [], harness := (true, "6e2cc74c7a8f7da04433610254262ef4e8bea7456e127899b9e38ec329905755"), looks := false }, kinds := [], alts := [], laidByText := true, laidKinds := [.data, .data, .data], laidTests := true, laidLooks := .later }
def ShopSchedulesCardSaid : Prop := Claim7.holds Tryz.pinned (.plain (OpenSpec.ofChange shopSchedulesSpec)) shopSchedulesCard

/-- THE TIED CARD OF 'cusplaw09.ShopPacks'. -/
def shopPacksCard : Claim7 := { stood := { row := shopPacksRow, standIns := [], harness := (true, "6e2cc74c7a8f7da04433610254262ef4e8bea7456e127899b9e38ec329905755"), looks := false }, kinds := [], alts := [], laidByText := true, laidKinds := [.data, .data, .data], laidTests := true, laidLooks := .later }
def ShopPacksCardSaid : Prop := Claim7.holds Tryz.pinned (.plain (OpenSpec.ofChange shopPacksSpec)) shopPacksCard

/-- THE TIED CARD OF 'cusplaw09.ShopFlows'. -/
def shopFlowsCard : Claim7 := { stood := { row := shopFlowsRow, standIns := [], harness := (true, "6e2cc74c7a8f7da04433610254262ef4e8bea7456e127899b9e38ec329905755"), looks := false }, kinds := [], alts := [], laidByText := true, laidKinds := [.data, .data, .data], laidTests := true, laidLooks := .later }
def ShopFlowsCardSaid : Prop := Claim7.holds Tryz.pinned (.plain (OpenSpec.ofChange shopFlowsSpec)) shopFlowsCard

/-- THE SECOND FORM's CARD OF 'cusplaw09.ShopLoads'. -/
def shopLoadsUptoCard : Claim7 := { stood := { row := shopLoadsUptoRow, standIns := [], harness := (true, "6e2cc74c7a8f7da04433610254262ef4e8bea7456e127899b9e38ec329905755"), looks := false }, kinds := [], alts := [], laidByText := true, laidKinds := [.data, .data, .data], laidTests := true, laidLooks := .later }
def ShopLoadsUptoCardSaid : Prop := Claim7.holds Tryz.pinned (.plain (OpenSpec.upto shopLoadsSpec)) shopLoadsUptoCard

/-- THE SECOND FORM's CARD OF 'cusplaw09.ShopOrders'. -/
def shopOrdersUptoCard : Claim7 := { stood := { row := shopOrdersUptoRow, standIns := [], harness := (true, "6e2cc74c7a8f7da04433610254262ef4e8bea7456e127899b9e38ec329905755"), looks := false }, kinds := [], alts := [], laidByText := true, laidKinds := [.data, .data, .data], laidTests := true, laidLooks := .later }
def ShopOrdersUptoCardSaid : Prop := Claim7.holds Tryz.pinned (.plain (OpenSpec.upto shopOrdersSpec)) shopOrdersUptoCard

/-- THE SECOND FORM's CARD OF 'cusplaw09.ShopSchedules'. -/
def shopSchedulesUptoCard : Claim7 := { stood := { row := shopSchedulesUptoRow, standIns := [], harness := (true, "6e2cc74c7a8f7da04433610254262ef4e8bea7456e127899b9e38ec329905755"), looks := false }, kinds := [], alts := [], laidByText := true, laidKinds := [.data, .data, .data], laidTests := true, laidLooks := .later }
def ShopSchedulesUptoCardSaid : Prop := Claim7.holds Tryz.pinned (.plain (OpenSpec.upto shopSchedulesSpec)) shopSchedulesUptoCard

/-- THE SECOND FORM's CARD OF 'cusplaw09.ShopPacks'. -/
def shopPacksUptoCard : Claim7 := { stood := { row := shopPacksUptoRow, standIns := [], harness := (true, "6e2cc74c7a8f7da04433610254262ef4e8bea7456e127899b9e38ec329905755"), looks := false }, kinds := [], alts := [], laidByText := true, laidKinds := [.data, .data, .data], laidTests := true, laidLooks := .later }
def ShopPacksUptoCardSaid : Prop := Claim7.holds Tryz.pinned (.plain (OpenSpec.upto shopPacksSpec)) shopPacksUptoCard

/-- THE SECOND FORM's CARD OF 'cusplaw09.ShopFlows'. -/
def shopFlowsUptoCard : Claim7 := { stood := { row := shopFlowsUptoRow, standIns := [], harness := (true, "6e2cc74c7a8f7da04433610254262ef4e8bea7456e127899b9e38ec329905755"), looks := false }, kinds := [], alts := [], laidByText := true, laidKinds := [.data, .data, .data], laidTests := true, laidLooks := .later }
def ShopFlowsUptoCardSaid : Prop := Claim7.holds Tryz.pinned (.plain (OpenSpec.upto shopFlowsSpec)) shopFlowsUptoCard
end Rows
end Go.Proofs.YtokfniicbeemdaaGreatDoor
