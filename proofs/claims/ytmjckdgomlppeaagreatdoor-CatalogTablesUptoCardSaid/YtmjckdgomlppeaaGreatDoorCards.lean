/-
  DERIVED. GIVEN WITH THE SEED: THE CARDS: each row of YtmjckdgomlppeaaGreatDoorRows.lean that lists a variable, with what it lists TIED to the program's text (the seventh form; the later family's looks); each row that meets fmt, with fmt's text TOLD by the authors' own Lean function (tested against real Go, not proved from fmt's source: count such statements apart). THE CARD IS WHAT COUNTS. Prove the row's statement (the work); the ties are given (YtmjckdgomlppeaaGreatDoorTie.lean); close each card by the builder's one call (the guide's Derived/Test/ToyasCard.lean, 'card_holds'). Laid BY PROGRAM, IN A SANDBOX (cutbox-door.mjs). By AI agents, Wed Nov 11 2026. No macro, syntax, notation, axiom, sorry.
-/
import Derived.Test.YtmjckdgomlppeaaGreatDoorRows
import GoSem.ClaimSeven
namespace Go.Proofs.YtmjckdgomlppeaaGreatDoor
namespace Rows

/-- THE TIED CARD OF 'commissarylaw13.CatalogChecks'. -/
def catalogChecksCard : Claim7 := { stood := { row := catalogChecksRow, standIns := [], harness := (true, "cd64e426304768295bbb98ad92355af0a980b5d629c1244515e7d39835dc2104"), looks := false }, kinds := [], alts := [], laidByText := true, laidKinds := [.data, .data], laidTests := true, laidLooks := .later }
def CatalogChecksCardSaid : Prop := Claim7.holds Tryz.pinned (.plain (OpenSpec.ofChange catalogChecksSpec)) catalogChecksCard

/-- THE TIED CARD OF 'commissarylaw13.CatalogTables'. -/
def catalogTablesCard : Claim7 := { stood := { row := catalogTablesRow, standIns := [], harness := (true, "cd64e426304768295bbb98ad92355af0a980b5d629c1244515e7d39835dc2104"), looks := false }, kinds := [], alts := [], laidByText := true, laidKinds := [.data, .data], laidTests := true, laidLooks := .later }
def CatalogTablesCardSaid : Prop := Claim7.holds Tryz.pinned (.plain (OpenSpec.ofChange catalogTablesSpec)) catalogTablesCard

/-- THE TIED CARD OF 'commissarylaw13.CatalogPages'. -/
def catalogPagesCard : Claim7 := { stood := { row := catalogPagesRow, standIns := [], harness := (true, "cd64e426304768295bbb98ad92355af0a980b5d629c1244515e7d39835dc2104"), looks := false }, kinds := [], alts := [], laidByText := true, laidKinds := [.data, .data], laidTests := true, laidLooks := .later }
def CatalogPagesCardSaid : Prop := Claim7.holds Tryz.pinned (.plain (OpenSpec.ofChange catalogPagesSpec)) catalogPagesCard

/-- THE TIED CARD OF 'commissarylaw13.CatalogOrders'. -/
def catalogOrdersCard : Claim7 := { stood := { row := catalogOrdersRow, standIns := [], harness := (true, "cd64e426304768295bbb98ad92355af0a980b5d629c1244515e7d39835dc2104"), looks := false }, kinds := [], alts := [], laidByText := true, laidKinds := [.data, .data], laidTests := true, laidLooks := .later }
def CatalogOrdersCardSaid : Prop := Claim7.holds Tryz.pinned (.plain (OpenSpec.ofChange catalogOrdersSpec)) catalogOrdersCard

/-- THE TIED CARD OF 'commissarylaw13.CatalogAdds'. -/
def catalogAddsCard : Claim7 := { stood := { row := catalogAddsRow, standIns := [], harness := (true, "cd64e426304768295bbb98ad92355af0a980b5d629c1244515e7d39835dc2104"), looks := false }, kinds := [], alts := [], laidByText := true, laidKinds := [.data, .data], laidTests := true, laidLooks := .later }
def CatalogAddsCardSaid : Prop := Claim7.holds Tryz.pinned (.plain (OpenSpec.ofChange catalogAddsSpec)) catalogAddsCard

/-- THE SECOND FORM's CARD OF 'commissarylaw13.CatalogChecks'. -/
def catalogChecksUptoCard : Claim7 := { stood := { row := catalogChecksUptoRow, standIns := [], harness := (true, "cd64e426304768295bbb98ad92355af0a980b5d629c1244515e7d39835dc2104"), looks := false }, kinds := [], alts := [], laidByText := true, laidKinds := [.data, .data], laidTests := true, laidLooks := .later }
def CatalogChecksUptoCardSaid : Prop := Claim7.holds Tryz.pinned (.plain (OpenSpec.upto catalogChecksSpec)) catalogChecksUptoCard

/-- THE SECOND FORM's CARD OF 'commissarylaw13.CatalogTables'. -/
def catalogTablesUptoCard : Claim7 := { stood := { row := catalogTablesUptoRow, standIns := [], harness := (true, "cd64e426304768295bbb98ad92355af0a980b5d629c1244515e7d39835dc2104"), looks := false }, kinds := [], alts := [], laidByText := true, laidKinds := [.data, .data], laidTests := true, laidLooks := .later }
def CatalogTablesUptoCardSaid : Prop := Claim7.holds Tryz.pinned (.plain (OpenSpec.upto catalogTablesSpec)) catalogTablesUptoCard

/-- THE SECOND FORM's CARD OF 'commissarylaw13.CatalogPages'. -/
def catalogPagesUptoCard : Claim7 := { stood := { row := catalogPagesUptoRow, standIns := [], harness := (true, "cd64e426304768295bbb98ad92355af0a980b5d629c1244515e7d39835dc2104"), looks := false }, kinds := [], alts := [], laidByText := true, laidKinds := [.data, .data], laidTests := true, laidLooks := .later }
def CatalogPagesUptoCardSaid : Prop := Claim7.holds Tryz.pinned (.plain (OpenSpec.upto catalogPagesSpec)) catalogPagesUptoCard

/-- THE SECOND FORM's CARD OF 'commissarylaw13.CatalogOrders'. -/
def catalogOrdersUptoCard : Claim7 := { stood := { row := catalogOrdersUptoRow, standIns := [], harness := (true, "cd64e426304768295bbb98ad92355af0a980b5d629c1244515e7d39835dc2104"), looks := false }, kinds := [], alts := [], laidByText := true, laidKinds := [.data, .data], laidTests := true, laidLooks := .later }
def CatalogOrdersUptoCardSaid : Prop := Claim7.holds Tryz.pinned (.plain (OpenSpec.upto catalogOrdersSpec)) catalogOrdersUptoCard

/-- THE SECOND FORM's CARD OF 'commissarylaw13.CatalogAdds'. -/
def catalogAddsUptoCard : Claim7 := { stood := { row := catalogAddsUptoRow, standIns := [], harness := (true, "cd64e426304768295bbb98ad92355af0a980b5d629c1244515e7d39835dc2104"), looks := false }, kinds := [], alts := [], laidByText := true, laidKinds := [.data, .data], laidTests := true, laidLooks := .later }
def CatalogAddsUptoCardSaid : Prop := Claim7.holds Tryz.pinned (.plain (OpenSpec.upto catalogAddsSpec)) catalogAddsUptoCard
end Rows
end Go.Proofs.YtmjckdgomlppeaaGreatDoor
