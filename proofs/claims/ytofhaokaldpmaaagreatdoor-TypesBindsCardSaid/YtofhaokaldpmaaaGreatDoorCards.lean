/-
  DERIVED. GIVEN WITH THE SEED: THE CARDS: each row of YtofhaokaldpmaaaGreatDoorRows.lean that lists a variable, with what it lists TIED to the program's text (the seventh form; the later family's looks); each row that meets fmt, with fmt's text TOLD by the authors' own Lean function (tested against real Go, not proved from fmt's source: count such statements apart). THE CARD IS WHAT COUNTS. Prove the row's statement (the work); the ties are given (YtofhaokaldpmaaaGreatDoorTie.lean); close each card by the builder's one call (the guide's Derived/Test/ToyasCard.lean, 'card_holds'). Laid BY PROGRAM, IN A SANDBOX (cutbox-door.mjs). By AI agents, Wed Nov 11 2026. No macro, syntax, notation, axiom, sorry.
-/
import Derived.Test.YtofhaokaldpmaaaGreatDoorRows
import GoSem.ClaimSeven
namespace Go.Proofs.YtofhaokaldpmaaaGreatDoor
namespace Rows

/-- THE TIED CARD OF 'commissarylaw14.TypesFinds'. -/
def typesFindsCard : Claim7 := { stood := { row := typesFindsRow, standIns := [], harness := (true, "0b2feb790bd46839588d99b5e3a5d154ada20eba5223f4c8eee9ce286842f056"), looks := true }, kinds := [], alts := [], laidByText := true, laidKinds := [.handle, .data, .data], laidTests := true, laidLooks := .later }
def TypesFindsCardSaid : Prop := Claim7.holds Tryz.pinned (.plain (OpenSpec.ofChange typesFindsSpec)) typesFindsCard

/-- THE TIED CARD OF 'commissarylaw14.TypesBinds'. -/
def typesBindsCard : Claim7 := { stood := { row := typesBindsRow, standIns := [], harness := (true, "0b2feb790bd46839588d99b5e3a5d154ada20eba5223f4c8eee9ce286842f056"), looks := true }, kinds := [], alts := [], laidByText := true, laidKinds := [.handle, .data, .data], laidTests := true, laidLooks := .later }
def TypesBindsCardSaid : Prop := Claim7.holds Tryz.pinned (.plain (OpenSpec.ofChange typesBindsSpec)) typesBindsCard

/-- THE TIED CARD OF 'commissarylaw14.TypesTwice'. -/
def typesTwiceCard : Claim7 := { stood := { row := typesTwiceRow, standIns := [], harness := (true, "0b2feb790bd46839588d99b5e3a5d154ada20eba5223f4c8eee9ce286842f056"), looks := true }, kinds := [], alts := [], laidByText := true, laidKinds := [.handle, .data, .data], laidTests := true, laidLooks := .later }
def TypesTwiceCardSaid : Prop := Claim7.holds Tryz.pinned (.plain (OpenSpec.ofChange typesTwiceSpec)) typesTwiceCard

/-- THE TIED CARD OF 'commissarylaw14.TypesMoves'. -/
def typesMovesCard : Claim7 := { stood := { row := typesMovesRow, standIns := [], harness := (true, "0b2feb790bd46839588d99b5e3a5d154ada20eba5223f4c8eee9ce286842f056"), looks := true }, kinds := [], alts := [], laidByText := true, laidKinds := [.handle, .data, .data], laidTests := true, laidLooks := .later }
def TypesMovesCardSaid : Prop := Claim7.holds Tryz.pinned (.plain (OpenSpec.ofChange typesMovesSpec)) typesMovesCard

/-- THE TIED CARD OF 'commissarylaw14.TypesMoved'. -/
def typesMovedCard : Claim7 := { stood := { row := typesMovedRow, standIns := [], harness := (true, "0b2feb790bd46839588d99b5e3a5d154ada20eba5223f4c8eee9ce286842f056"), looks := true }, kinds := [], alts := [], laidByText := true, laidKinds := [.handle, .data, .data], laidTests := true, laidLooks := .later }
def TypesMovedCardSaid : Prop := Claim7.holds Tryz.pinned (.plain (OpenSpec.ofChange typesMovedSpec)) typesMovedCard

/-- THE SECOND FORM's CARD OF 'commissarylaw14.TypesFinds'. -/
def typesFindsUptoCard : Claim7 := { stood := { row := typesFindsUptoRow, standIns := [], harness := (true, "0b2feb790bd46839588d99b5e3a5d154ada20eba5223f4c8eee9ce286842f056"), looks := true }, kinds := [], alts := [], laidByText := true, laidKinds := [.handle, .data, .data], laidTests := true, laidLooks := .later }
def TypesFindsUptoCardSaid : Prop := Claim7.holds Tryz.pinned (.plain (OpenSpec.upto typesFindsSpec)) typesFindsUptoCard

/-- THE SECOND FORM's CARD OF 'commissarylaw14.TypesBinds'. -/
def typesBindsUptoCard : Claim7 := { stood := { row := typesBindsUptoRow, standIns := [], harness := (true, "0b2feb790bd46839588d99b5e3a5d154ada20eba5223f4c8eee9ce286842f056"), looks := true }, kinds := [], alts := [], laidByText := true, laidKinds := [.handle, .data, .data], laidTests := true, laidLooks := .later }
def TypesBindsUptoCardSaid : Prop := Claim7.holds Tryz.pinned (.plain (OpenSpec.upto typesBindsSpec)) typesBindsUptoCard

/-- THE SECOND FORM's CARD OF 'commissarylaw14.TypesTwice'. -/
def typesTwiceUptoCard : Claim7 := { stood := { row := typesTwiceUptoRow, standIns := [], harness := (true, "0b2feb790bd46839588d99b5e3a5d154ada20eba5223f4c8eee9ce286842f056"), looks := true }, kinds := [], alts := [], laidByText := true, laidKinds := [.handle, .data, .data], laidTests := true, laidLooks := .later }
def TypesTwiceUptoCardSaid : Prop := Claim7.holds Tryz.pinned (.plain (OpenSpec.upto typesTwiceSpec)) typesTwiceUptoCard

/-- THE SECOND FORM's CARD OF 'commissarylaw14.TypesMoves'. -/
def typesMovesUptoCard : Claim7 := { stood := { row := typesMovesUptoRow, standIns := [], harness := (true, "0b2feb790bd46839588d99b5e3a5d154ada20eba5223f4c8eee9ce286842f056"), looks := true }, kinds := [], alts := [], laidByText := true, laidKinds := [.handle, .data, .data], laidTests := true, laidLooks := .later }
def TypesMovesUptoCardSaid : Prop := Claim7.holds Tryz.pinned (.plain (OpenSpec.upto typesMovesSpec)) typesMovesUptoCard

/-- THE SECOND FORM's CARD OF 'commissarylaw14.TypesMoved'. -/
def typesMovedUptoCard : Claim7 := { stood := { row := typesMovedUptoRow, standIns := [], harness := (true, "0b2feb790bd46839588d99b5e3a5d154ada20eba5223f4c8eee9ce286842f056"), looks := true }, kinds := [], alts := [], laidByText := true, laidKinds := [.handle, .data, .data], laidTests := true, laidLooks := .later }
def TypesMovedUptoCardSaid : Prop := Claim7.holds Tryz.pinned (.plain (OpenSpec.upto typesMovedSpec)) typesMovedUptoCard
end Rows
end Go.Proofs.YtofhaokaldpmaaaGreatDoor
