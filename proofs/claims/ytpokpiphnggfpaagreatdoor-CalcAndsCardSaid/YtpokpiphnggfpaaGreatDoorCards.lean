/-
  DERIVED. GIVEN WITH THE SEED: THE CARDS: each row of YtpokpiphnggfpaaGreatDoorRows.lean that lists a variable, with what it lists TIED to the program's text (the seventh form; the later family's looks); each row that meets fmt, with fmt's text TOLD by the authors' own Lean function (tested against real Go, not proved from fmt's source: count such statements apart). THE CARD IS WHAT COUNTS. Prove the row's statement (the work); the ties are given (YtpokpiphnggfpaaGreatDoorTie.lean); close each card by the builder's one call (the guide's Derived/Test/ToyasCard.lean, 'card_holds'). Laid BY PROGRAM, IN A SANDBOX (cutbox-door.mjs). By AI agents, Wed Nov 11 2026. No macro, syntax, notation, axiom, sorry.
-/
import Derived.Test.YtpokpiphnggfpaaGreatDoorRows
import GoSem.ClaimSeven
namespace Go.Proofs.YtpokpiphnggfpaaGreatDoor
namespace Rows

/-- THE TIED CARD OF 'commissarylaw16.CalcAnds'. -/
def calcAndsCard : Claim7 := { stood := { row := calcAndsRow, standIns := [], harness := (true, "5e168999a6570bb3bbe57916b64a2e3c5867fb749df2dfb7514c0453351337d6"), looks := false }, kinds := [], alts := [], laidByText := true, laidKinds := [.data, .data, .data, .data, .data], laidTests := true, laidLooks := .later }
def CalcAndsCardSaid : Prop := Claim7.holds Tryz.pinned (.plain (OpenSpec.ofChange calcAndsSpec)) calcAndsCard

/-- THE SECOND FORM's CARD OF 'commissarylaw16.CalcAnds'. -/
def calcAndsUptoCard : Claim7 := { stood := { row := calcAndsUptoRow, standIns := [], harness := (true, "5e168999a6570bb3bbe57916b64a2e3c5867fb749df2dfb7514c0453351337d6"), looks := false }, kinds := [], alts := [], laidByText := true, laidKinds := [.data, .data, .data, .data, .data], laidTests := true, laidLooks := .later }
def CalcAndsUptoCardSaid : Prop := Claim7.holds Tryz.pinned (.plain (OpenSpec.upto calcAndsSpec)) calcAndsUptoCard
end Rows
end Go.Proofs.YtpokpiphnggfpaaGreatDoor
