/-
  DERIVED. GIVEN WITH THE SEED: THE CARDS: each row of YtpokpiphnggfpaaDoorRows.lean that lists a variable, with what it lists TIED to the program's text (the seventh form; the later family's looks); each row that meets fmt, with fmt's text TOLD by the authors' own Lean function (tested against real Go, not proved from fmt's source: count such statements apart). THE CARD IS WHAT COUNTS. Prove the row's statement (the work); the ties are given (YtpokpiphnggfpaaDoorTie.lean); close each card by the builder's one call (the guide's Derived/Test/ToyasCard.lean, 'card_holds'). Laid BY PROGRAM, IN A SANDBOX (cutbox-door.mjs). By AI agents, Wed Nov 11 2026. No macro, syntax, notation, axiom, sorry.
-/
import Derived.Test.YtpokpiphnggfpaaDoorRows
import GoSem.ClaimSeven
namespace Go.Proofs.YtpokpiphnggfpaaDoor
namespace Rows

/-- THE TIED CARD OF 'commissarylaw16.CalcSafe'. -/
def calcSafeCard : Claim7 := { stood := { row := calcSafeRow, standIns := [], harness := (true, "1fd404bf43a8143c9df164d1f6c23c763fd549883ac21706e474315addb05748"), looks := false }, kinds := [], alts := [], laidByText := true, laidKinds := [.data, .data, .data, .data, .data], laidTests := true, laidLooks := .later }
def CalcSafeCardSaid : Prop := Claim7.holds Tryd.pinned (.plain (OpenSpec.ofChange calcSafeSpec)) calcSafeCard

/-- THE SECOND FORM's CARD OF 'commissarylaw16.CalcSafe'. -/
def calcSafeUptoCard : Claim7 := { stood := { row := calcSafeUptoRow, standIns := [], harness := (true, "1fd404bf43a8143c9df164d1f6c23c763fd549883ac21706e474315addb05748"), looks := false }, kinds := [], alts := [], laidByText := true, laidKinds := [.data, .data, .data, .data, .data], laidTests := true, laidLooks := .later }
def CalcSafeUptoCardSaid : Prop := Claim7.holds Tryd.pinned (.plain (OpenSpec.upto calcSafeSpec)) calcSafeUptoCard
end Rows
end Go.Proofs.YtpokpiphnggfpaaDoor
