/-
  DERIVED. GIVEN WITH THE SEED: THE PROGRAM's TIES (one call each: nine closed facts by the kernel) AND EACH ROW's TIE, after the 31st guide's Derived/Test/Toyas{Tie, Card}.lean. No idea stands in it: it is a product of the set-up. Laid BY PROGRAM, IN A SANDBOX (cutbox-door.mjs). By AI agents, Wed Nov 11 2026. No macro, syntax, notation, axiom, sorry.
-/
import Derived.Test.YtpokpiphnggfpaaGreatDoorRows
import Derived.LaidByTextLater
import Derived.SevenTiedAt
import Derived.LaidSub
import Derived.LaidOnce
namespace Go.Proofs.YtpokpiphnggfpaaGreatDoor
open Go
set_option maxRecDepth 100000
theorem seatTie1 : Tryz.prog.laidByTextLater [("commissary/lex.signs", Rows.laid_commissary_lex_signs), ("commissary/lex.keys", Rows.laid_commissary_lex_keys), ("commissary/value.ands", Rows.laid_commissary_value_ands), ("commissary/value.ors", Rows.laid_commissary_value_ors), ("commissary/value.nots", Rows.laid_commissary_value_nots)] [.data, .data, .data, .data, .data] true :=
  Program.laidByTextLater_by_one 40 8 29 (by kernel_rfl) (by kernel_rfl) (by kernel_rfl) (by kernel_rfl) (by kernel_rfl) (by kernel_rfl) (fun _ _ => by kernel_rfl)
theorem noOwnUnsafe : Tryz.pinned.checked.prog.headLifts.contains "ownunsafe" = false := by kernel_rfl
theorem tie : Tryz.prog.laidByTextLater [("commissary/lex.signs", Rows.laid_commissary_lex_signs), ("commissary/lex.keys", Rows.laid_commissary_lex_keys), ("commissary/value.ands", Rows.laid_commissary_value_ands), ("commissary/value.ors", Rows.laid_commissary_value_ors), ("commissary/value.nots", Rows.laid_commissary_value_nots)] [.data, .data, .data, .data, .data] true :=
  Program.laidByTextLater.sub seatTie1 ["commissary/lex.signs", "commissary/lex.keys", "commissary/value.ands", "commissary/value.ors", "commissary/value.nots"] (by kernel_rfl) (by kernel_rfl)
theorem calcAnds_row_tie : Rows.calcAndsRow.laidByTextAt .later Tryz.pinned [.data, .data, .data, .data, .data] true :=
  OpenClaim.laidByTextAt_later rfl rfl tie noOwnUnsafe
theorem calcAndsUpto_row_tie : Rows.calcAndsUptoRow.laidByTextAt .later Tryz.pinned [.data, .data, .data, .data, .data] true :=
  OpenClaim.laidByTextAt_later rfl rfl tie noOwnUnsafe
end Go.Proofs.YtpokpiphnggfpaaGreatDoor
