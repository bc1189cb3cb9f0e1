/-
  NARROWER THAN 'FOR EVERY INPUT', by the rows' own cells (each row's printed sentence says how): CatalogChecks: laid · CatalogTables: laid · CatalogPages: laid · CatalogOrders: laid · CatalogAdds: laid.
  DERIVED. THE GIVEN ROWS OF THIS SEAT. 5 by the template 'for every input the law returns true; each argument reads behind the call as it read before'; 0 by the template 'total and deterministic' (their statements: YtmjckdgomlppeaaGreatDoorTotals.lean).
  GIVEN WITH THE SEED: the statements are not yours to turn. If you find one false, say at which input.
  Laid BY PROGRAM, IN A SANDBOX (cutbox-rows.mjs): the forced cells as the released guide's own fill.sh prints them over the translation 59b2600d10ecca2d… (all of the seat's roots in one cut). By AI agents, Wed Nov 11 2026. No macro, syntax, notation, axiom, sorry.
-/
import Derived.Test.YtmjckdgomlppeaaGreatDoorChecked
import GoSem.Claim
import GoSem.ClaimJoined
import GoSem.ClaimMapViews
import Derived.JoinedTies
import Derived.KernelRfl
namespace Go.Proofs.YtmjckdgomlppeaaGreatDoor
/- THE CELL 'sum', in the pinned program and in every row, IS THE sha256 OF THE DUMP (.gsa) THAT YtmjckdgomlppeaaGreatDoorProg.lean LOADS. Nothing in Lean hashes anything: it is a label: what it is worth is what the hold of that sum in a sandbox is worth. -/
noncomputable def Tryz.pinned : Pinned := { name := "ytmjckdgomlppeaagreatdoor", sum := "59b2600d10ecca2d98d88fc4bad956c069cbe85fe2e0d20dd619bd5ea282ce1f", checked := Tryz.checked }
namespace Rows
def none {H : Type} : Left H := { results := [], args := [] }

/- WHAT THE LISTED PACKAGE-LEVEL VARIABLES READ AS WHEN THE CALL BEGINS. Each datum BY PROGRAM (the guide's laid-datum.mjs) off the statement by which the dump's own 'gosem.cut.vars' lays the variable. In a bare row this is a premise. The card (YtmjckdgomlppeaaGreatDoorCards.lean) ties it to the program's text. -/
def laid_commissary_lex_signs {H : Type} : DataW H := .agg [.lit (.string [60, 61]), .lit (.string [62, 61]), .lit (.string [60, 62]), .lit (.string [40]), .lit (.string [41]), .lit (.string [44]), .lit (.string [46]), .lit (.string [42]), .lit (.string [43]), .lit (.string [45]), .lit (.string [47]), .lit (.string [37]), .lit (.string [61]), .lit (.string [60]), .lit (.string [62])]
def laid_commissary_lex_keys {H : Type} : DataW H := .agg [.lit (.string [65, 76, 76]), .lit (.string [65, 78, 68]), .lit (.string [65, 78, 84, 73]), .lit (.string [65, 83]), .lit (.string [66, 89]), .lit (.string [67, 79, 85, 78, 84]), .lit (.string [68, 69, 83, 67]), .lit (.string [68, 73, 83, 84, 73, 78, 67, 84]), .lit (.string [70, 65, 76, 83, 69]), .lit (.string [70, 82, 79, 77]), .lit (.string [71, 82, 79, 85, 80]), .lit (.string [73, 83]), .lit (.string [74, 79, 73, 78]), .lit (.string [76, 69, 70, 84]), .lit (.string [76, 73, 77, 73, 84]), .lit (.string [77, 65, 88]), .lit (.string [77, 73, 78]), .lit (.string [78, 79, 84]), .lit (.string [78, 85, 76, 76]), .lit (.string [79, 78]), .lit (.string [79, 82]), .lit (.string [79, 82, 68, 69, 82]), .lit (.string [83, 69, 76, 69, 67, 84]), .lit (.string [83, 69, 77, 73]), .lit (.string [83, 85, 77]), .lit (.string [84, 82, 85, 69]), .lit (.string [85, 78, 73, 79, 78]), .lit (.string [87, 72, 69, 82, 69])]

/-- 'commissarylaw13.CatalogChecks': WHATEVER THE INPUT: true; the input reads as it did. -/
def catalogChecksSpec : ChangeSpec := { name := "catalogChecks", fn := fun _ => fun
  | [d1, d2] => { results := [.lit (.bool true)], args := [d1, d2] }
  | _ => none }
def catalogChecksRow : OpenClaim := { program := "ytmjckdgomlppeaagreatdoor", sum := "59b2600d10ecca2d98d88fc4bad956c069cbe85fe2e0d20dd619bd5ea282ce1f", func := "commissary/commissarylaw13.CatalogChecks", spec := "catalogChecks", inPlace := ["internal/abi.NoEscape", "internal/bytealg.MakeNoZero"], unfollowed := true, recurses := true, named := ["commissary/lex.keys", "commissary/lex.signs"], apart := false, laid := [("commissary/lex.signs", laid_commissary_lex_signs), ("commissary/lex.keys", laid_commissary_lex_keys)] }
def CatalogChecksSaid : Prop := catalogChecksRow.holds Tryz.pinned (OpenSpec.ofChange catalogChecksSpec)

/-- ITS FALSE NEIGHBOUR: 'it returns false'. Refute it at one input. -/
def catalogChecksWrong : ChangeSpec := { name := "catalogChecks", fn := fun _ => fun
  | [d1, d2] => { results := [.lit (.bool false)], args := [d1, d2] }
  | _ => none }
def CatalogChecksWrongFalsely : Prop := catalogChecksRow.holds Tryz.pinned (OpenSpec.ofChange catalogChecksWrong)

/-- 'commissarylaw13.CatalogTables': WHATEVER THE INPUT: true; the input reads as it did. -/
def catalogTablesSpec : ChangeSpec := { name := "catalogTables", fn := fun _ => fun
  | [d1, d2, d3, d4] => { results := [.lit (.bool true)], args := [d1, d2, d3, d4] }
  | _ => none }
def catalogTablesRow : OpenClaim := { program := "ytmjckdgomlppeaagreatdoor", sum := "59b2600d10ecca2d98d88fc4bad956c069cbe85fe2e0d20dd619bd5ea282ce1f", func := "commissary/commissarylaw13.CatalogTables", spec := "catalogTables", inPlace := ["internal/abi.NoEscape", "internal/bytealg.MakeNoZero"], unfollowed := true, recurses := true, named := ["commissary/lex.keys", "commissary/lex.signs"], apart := false, laid := [("commissary/lex.signs", laid_commissary_lex_signs), ("commissary/lex.keys", laid_commissary_lex_keys)] }
def CatalogTablesSaid : Prop := catalogTablesRow.holds Tryz.pinned (OpenSpec.ofChange catalogTablesSpec)

/-- ITS FALSE NEIGHBOUR: 'it returns false'. Refute it at one input. -/
def catalogTablesWrong : ChangeSpec := { name := "catalogTables", fn := fun _ => fun
  | [d1, d2, d3, d4] => { results := [.lit (.bool false)], args := [d1, d2, d3, d4] }
  | _ => none }
def CatalogTablesWrongFalsely : Prop := catalogTablesRow.holds Tryz.pinned (OpenSpec.ofChange catalogTablesWrong)

/-- 'commissarylaw13.CatalogPages': WHATEVER THE INPUT: true; the input reads as it did. -/
def catalogPagesSpec : ChangeSpec := { name := "catalogPages", fn := fun _ => fun
  | [d] => { results := [.lit (.bool true)], args := [d] }
  | _ => none }
def catalogPagesRow : OpenClaim := { program := "ytmjckdgomlppeaagreatdoor", sum := "59b2600d10ecca2d98d88fc4bad956c069cbe85fe2e0d20dd619bd5ea282ce1f", func := "commissary/commissarylaw13.CatalogPages", spec := "catalogPages", inPlace := ["internal/abi.NoEscape", "internal/bytealg.MakeNoZero"], unfollowed := true, recurses := true, named := ["commissary/lex.keys", "commissary/lex.signs"], apart := false, laid := [("commissary/lex.signs", laid_commissary_lex_signs), ("commissary/lex.keys", laid_commissary_lex_keys)] }
def CatalogPagesSaid : Prop := catalogPagesRow.holds Tryz.pinned (OpenSpec.ofChange catalogPagesSpec)

/-- ITS FALSE NEIGHBOUR: 'it returns false'. Refute it at one input. -/
def catalogPagesWrong : ChangeSpec := { name := "catalogPages", fn := fun _ => fun
  | [d] => { results := [.lit (.bool false)], args := [d] }
  | _ => none }
def CatalogPagesWrongFalsely : Prop := catalogPagesRow.holds Tryz.pinned (OpenSpec.ofChange catalogPagesWrong)

/-- 'commissarylaw13.CatalogOrders': WHATEVER THE INPUT: true; the input reads as it did. -/
def catalogOrdersSpec : ChangeSpec := { name := "catalogOrders", fn := fun _ => fun
  | [d1, d2] => { results := [.lit (.bool true)], args := [d1, d2] }
  | _ => none }
def catalogOrdersRow : OpenClaim := { program := "ytmjckdgomlppeaagreatdoor", sum := "59b2600d10ecca2d98d88fc4bad956c069cbe85fe2e0d20dd619bd5ea282ce1f", func := "commissary/commissarylaw13.CatalogOrders", spec := "catalogOrders", inPlace := ["internal/abi.NoEscape", "internal/bytealg.MakeNoZero"], unfollowed := true, recurses := true, named := ["commissary/lex.keys", "commissary/lex.signs"], apart := false, laid := [("commissary/lex.signs", laid_commissary_lex_signs), ("commissary/lex.keys", laid_commissary_lex_keys)] }
def CatalogOrdersSaid : Prop := catalogOrdersRow.holds Tryz.pinned (OpenSpec.ofChange catalogOrdersSpec)

/-- ITS FALSE NEIGHBOUR: 'it returns false'. Refute it at one input. -/
def catalogOrdersWrong : ChangeSpec := { name := "catalogOrders", fn := fun _ => fun
  | [d1, d2] => { results := [.lit (.bool false)], args := [d1, d2] }
  | _ => none }
def CatalogOrdersWrongFalsely : Prop := catalogOrdersRow.holds Tryz.pinned (OpenSpec.ofChange catalogOrdersWrong)

/-- 'commissarylaw13.CatalogAdds': WHATEVER THE INPUT: true; the input reads as it did. -/
def catalogAddsSpec : ChangeSpec := { name := "catalogAdds", fn := fun _ => fun
  | [d1, d2] => { results := [.lit (.bool true)], args := [d1, d2] }
  | _ => none }
def catalogAddsRow : OpenClaim := { program := "ytmjckdgomlppeaagreatdoor", sum := "59b2600d10ecca2d98d88fc4bad956c069cbe85fe2e0d20dd619bd5ea282ce1f", func := "commissary/commissarylaw13.CatalogAdds", spec := "catalogAdds", inPlace := ["internal/abi.NoEscape", "internal/bytealg.MakeNoZero"], unfollowed := true, recurses := true, named := ["commissary/lex.keys", "commissary/lex.signs"], apart := false, laid := [("commissary/lex.signs", laid_commissary_lex_signs), ("commissary/lex.keys", laid_commissary_lex_keys)] }
def CatalogAddsSaid : Prop := catalogAddsRow.holds Tryz.pinned (OpenSpec.ofChange catalogAddsSpec)

/-- ITS FALSE NEIGHBOUR: 'it returns false'. Refute it at one input. -/
def catalogAddsWrong : ChangeSpec := { name := "catalogAdds", fn := fun _ => fun
  | [d1, d2] => { results := [.lit (.bool false)], args := [d1, d2] }
  | _ => none }
def CatalogAddsWrongFalsely : Prop := catalogAddsRow.holds Tryz.pinned (OpenSpec.ofChange catalogAddsWrong)

/- THE SECOND FORM. 'bulk': how many values and letters a reading holds, each counted each time it is reached (what is shared counts as often as it is met; a slice's spare places count too). A statement '..UptoSaid' is the law's where the arguments, and the package variables that the reading takes, are together of bulk at most 1048576: NARROWER than '..Said'. Prove '..Said' where nothing that the law and all that it calls make is longer than what came in: it says more and counts as full. Else prove '..UptoSaid'. A law counts once. -/
mutual
def uptoBulk {H : Type} : DataW H → Nat
  | .lit (.string bytes) => bytes.length + 1
  | .lit _ => 1
  | .nil => 1
  | .ptr d => uptoBulk d + 1
  | .slice elems spare => uptoBulkAll elems + uptoBulkAll spare + 1
  | .agg parts => uptoBulkAll parts + 1
  | .iface _ d => uptoBulk d + 1
  | .map entries => uptoBulkEntries entries + 1
  | .held _ => 1
def uptoBulkAll {H : Type} : List (DataW H) → Nat
  | [] => 0
  | d :: r => uptoBulk d + uptoBulkAll r
def uptoBulkEntries {H : Type} : List (Lit × DataW H) → Nat
  | [] => 0
  | x :: r => uptoBulkEntry x + uptoBulkEntries r
def uptoBulkEntry {H : Type} : Lit × DataW H → Nat
  | (.string bytes, d) => bytes.length + uptoBulk d + 1
  | (_, d) => uptoBulk d + 1
 end
def uptoSmall : (H : Type) → List (DataW H) → Bool := fun _ ds => decide (uptoBulkAll ds ≤ 1048576)
def OpenSpec.upto (s : _root_.Go.ChangeSpec) : _root_.Go.OpenSpec := { _root_.Go.OpenSpec.ofChange s with cond := some uptoSmall }

/-- 'commissarylaw13.CatalogChecks', WHERE WHAT IT READS IS OF BULK AT MOST 1048576: true; the input reads as it did. -/
def catalogChecksUptoRow : OpenClaim := { program := "ytmjckdgomlppeaagreatdoor", sum := "59b2600d10ecca2d98d88fc4bad956c069cbe85fe2e0d20dd619bd5ea282ce1f", func := "commissary/commissarylaw13.CatalogChecks", spec := "catalogChecks", inPlace := ["internal/abi.NoEscape", "internal/bytealg.MakeNoZero"], unfollowed := true, recurses := true, named := ["commissary/lex.keys", "commissary/lex.signs"], apart := false, laid := [("commissary/lex.signs", laid_commissary_lex_signs), ("commissary/lex.keys", laid_commissary_lex_keys)], narrowed := true }
def CatalogChecksUptoSaid : Prop := catalogChecksUptoRow.holds Tryz.pinned (OpenSpec.upto catalogChecksSpec)

/-- 'commissarylaw13.CatalogTables', WHERE WHAT IT READS IS OF BULK AT MOST 1048576: true; the input reads as it did. -/
def catalogTablesUptoRow : OpenClaim := { program := "ytmjckdgomlppeaagreatdoor", sum := "59b2600d10ecca2d98d88fc4bad956c069cbe85fe2e0d20dd619bd5ea282ce1f", func := "commissary/commissarylaw13.CatalogTables", spec := "catalogTables", inPlace := ["internal/abi.NoEscape", "internal/bytealg.MakeNoZero"], unfollowed := true, recurses := true, named := ["commissary/lex.keys", "commissary/lex.signs"], apart := false, laid := [("commissary/lex.signs", laid_commissary_lex_signs), ("commissary/lex.keys", laid_commissary_lex_keys)], narrowed := true }
def CatalogTablesUptoSaid : Prop := catalogTablesUptoRow.holds Tryz.pinned (OpenSpec.upto catalogTablesSpec)

/-- 'commissarylaw13.CatalogPages', WHERE WHAT IT READS IS OF BULK AT MOST 1048576: true; the input reads as it did. -/
def catalogPagesUptoRow : OpenClaim := { program := "ytmjckdgomlppeaagreatdoor", sum := "59b2600d10ecca2d98d88fc4bad956c069cbe85fe2e0d20dd619bd5ea282ce1f", func := "commissary/commissarylaw13.CatalogPages", spec := "catalogPages", inPlace := ["internal/abi.NoEscape", "internal/bytealg.MakeNoZero"], unfollowed := true, recurses := true, named := ["commissary/lex.keys", "commissary/lex.signs"], apart := false, laid := [("commissary/lex.signs", laid_commissary_lex_signs), ("commissary/lex.keys", laid_commissary_lex_keys)], narrowed := true }
def CatalogPagesUptoSaid : Prop := catalogPagesUptoRow.holds Tryz.pinned (OpenSpec.upto catalogPagesSpec)

/-- 'commissarylaw13.CatalogOrders', WHERE WHAT IT READS IS OF BULK AT MOST 1048576: true; the input reads as it did. -/
def catalogOrdersUptoRow : OpenClaim := { program := "ytmjckdgomlppeaagreatdoor", sum := "59b2600d10ecca2d98d88fc4bad956c069cbe85fe2e0d20dd619bd5ea282ce1f", func := "commissary/commissarylaw13.CatalogOrders", spec := "catalogOrders", inPlace := ["internal/abi.NoEscape", "internal/bytealg.MakeNoZero"], unfollowed := true, recurses := true, named := ["commissary/lex.keys", "commissary/lex.signs"], apart := false, laid := [("commissary/lex.signs", laid_commissary_lex_signs), ("commissary/lex.keys", laid_commissary_lex_keys)], narrowed := true }
def CatalogOrdersUptoSaid : Prop := catalogOrdersUptoRow.holds Tryz.pinned (OpenSpec.upto catalogOrdersSpec)

/-- 'commissarylaw13.CatalogAdds', WHERE WHAT IT READS IS OF BULK AT MOST 1048576: true; the input reads as it did. -/
def catalogAddsUptoRow : OpenClaim := { program := "ytmjckdgomlppeaagreatdoor", sum := "59b2600d10ecca2d98d88fc4bad956c069cbe85fe2e0d20dd619bd5ea282ce1f", func := "commissary/commissarylaw13.CatalogAdds", spec := "catalogAdds", inPlace := ["internal/abi.NoEscape", "internal/bytealg.MakeNoZero"], unfollowed := true, recurses := true, named := ["commissary/lex.keys", "commissary/lex.signs"], apart := false, laid := [("commissary/lex.signs", laid_commissary_lex_signs), ("commissary/lex.keys", laid_commissary_lex_keys)], narrowed := true }
def CatalogAddsUptoSaid : Prop := catalogAddsUptoRow.holds Tryz.pinned (OpenSpec.upto catalogAddsSpec)

end Rows
end Go.Proofs.YtmjckdgomlppeaaGreatDoor
