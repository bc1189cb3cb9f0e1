/-
  NARROWER THAN 'FOR EVERY INPUT', by the rows' own cells (each row's printed sentence says how): TypesFinds: laid · TypesBinds: loops, laid · TypesTwice: loops, laid · TypesMoves: loops, laid · TypesMoved: loops, laid.
  DERIVED. THE GIVEN ROWS OF THIS SEAT. 5 by the template 'for every input the law returns true; each argument reads behind the call as it read before'; 0 by the template 'total and deterministic' (their statements: YtofhaokaldpmaaaGreatDoorTotals.lean).
  GIVEN WITH THE SEED: the statements are not yours to turn. If you find one false, say at which input.
  Laid BY PROGRAM, IN A SANDBOX (cutbox-rows.mjs): the forced cells as the released guide's own fill.sh prints them over the translation 8002e09ae1711b20… (all of the seat's roots in one cut). By AI agents, Wed Nov 11 2026. No macro, syntax, notation, axiom, sorry.
-/
import Derived.Test.YtofhaokaldpmaaaGreatDoorChecked
import GoSem.Claim
import GoSem.ClaimJoined
import GoSem.ClaimMapViews
import Derived.JoinedTies
import Derived.KernelRfl
namespace Go.Proofs.YtofhaokaldpmaaaGreatDoor
/- THE CELL 'sum', in the pinned program and in every row, IS THE sha256 OF THE DUMP (.gsa) THAT YtofhaokaldpmaaaGreatDoorProg.lean LOADS. Nothing in Lean hashes anything: it is a label: what it is worth is what the hold of that sum in a sandbox is worth. -/
noncomputable def Tryz.pinned : Pinned := { name := "ytofhaokaldpmaaagreatdoor", sum := "8002e09ae1711b20ae3ac44d708036473cc1a6fd3c3168098cbf2d04ab7054f0", checked := Tryz.checked }
namespace Rows
def none {H : Type} : Left H := { results := [], args := [] }

/- WHAT THE LISTED PACKAGE-LEVEL VARIABLES READ AS WHEN THE CALL BEGINS. Each datum BY PROGRAM (the guide's laid-datum.mjs) off the statement by which the dump's own 'gosem.cut.vars' lays the variable. In a bare row this is a premise. The card (YtofhaokaldpmaaaGreatDoorCards.lean) ties it to the program's text. -/
def laid_errors_errorType {H : Type} : DataW H := .iface "internal/reflectlite.rtype" (.agg [.ptr (.lit (.string [101, 114, 114, 111, 114]))])
def laid_commissary_lex_signs {H : Type} : DataW H := .agg [.lit (.string [60, 61]), .lit (.string [62, 61]), .lit (.string [60, 62]), .lit (.string [40]), .lit (.string [41]), .lit (.string [44]), .lit (.string [46]), .lit (.string [42]), .lit (.string [43]), .lit (.string [45]), .lit (.string [47]), .lit (.string [37]), .lit (.string [61]), .lit (.string [60]), .lit (.string [62])]
def laid_commissary_lex_keys {H : Type} : DataW H := .agg [.lit (.string [65, 76, 76]), .lit (.string [65, 78, 68]), .lit (.string [65, 78, 84, 73]), .lit (.string [65, 83]), .lit (.string [66, 89]), .lit (.string [67, 79, 85, 78, 84]), .lit (.string [68, 69, 83, 67]), .lit (.string [68, 73, 83, 84, 73, 78, 67, 84]), .lit (.string [70, 65, 76, 83, 69]), .lit (.string [70, 82, 79, 77]), .lit (.string [71, 82, 79, 85, 80]), .lit (.string [73, 83]), .lit (.string [74, 79, 73, 78]), .lit (.string [76, 69, 70, 84]), .lit (.string [76, 73, 77, 73, 84]), .lit (.string [77, 65, 88]), .lit (.string [77, 73, 78]), .lit (.string [78, 79, 84]), .lit (.string [78, 85, 76, 76]), .lit (.string [79, 78]), .lit (.string [79, 82]), .lit (.string [79, 82, 68, 69, 82]), .lit (.string [83, 69, 76, 69, 67, 84]), .lit (.string [83, 69, 77, 73]), .lit (.string [83, 85, 77]), .lit (.string [84, 82, 85, 69]), .lit (.string [85, 78, 73, 79, 78]), .lit (.string [87, 72, 69, 82, 69])]

/-- 'commissarylaw14.TypesFinds': WHATEVER THE INPUT: true; the input reads as it did. -/
def typesFindsSpec : ChangeSpec := { name := "typesFinds", fn := fun _ => fun
  | [d1, d2, d3] => { results := [.lit (.bool true)], args := [d1, d2, d3] }
  | _ => none }
def typesFindsRow : OpenClaim := { program := "ytofhaokaldpmaaagreatdoor", sum := "8002e09ae1711b20ae3ac44d708036473cc1a6fd3c3168098cbf2d04ab7054f0", func := "commissary/commissarylaw14.TypesFinds", spec := "typesFinds", inPlace := ["internal/reflectlite.ValueOf", "(internal/reflectlite.Value).Type", "(internal/reflectlite.Value).IsNil", "internal/reflectlite.TypeOf", "(internal/reflectlite.Value).Elem", "(internal/reflectlite.Value).Set"], unfollowed := true, recurses := true, named := ["errors.errorType", "commissary/lex.keys", "commissary/lex.signs"], apart := false, laid := [("errors.errorType", laid_errors_errorType), ("commissary/lex.signs", laid_commissary_lex_signs), ("commissary/lex.keys", laid_commissary_lex_keys)] }
def TypesFindsSaid : Prop := typesFindsRow.holds Tryz.pinned (OpenSpec.ofChange typesFindsSpec)

/-- ITS FALSE NEIGHBOUR: 'it returns false'. Refute it at one input. -/
def typesFindsWrong : ChangeSpec := { name := "typesFinds", fn := fun _ => fun
  | [d1, d2, d3] => { results := [.lit (.bool false)], args := [d1, d2, d3] }
  | _ => none }
def TypesFindsWrongFalsely : Prop := typesFindsRow.holds Tryz.pinned (OpenSpec.ofChange typesFindsWrong)

/-- 'commissarylaw14.TypesBinds': WHATEVER THE INPUT: true; the input reads as it did. -/
def typesBindsSpec : ChangeSpec := { name := "typesBinds", fn := fun _ => fun
  | [d1, d2] => { results := [.lit (.bool true)], args := [d1, d2] }
  | _ => none }
def typesBindsRow : OpenClaim := { program := "ytofhaokaldpmaaagreatdoor", sum := "8002e09ae1711b20ae3ac44d708036473cc1a6fd3c3168098cbf2d04ab7054f0", func := "commissary/commissarylaw14.TypesBinds", spec := "typesBinds", inPlace := ["internal/reflectlite.ValueOf", "(internal/reflectlite.Value).Type", "(internal/reflectlite.Value).IsNil", "internal/reflectlite.TypeOf", "(internal/reflectlite.Value).Elem", "(internal/reflectlite.Value).Set"], unfollowed := true, recurses := true, named := ["errors.errorType", "commissary/lex.keys", "commissary/lex.signs"], loops := true, apart := false, laid := [("errors.errorType", laid_errors_errorType), ("commissary/lex.signs", laid_commissary_lex_signs), ("commissary/lex.keys", laid_commissary_lex_keys)] }
def TypesBindsSaid : Prop := typesBindsRow.holds Tryz.pinned (OpenSpec.ofChange typesBindsSpec)

/-- ITS FALSE NEIGHBOUR: 'it returns false'. Refute it at one input. -/
def typesBindsWrong : ChangeSpec := { name := "typesBinds", fn := fun _ => fun
  | [d1, d2] => { results := [.lit (.bool false)], args := [d1, d2] }
  | _ => none }
def TypesBindsWrongFalsely : Prop := typesBindsRow.holds Tryz.pinned (OpenSpec.ofChange typesBindsWrong)

/-- 'commissarylaw14.TypesTwice': WHATEVER THE INPUT: true; the input reads as it did. -/
def typesTwiceSpec : ChangeSpec := { name := "typesTwice", fn := fun _ => fun
  | [d1, d2] => { results := [.lit (.bool true)], args := [d1, d2] }
  | _ => none }
def typesTwiceRow : OpenClaim := { program := "ytofhaokaldpmaaagreatdoor", sum := "8002e09ae1711b20ae3ac44d708036473cc1a6fd3c3168098cbf2d04ab7054f0", func := "commissary/commissarylaw14.TypesTwice", spec := "typesTwice", inPlace := ["internal/reflectlite.ValueOf", "(internal/reflectlite.Value).Type", "(internal/reflectlite.Value).IsNil", "internal/reflectlite.TypeOf", "(internal/reflectlite.Value).Elem", "(internal/reflectlite.Value).Set"], unfollowed := true, recurses := true, named := ["errors.errorType", "commissary/lex.keys", "commissary/lex.signs"], loops := true, apart := false, laid := [("errors.errorType", laid_errors_errorType), ("commissary/lex.signs", laid_commissary_lex_signs), ("commissary/lex.keys", laid_commissary_lex_keys)] }
def TypesTwiceSaid : Prop := typesTwiceRow.holds Tryz.pinned (OpenSpec.ofChange typesTwiceSpec)

/-- ITS FALSE NEIGHBOUR: 'it returns false'. Refute it at one input. -/
def typesTwiceWrong : ChangeSpec := { name := "typesTwice", fn := fun _ => fun
  | [d1, d2] => { results := [.lit (.bool false)], args := [d1, d2] }
  | _ => none }
def TypesTwiceWrongFalsely : Prop := typesTwiceRow.holds Tryz.pinned (OpenSpec.ofChange typesTwiceWrong)

/-- 'commissarylaw14.TypesMoves': WHATEVER THE INPUT: true; the input reads as it did. -/
def typesMovesSpec : ChangeSpec := { name := "typesMoves", fn := fun _ => fun
  | [d1, d2] => { results := [.lit (.bool true)], args := [d1, d2] }
  | _ => none }
def typesMovesRow : OpenClaim := { program := "ytofhaokaldpmaaagreatdoor", sum := "8002e09ae1711b20ae3ac44d708036473cc1a6fd3c3168098cbf2d04ab7054f0", func := "commissary/commissarylaw14.TypesMoves", spec := "typesMoves", inPlace := ["internal/reflectlite.ValueOf", "(internal/reflectlite.Value).Type", "(internal/reflectlite.Value).IsNil", "internal/reflectlite.TypeOf", "(internal/reflectlite.Value).Elem", "(internal/reflectlite.Value).Set"], unfollowed := true, recurses := true, named := ["errors.errorType", "commissary/lex.keys", "commissary/lex.signs"], loops := true, apart := false, laid := [("errors.errorType", laid_errors_errorType), ("commissary/lex.signs", laid_commissary_lex_signs), ("commissary/lex.keys", laid_commissary_lex_keys)] }
def TypesMovesSaid : Prop := typesMovesRow.holds Tryz.pinned (OpenSpec.ofChange typesMovesSpec)

/-- ITS FALSE NEIGHBOUR: 'it returns false'. Refute it at one input. -/
def typesMovesWrong : ChangeSpec := { name := "typesMoves", fn := fun _ => fun
  | [d1, d2] => { results := [.lit (.bool false)], args := [d1, d2] }
  | _ => none }
def TypesMovesWrongFalsely : Prop := typesMovesRow.holds Tryz.pinned (OpenSpec.ofChange typesMovesWrong)

/-- 'commissarylaw14.TypesMoved': WHATEVER THE INPUT: true; the input reads as it did. -/
def typesMovedSpec : ChangeSpec := { name := "typesMoved", fn := fun _ => fun
  | [d1, d2, d3] => { results := [.lit (.bool true)], args := [d1, d2, d3] }
  | _ => none }
def typesMovedRow : OpenClaim := { program := "ytofhaokaldpmaaagreatdoor", sum := "8002e09ae1711b20ae3ac44d708036473cc1a6fd3c3168098cbf2d04ab7054f0", func := "commissary/commissarylaw14.TypesMoved", spec := "typesMoved", inPlace := ["internal/reflectlite.ValueOf", "(internal/reflectlite.Value).Type", "(internal/reflectlite.Value).IsNil", "internal/reflectlite.TypeOf", "(internal/reflectlite.Value).Elem", "(internal/reflectlite.Value).Set"], unfollowed := true, recurses := true, named := ["errors.errorType", "commissary/lex.keys", "commissary/lex.signs"], loops := true, apart := false, laid := [("errors.errorType", laid_errors_errorType), ("commissary/lex.signs", laid_commissary_lex_signs), ("commissary/lex.keys", laid_commissary_lex_keys)] }
def TypesMovedSaid : Prop := typesMovedRow.holds Tryz.pinned (OpenSpec.ofChange typesMovedSpec)

/-- ITS FALSE NEIGHBOUR: 'it returns false'. Refute it at one input. -/
def typesMovedWrong : ChangeSpec := { name := "typesMoved", fn := fun _ => fun
  | [d1, d2, d3] => { results := [.lit (.bool false)], args := [d1, d2, d3] }
  | _ => none }
def TypesMovedWrongFalsely : Prop := typesMovedRow.holds Tryz.pinned (OpenSpec.ofChange typesMovedWrong)

/- THE SECOND FORM. 'bulk': how many values and letters a reading holds, each counted each time it is reached (what is shared counts as often as it is met; a slice's spare places count too). A statement '..UptoSaid' is the law's where the arguments, and the package variables that the reading takes, are together of bulk at most 1048576: NARROWER than '..Said'. Prove '..Said' where nothing that the law and all that it calls make is longer than what came in: it says more and counts as full. Else prove '..UptoSaid'. A law counts once. -/
mutual
def uptoBulk {H : Type} : DataW H → Nat
  | .lit (.string bytes) => bytes.length + 1
  | .lit _ => 1
  | .nil => 1
  | .ptr d => uptoBulk d + 1
  | .slice elems spare => uptoBulkAll elems + uptoBulkAll spare + 1
  | .agg parts => uptoBulkAll parts + 1
  | .iface _ d => uptoBulk d + 1
  | .map entries => uptoBulkEntries entries + 1
  | .held _ => 1
def uptoBulkAll {H : Type} : List (DataW H) → Nat
  | [] => 0
  | d :: r => uptoBulk d + uptoBulkAll r
def uptoBulkEntries {H : Type} : List (Lit × DataW H) → Nat
  | [] => 0
  | x :: r => uptoBulkEntry x + uptoBulkEntries r
def uptoBulkEntry {H : Type} : Lit × DataW H → Nat
  | (.string bytes, d) => bytes.length + uptoBulk d + 1
  | (_, d) => uptoBulk d + 1
 end
def uptoSmall : (H : Type) → List (DataW H) → Bool := fun _ ds => decide (uptoBulkAll ds ≤ 1048576)
def OpenSpec.upto (s : _root_.Go.ChangeSpec) : _root_.Go.OpenSpec := { _root_.Go.OpenSpec.ofChange s with cond := some uptoSmall }

/-- 'commissarylaw14.TypesFinds', WHERE WHAT IT READS IS OF BULK AT MOST 1048576: true; the input reads as it did. -/
def typesFindsUptoRow : OpenClaim := { program := "ytofhaokaldpmaaagreatdoor", sum := "8002e09ae1711b20ae3ac44d708036473cc1a6fd3c3168098cbf2d04ab7054f0", func := "commissary/commissarylaw14.TypesFinds", spec := "typesFinds", inPlace := ["internal/reflectlite.ValueOf", "(internal/reflectlite.Value).Type", "(internal/reflectlite.Value).IsNil", "internal/reflectlite.TypeOf", "(internal/reflectlite.Value).Elem", "(internal/reflectlite.Value).Set"], unfollowed := true, recurses := true, named := ["errors.errorType", "commissary/lex.keys", "commissary/lex.signs"], apart := false, laid := [("errors.errorType", laid_errors_errorType), ("commissary/lex.signs", laid_commissary_lex_signs), ("commissary/lex.keys", laid_commissary_lex_keys)], narrowed := true }
def TypesFindsUptoSaid : Prop := typesFindsUptoRow.holds Tryz.pinned (OpenSpec.upto typesFindsSpec)

/-- 'commissarylaw14.TypesBinds', WHERE WHAT IT READS IS OF BULK AT MOST 1048576: true; the input reads as it did. -/
def typesBindsUptoRow : OpenClaim := { program := "ytofhaokaldpmaaagreatdoor", sum := "8002e09ae1711b20ae3ac44d708036473cc1a6fd3c3168098cbf2d04ab7054f0", func := "commissary/commissarylaw14.TypesBinds", spec := "typesBinds", inPlace := ["internal/reflectlite.ValueOf", "(internal/reflectlite.Value).Type", "(internal/reflectlite.Value).IsNil", "internal/reflectlite.TypeOf", "(internal/reflectlite.Value).Elem", "(internal/reflectlite.Value).Set"], unfollowed := true, recurses := true, named := ["errors.errorType", "commissary/lex.keys", "commissary/lex.signs"], loops := true, apart := false, laid := [("errors.errorType", laid_errors_errorType), ("commissary/lex.signs", laid_commissary_lex_signs), ("commissary/lex.keys", laid_commissary_lex_keys)], narrowed := true }
def TypesBindsUptoSaid : Prop := typesBindsUptoRow.holds Tryz.pinned (OpenSpec.upto typesBindsSpec)

/-- 'commissarylaw14.TypesTwice', WHERE WHAT IT READS IS OF BULK AT MOST 1048576: true; the input reads as it did. -/
def typesTwiceUptoRow : OpenClaim := { program := "ytofhaokaldpmaaagreatdoor", sum := "8002e09ae1711b20ae3ac44d708036473cc1a6fd3c3168098cbf2d04ab7054f0", func := "commissary/commissarylaw14.TypesTwice", spec := "typesTwice", inPlace := ["internal/reflectlite.ValueOf", "(internal/reflectlite.Value).Type", "(internal/reflectlite.Value).IsNil", "internal/reflectlite.TypeOf", "(internal/reflectlite.Value).Elem", "(internal/reflectlite.Value).Set"], unfollowed := true, recurses := true, named := ["errors.errorType", "commissary/lex.keys", "commissary/lex.signs"], loops := true, apart := false, laid := [("errors.errorType", laid_errors_errorType), ("commissary/lex.signs", laid_commissary_lex_signs), ("commissary/lex.keys", laid_commissary_lex_keys)], narrowed := true }
def TypesTwiceUptoSaid : Prop := typesTwiceUptoRow.holds Tryz.pinned (OpenSpec.upto typesTwiceSpec)

/-- 'commissarylaw14.TypesMoves', WHERE WHAT IT READS IS OF BULK AT MOST 1048576: true; the input reads as it did. -/
def typesMovesUptoRow : OpenClaim := { program := "ytofhaokaldpmaaagreatdoor", sum := "8002e09ae1711b20ae3ac44d708036473cc1a6fd3c3168098cbf2d04ab7054f0", func := "commissary/commissarylaw14.TypesMoves", spec := "typesMoves", inPlace := ["internal/reflectlite.ValueOf", "(internal/reflectlite.Value).Type", "(internal/reflectlite.Value).IsNil", "internal/reflectlite.TypeOf", "(internal/reflectlite.Value).Elem", "(internal/reflectlite.Value).Set"], unfollowed := true, recurses := true, named := ["errors.errorType", "commissary/lex.keys", "commissary/lex.signs"], loops := true, apart := false, laid := [("errors.errorType", laid_errors_errorType), ("commissary/lex.signs", laid_commissary_lex_signs), ("commissary/lex.keys", laid_commissary_lex_keys)], narrowed := true }
def TypesMovesUptoSaid : Prop := typesMovesUptoRow.holds Tryz.pinned (OpenSpec.upto typesMovesSpec)

/-- 'commissarylaw14.TypesMoved', WHERE WHAT IT READS IS OF BULK AT MOST 1048576: true; the input reads as it did. -/
def typesMovedUptoRow : OpenClaim := { program := "ytofhaokaldpmaaagreatdoor", sum := "8002e09ae1711b20ae3ac44d708036473cc1a6fd3c3168098cbf2d04ab7054f0", func := "commissary/commissarylaw14.TypesMoved", spec := "typesMoved", inPlace := ["internal/reflectlite.ValueOf", "(internal/reflectlite.Value).Type", "(internal/reflectlite.Value).IsNil", "internal/reflectlite.TypeOf", "(internal/reflectlite.Value).Elem", "(internal/reflectlite.Value).Set"], unfollowed := true, recurses := true, named := ["errors.errorType", "commissary/lex.keys", "commissary/lex.signs"], loops := true, apart := false, laid := [("errors.errorType", laid_errors_errorType), ("commissary/lex.signs", laid_commissary_lex_signs), ("commissary/lex.keys", laid_commissary_lex_keys)], narrowed := true }
def TypesMovedUptoSaid : Prop := typesMovedUptoRow.holds Tryz.pinned (OpenSpec.upto typesMovedSpec)

end Rows
end Go.Proofs.YtofhaokaldpmaaaGreatDoor
