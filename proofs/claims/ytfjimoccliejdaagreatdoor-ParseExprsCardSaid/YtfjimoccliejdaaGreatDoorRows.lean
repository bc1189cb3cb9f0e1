/-
  NARROWER THAN 'FOR EVERY INPUT', by the rows' own cells (each row's printed sentence says how): ParseQueries: laid · ParseExprs: laid · ParseBlanks: laid.
  DERIVED. THE GIVEN ROWS OF THIS SEAT. 3 by the template 'for every input the law returns true; each argument reads behind the call as it read before'; 0 by the template 'total and deterministic' (their statements: YtfjimoccliejdaaGreatDoorTotals.lean).
  GIVEN WITH THE SEED: the statements are not yours to turn. If you find one false, say at which input.
  Laid BY PROGRAM, IN A SANDBOX (cutbox-rows.mjs): the forced cells as the released guide's own fill.sh prints them over the translation 53e9b33ebd5c461a… (all of the seat's roots in one cut). By AI agents, Wed Nov 11 2026. No macro, syntax, notation, axiom, sorry.
-/
import Derived.Test.YtfjimoccliejdaaGreatDoorChecked
import GoSem.Claim
import GoSem.ClaimJoined
import GoSem.ClaimMapViews
import Derived.JoinedTies
import Derived.KernelRfl
namespace Go.Proofs.YtfjimoccliejdaaGreatDoor
/- THE CELL 'sum', in the pinned program and in every row, IS THE sha256 OF THE DUMP (.gsa) THAT YtfjimoccliejdaaGreatDoorProg.lean LOADS. Nothing in Lean hashes anything: it is a label: what it is worth is what the hold of that sum in a sandbox is worth. -/
noncomputable def Tryz.pinned : Pinned := { name := "ytfjimoccliejdaagreatdoor", sum := "53e9b33ebd5c461a9b2fdec8536d5296294d2b40bbc4e312778684f49e68bcb6", checked := Tryz.checked }
namespace Rows
def none {H : Type} : Left H := { results := [], args := [] }

/- WHAT THE LISTED PACKAGE-LEVEL VARIABLES READ AS WHEN THE CALL BEGINS. Each datum BY PROGRAM (the guide's laid-datum.mjs) off the statement by which the dump's own 'gosem.cut.vars' lays the variable. In a bare row this is a premise. The card (YtfjimoccliejdaaGreatDoorCards.lean) ties it to the program's text. -/
def laid_commissary_lex_signs {H : Type} : DataW H := .agg [.lit (.string [60, 61]), .lit (.string [62, 61]), .lit (.string [60, 62]), .lit (.string [40]), .lit (.string [41]), .lit (.string [44]), .lit (.string [46]), .lit (.string [42]), .lit (.string [43]), .lit (.string [45]), .lit (.string [47]), .lit (.string [37]), .lit (.string [61]), .lit (.string [60]), .lit (.string [62])]
def laid_commissary_lex_keys {H : Type} : DataW H := .agg [.lit (.string [65, 76, 76]), .lit (.string [65, 78, 68]), .lit (.string [65, 78, 84, 73]), .lit (.string [65, 83]), .lit (.string [66, 89]), .lit (.string [67, 79, 85, 78, 84]), .lit (.string [68, 69, 83, 67]), .lit (.string [68, 73, 83, 84, 73, 78, 67, 84]), .lit (.string [70, 65, 76, 83, 69]), .lit (.string [70, 82, 79, 77]), .lit (.string [71, 82, 79, 85, 80]), .lit (.string [73, 83]), .lit (.string [74, 79, 73, 78]), .lit (.string [76, 69, 70, 84]), .lit (.string [76, 73, 77, 73, 84]), .lit (.string [77, 65, 88]), .lit (.string [77, 73, 78]), .lit (.string [78, 79, 84]), .lit (.string [78, 85, 76, 76]), .lit (.string [79, 78]), .lit (.string [79, 82]), .lit (.string [79, 82, 68, 69, 82]), .lit (.string [83, 69, 76, 69, 67, 84]), .lit (.string [83, 69, 77, 73]), .lit (.string [83, 85, 77]), .lit (.string [84, 82, 85, 69]), .lit (.string [85, 78, 73, 79, 78]), .lit (.string [87, 72, 69, 82, 69])]
def laid_commissary_parse_begins {H : Type} : DataW H := .agg [.lit (.string []), .lit (.string [79, 82]), .lit (.string [65, 78, 68]), .lit (.string []), .lit (.string [61]), .lit (.string [60, 62]), .lit (.string [60]), .lit (.string [60, 61]), .lit (.string [62]), .lit (.string [62, 61]), .lit (.string [43]), .lit (.string [45]), .lit (.string [42]), .lit (.string [47]), .lit (.string [37]), .lit (.string []), .lit (.string [73, 83])]

/-- 'commissarylaw11.ParseQueries': WHATEVER THE INPUT: true; the input reads as it did. -/
def parseQueriesSpec : ChangeSpec := { name := "parseQueries", fn := fun _ => fun
  | [d] => { results := [.lit (.bool true)], args := [d] }
  | _ => none }
def parseQueriesRow : OpenClaim := { program := "ytfjimoccliejdaagreatdoor", sum := "53e9b33ebd5c461a9b2fdec8536d5296294d2b40bbc4e312778684f49e68bcb6", func := "commissary/commissarylaw11.ParseQueries", spec := "parseQueries", unfollowed := true, recurses := true, named := ["commissary/lex.keys", "commissary/lex.signs", "commissary/parse.begins"], apart := false, laid := [("commissary/lex.signs", laid_commissary_lex_signs), ("commissary/lex.keys", laid_commissary_lex_keys), ("commissary/parse.begins", laid_commissary_parse_begins)] }
def ParseQueriesSaid : Prop := parseQueriesRow.holds Tryz.pinned (OpenSpec.ofChange parseQueriesSpec)

/-- ITS FALSE NEIGHBOUR: 'it returns false'. Refute it at one input. -/
def parseQueriesWrong : ChangeSpec := { name := "parseQueries", fn := fun _ => fun
  | [d] => { results := [.lit (.bool false)], args := [d] }
  | _ => none }
def ParseQueriesWrongFalsely : Prop := parseQueriesRow.holds Tryz.pinned (OpenSpec.ofChange parseQueriesWrong)

/-- 'commissarylaw11.ParseExprs': WHATEVER THE INPUT: true; the input reads as it did. -/
def parseExprsSpec : ChangeSpec := { name := "parseExprs", fn := fun _ => fun
  | [d] => { results := [.lit (.bool true)], args := [d] }
  | _ => none }
def parseExprsRow : OpenClaim := { program := "ytfjimoccliejdaagreatdoor", sum := "53e9b33ebd5c461a9b2fdec8536d5296294d2b40bbc4e312778684f49e68bcb6", func := "commissary/commissarylaw11.ParseExprs", spec := "parseExprs", unfollowed := true, recurses := true, named := ["commissary/lex.keys", "commissary/lex.signs", "commissary/parse.begins"], apart := false, laid := [("commissary/lex.signs", laid_commissary_lex_signs), ("commissary/lex.keys", laid_commissary_lex_keys), ("commissary/parse.begins", laid_commissary_parse_begins)] }
def ParseExprsSaid : Prop := parseExprsRow.holds Tryz.pinned (OpenSpec.ofChange parseExprsSpec)

/-- ITS FALSE NEIGHBOUR: 'it returns false'. Refute it at one input. -/
def parseExprsWrong : ChangeSpec := { name := "parseExprs", fn := fun _ => fun
  | [d] => { results := [.lit (.bool false)], args := [d] }
  | _ => none }
def ParseExprsWrongFalsely : Prop := parseExprsRow.holds Tryz.pinned (OpenSpec.ofChange parseExprsWrong)

/-- 'commissarylaw11.ParseBlanks': WHATEVER THE INPUT: true; the input reads as it did. -/
def parseBlanksSpec : ChangeSpec := { name := "parseBlanks", fn := fun _ => fun
  | [d1, d2] => { results := [.lit (.bool true)], args := [d1, d2] }
  | _ => none }
def parseBlanksRow : OpenClaim := { program := "ytfjimoccliejdaagreatdoor", sum := "53e9b33ebd5c461a9b2fdec8536d5296294d2b40bbc4e312778684f49e68bcb6", func := "commissary/commissarylaw11.ParseBlanks", spec := "parseBlanks", unfollowed := true, recurses := true, named := ["commissary/lex.keys", "commissary/lex.signs", "commissary/parse.begins"], apart := false, laid := [("commissary/lex.signs", laid_commissary_lex_signs), ("commissary/lex.keys", laid_commissary_lex_keys), ("commissary/parse.begins", laid_commissary_parse_begins)] }
def ParseBlanksSaid : Prop := parseBlanksRow.holds Tryz.pinned (OpenSpec.ofChange parseBlanksSpec)

/-- ITS FALSE NEIGHBOUR: 'it returns false'. Refute it at one input. -/
def parseBlanksWrong : ChangeSpec := { name := "parseBlanks", fn := fun _ => fun
  | [d1, d2] => { results := [.lit (.bool false)], args := [d1, d2] }
  | _ => none }
def ParseBlanksWrongFalsely : Prop := parseBlanksRow.holds Tryz.pinned (OpenSpec.ofChange parseBlanksWrong)

/- THE SECOND FORM. 'bulk': how many values and letters a reading holds, each counted each time it is reached (what is shared counts as often as it is met; a slice's spare places count too). A statement '..UptoSaid' is the law's where the arguments, and the package variables that the reading takes, are together of bulk at most 1048576: NARROWER than '..Said'. Prove '..Said' where nothing that the law and all that it calls make is longer than what came in: it says more and counts as full. Else prove '..UptoSaid'. A law counts once. -/
mutual
def uptoBulk {H : Type} : DataW H → Nat
  | .lit (.string bytes) => bytes.length + 1
  | .lit _ => 1
  | .nil => 1
  | .ptr d => uptoBulk d + 1
  | .slice elems spare => uptoBulkAll elems + uptoBulkAll spare + 1
  | .agg parts => uptoBulkAll parts + 1
  | .iface _ d => uptoBulk d + 1
  | .map entries => uptoBulkEntries entries + 1
  | .held _ => 1
def uptoBulkAll {H : Type} : List (DataW H) → Nat
  | [] => 0
  | d :: r => uptoBulk d + uptoBulkAll r
def uptoBulkEntries {H : Type} : List (Lit × DataW H) → Nat
  | [] => 0
  | x :: r => uptoBulkEntry x + uptoBulkEntries r
def uptoBulkEntry {H : Type} : Lit × DataW H → Nat
  | (.string bytes, d) => bytes.length + uptoBulk d + 1
  | (_, d) => uptoBulk d + 1
 end
def uptoSmall : (H : Type) → List (DataW H) → Bool := fun _ ds => decide (uptoBulkAll ds ≤ 1048576)
def OpenSpec.upto (s : _root_.Go.ChangeSpec) : _root_.Go.OpenSpec := { _root_.Go.OpenSpec.ofChange s with cond := some uptoSmall }

/-- 'commissarylaw11.ParseQueries', WHERE WHAT IT READS IS OF BULK AT MOST 1048576: true; the input reads as it did. -/
def parseQueriesUptoRow : OpenClaim := { program := "ytfjimoccliejdaagreatdoor", sum := "53e9b33ebd5c461a9b2fdec8536d5296294d2b40bbc4e312778684f49e68bcb6", func := "commissary/commissarylaw11.ParseQueries", spec := "parseQueries", unfollowed := true, recurses := true, named := ["commissary/lex.keys", "commissary/lex.signs", "commissary/parse.begins"], apart := false, laid := [("commissary/lex.signs", laid_commissary_lex_signs), ("commissary/lex.keys", laid_commissary_lex_keys), ("commissary/parse.begins", laid_commissary_parse_begins)], narrowed := true }
def ParseQueriesUptoSaid : Prop := parseQueriesUptoRow.holds Tryz.pinned (OpenSpec.upto parseQueriesSpec)

/-- 'commissarylaw11.ParseExprs', WHERE WHAT IT READS IS OF BULK AT MOST 1048576: true; the input reads as it did. -/
def parseExprsUptoRow : OpenClaim := { program := "ytfjimoccliejdaagreatdoor", sum := "53e9b33ebd5c461a9b2fdec8536d5296294d2b40bbc4e312778684f49e68bcb6", func := "commissary/commissarylaw11.ParseExprs", spec := "parseExprs", unfollowed := true, recurses := true, named := ["commissary/lex.keys", "commissary/lex.signs", "commissary/parse.begins"], apart := false, laid := [("commissary/lex.signs", laid_commissary_lex_signs), ("commissary/lex.keys", laid_commissary_lex_keys), ("commissary/parse.begins", laid_commissary_parse_begins)], narrowed := true }
def ParseExprsUptoSaid : Prop := parseExprsUptoRow.holds Tryz.pinned (OpenSpec.upto parseExprsSpec)

/-- 'commissarylaw11.ParseBlanks', WHERE WHAT IT READS IS OF BULK AT MOST 1048576: true; the input reads as it did. -/
def parseBlanksUptoRow : OpenClaim := { program := "ytfjimoccliejdaagreatdoor", sum := "53e9b33ebd5c461a9b2fdec8536d5296294d2b40bbc4e312778684f49e68bcb6", func := "commissary/commissarylaw11.ParseBlanks", spec := "parseBlanks", unfollowed := true, recurses := true, named := ["commissary/lex.keys", "commissary/lex.signs", "commissary/parse.begins"], apart := false, laid := [("commissary/lex.signs", laid_commissary_lex_signs), ("commissary/lex.keys", laid_commissary_lex_keys), ("commissary/parse.begins", laid_commissary_parse_begins)], narrowed := true }
def ParseBlanksUptoSaid : Prop := parseBlanksUptoRow.holds Tryz.pinned (OpenSpec.upto parseBlanksSpec)

end Rows
end Go.Proofs.YtfjimoccliejdaaGreatDoor
