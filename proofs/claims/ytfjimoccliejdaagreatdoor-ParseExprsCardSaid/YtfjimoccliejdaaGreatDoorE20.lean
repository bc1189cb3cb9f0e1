/-
  What the laws of package parse lean on: the tables as the rows list them, and a world that holds them; ints that come in.
-/
import Derived.Test.YtfjimoccliejdaaGreatDoorE19
import Derived.Test.YtfjimoccliejdaaGreatDoorCards
import Derived.Test.YtfjimoccliejdaaGreatDoorTie
import Derived.Deep.Grids
import Derived.Deep.SlicePairs
import Derived.ChangeSlices
import Derived.Lib.SmallJoins
import Derived.Lib.LaidU8
import Derived.Shelf.Vars
section
namespace Go.Proofs.YtfjimoccliejdaaGreatDoor
section
open Go.ChangeShapes Go.WideShapes Go.ChangeAt Go.RowKit

theorem own : ownKnob Tryz.prog.godebug = none := by kernel_rfl
theorem laidOut : laidOutB Tryz.prog = true := by kernel_rfl
theorem cStrP : Tryz.prog.cellsOf 9 = 1 := by kernel_rfl
theorem gKeys : Tryz.prog.globalNamed "commissary/lex.keys" = some 2 := by kernel_rfl
theorem gSigns : Tryz.prog.globalNamed "commissary/lex.signs" = some 1 := by kernel_rfl
theorem gBegins : Tryz.prog.globalNamed "commissary/parse.begins" = some 0 := by kernel_rfl
theorem tKeys : (Tryz.prog.globals[2]?).map (·.type) = some 156 := by kernel_rfl
theorem tSigns : (Tryz.prog.globals[1]?).map (·.type) = some 152 := by kernel_rfl
theorem tBegins : (Tryz.prog.globals[0]?).map (·.type) = some 148 := by kernel_rfl

theorem cellsStr {W : World} {name : String} {g n : Nat} {t : TypeId} {L : List Lx.B} (hg : Tryz.prog.globalNamed name = some g) (ht : (Tryz.prog.globals[g]?).map (·.type) = some t) (hu : Tryz.prog.underlying t = some (.array n 9))
  (h : Lib.VarReads Tryz.prog W name (.agg (L.map fun b => .lit (.string b)))) (j : Nat) (b : Lx.B) (hj : j < n) (hb : L[j]? = some b) : W.cell? ⟨g, j, none⟩ = some (.string ⟨b.toArray⟩) := by
 obtain ⟨g', t', cs, fuel, p, hg', ht', hv, hd⟩ := h
 obtain rfl := Option.some.inj (hg.symm.trans hg')
 obtain rfl := Option.some.inj (ht.symm.trans ht')
 obtain ⟨fuel', d, q, hdd, hdr⟩ := Lib.array_elem hu hd j hj
 rw [List.getElem?_map, hb] at hdd
 obtain rfl := Option.some.inj hdd
 obtain ⟨s, hc, hx, _⟩ := DataW.trod_string Tryz.underlying9 hdr
 have hs : b = s.data.toList := by
  have := congrArg Prod.fst hx
  simpa using this
 have h1 : cs.toList[j]? = some (.string s) := by
  have := congrArg (·[0]?) hc
  simpa [List.getElem?_take, List.getElem?_drop, cStrP] using this
 rw [World.var?_cell hg hv, ← Array.getElem?_toList, h1, hs]

abbrev listed : List (String × DataW Unit) := Rows.parseBlanksRow.laid
theorem keys_laid : (Rows.laid_commissary_lex_keys : DataW Unit) = .agg (Lx.keys.map fun b => .lit (.string b)) := by kernel_rfl
theorem signs_laid : (Rows.laid_commissary_lex_signs : DataW Unit) = .agg (Lx.signs.map fun b => .lit (.string b)) := by kernel_rfl
theorem begins_laid : (Rows.laid_commissary_parse_begins : DataW Unit) = .agg (((List.range 17).map Pa.begins).map fun b => .lit (.string b)) := by kernel_rfl

theorem tabs_of {W : World} (h : laidMetH Tryz.prog listed W) : LvT W := by
 have hL : laidMet Tryz.prog listed W := h
 have rs : Lib.VarReads Tryz.prog W "commissary/lex.signs" Rows.laid_commissary_lex_signs := Lib.laidMet.reads hL (.head _)
 have rk : Lib.VarReads Tryz.prog W "commissary/lex.keys" Rows.laid_commissary_lex_keys := Lib.laidMet.reads hL (.tail _ (.head _))
 have rb : Lib.VarReads Tryz.prog W "commissary/parse.begins" Rows.laid_commissary_parse_begins := Lib.laidMet.reads hL (.tail _ (.tail _ (.head _)))
 rw [signs_laid] at rs
 rw [keys_laid] at rk
 rw [begins_laid] at rb
 exact ⟨⟨fun j b hb => cellsStr gKeys tKeys Tryz.underlying156 rk j b (by have := (List.getElem?_eq_some_iff.1 hb).1; rwa [keys_len] at this) hb,
  fun j b hb => cellsStr gSigns tSigns Tryz.underlying152 rs j b (List.getElem?_eq_some_iff.1 hb).1 hb, ⟨0, rfl⟩⟩,
  fun j hj => cellsStr gBegins tBegins Tryz.underlying148 rb j _ hj (by rw [List.getElem?_map, List.getElem?_range hj]; rfl)⟩

noncomputable def laidWorld (os : Os) : World :=
 let w0 := World.holding Tryz.prog os ⟨#[], #[], []⟩
 let put (h : Array Obj) (g : Nat) (cs : Array Value) : Array Obj := h.modify g fun
  | .cells _ t frozen => .cells cs t frozen
  | o => o
 let ofData (d : DataW Unit) : Array Value := match d with
  | .agg l => (l.flatMap fun
    | .lit (.string b) => [Value.string ⟨b.toArray⟩]
    | _ => []).toArray
  | _ => #[]
 let h1 := put w0.heap 2 (ofData Rows.laid_commissary_lex_keys)
 let h2 := put h1 1 (ofData Rows.laid_commissary_lex_signs)
 let h3 := put h2 0 (ofData Rows.laid_commissary_parse_begins)
 { w0 with heap := h3 }

set_option maxRecDepth 100000 in
theorem laid_met (os : Os) (args : Array Value) : laidMet Tryz.prog listed ((laidWorld os).forCall (fun _ _ => 0) ⟨#[], args, []⟩).memory :=
 laidMet_of_run' 8 (by kernel_rfl) (by kernel_rfl)
end
section
open Go.ChangeShapes Go.WideShapes Go.ChangeAt Go.RowKit Go.Joins Go.Deep
variable {H : Type} {enc : TypeId × Value → H}
end
end Go.Proofs.YtfjimoccliejdaaGreatDoor
end
