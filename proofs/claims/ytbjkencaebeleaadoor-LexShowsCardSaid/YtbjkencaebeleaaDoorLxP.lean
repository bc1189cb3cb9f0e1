/-
  What the two laws of package lex lean on: the tables as the rows list them, and a world that holds them.
-/
import Derived.Test.YtbjkencaebeleaaDoorCards
import Derived.Test.YtbjkencaebeleaaDoorTie
import Derived.Test.YtbjkencaebeleaaDoorLxi
import Derived.Test.YtbjkencaebeleaaDoorLaw
import Derived.Lib.LaidU8
import Derived.Shelf.Vars
namespace Go.Proofs.YtbjkencaebeleaaDoor
open Go.ChangeShapes Go.WideShapes Go.ChangeAt Go.RowKit

theorem own : ownKnob Tryd.prog.godebug = none := by kernel_rfl
theorem laidOut : laidOutB Tryd.prog = true := by kernel_rfl
theorem cStr : Tryd.prog.cellsOf 9 = 1 := by kernel_rfl
theorem gKeys : Tryd.prog.globalNamed "commissary/lex.keys" = some 0 := by kernel_rfl
theorem gSigns : Tryd.prog.globalNamed "commissary/lex.signs" = some 1 := by kernel_rfl
theorem tKeys : (Tryd.prog.globals[0]?).map (·.type) = some 41 := by kernel_rfl
theorem tSigns : (Tryd.prog.globals[1]?).map (·.type) = some 54 := by kernel_rfl

/-- A table of texts, cell by cell. -/
theorem cellsStr {W : World} {name : String} {g n : Nat} {t : TypeId} {L : List Lx.B} (hg : Tryd.prog.globalNamed name = some g) (ht : (Tryd.prog.globals[g]?).map (·.type) = some t) (hu : Tryd.prog.underlying t = some (.array n 9))
    (h : Lib.VarReads Tryd.prog W name (.agg (L.map fun b => .lit (.string b)))) (j : Nat) (b : Lx.B) (hj : j < n) (hb : L[j]? = some b) : W.cell? ⟨g, j, none⟩ = some (.string ⟨b.toArray⟩) := by
  obtain ⟨g', t', cs, fuel, p, hg', ht', hv, hd⟩ := h
  obtain rfl := Option.some.inj (hg.symm.trans hg')
  obtain rfl := Option.some.inj (ht.symm.trans ht')
  obtain ⟨fuel', d, q, hdd, hdr⟩ := Lib.array_elem hu hd j hj
  rw [List.getElem?_map, hb] at hdd
  obtain rfl := Option.some.inj hdd
  obtain ⟨s, hc, hx, _⟩ := DataW.trod_string Tryd.underlying9 hdr
  have hs : b = s.data.toList := by
    have := congrArg Prod.fst hx
    simpa using this
  have h1 : cs.toList[j]? = some (.string s) := by
    have := congrArg (·[0]?) hc
    simpa [List.getElem?_take, List.getElem?_drop, cStr] using this
  rw [World.var?_cell hg hv, ← Array.getElem?_toList, h1, hs]

/-- The list that both rows bear. -/
abbrev listed : List (String × DataW Unit) := Rows.lexJoinsRow.laid
theorem keys_laid : (Rows.laid_commissary_lex_keys : DataW Unit) = .agg (Lx.keys.map fun b => .lit (.string b)) := by kernel_rfl
theorem signs_laid : (Rows.laid_commissary_lex_signs : DataW Unit) = .agg (Lx.signs.map fun b => .lit (.string b)) := by kernel_rfl

theorem tabs_of {W : World} (h : laidMetH Tryd.prog listed W) (hs : W.ShapedOpen Tryd.prog) : Tabs W := by
  have hL : laidMet Tryd.prog listed W := h
  have rs : Lib.VarReads Tryd.prog W "commissary/lex.signs" Rows.laid_commissary_lex_signs := Lib.laidMet.reads hL (.tail _ (.head _))
  have rk : Lib.VarReads Tryd.prog W "commissary/lex.keys" Rows.laid_commissary_lex_keys := Lib.laidMet.reads hL (.tail _ (.tail _ (.head _)))
  rw [signs_laid] at rs
  rw [keys_laid] at rk
  have hm : ∃ m, W.cell? ⟨2, 0, none⟩ = some (.int .i64 m) :=
    cell_of_shapedOpen_int (t := 3) (zero := #[.int .i64 0]) hs (of_decide_eq_true (by kernel_rfl)) (by kernel_rfl) rfl (by kernel_rfl) (by kernel_rfl) Tryd.underlying3
  exact ⟨fun j b hb => cellsStr gKeys tKeys Tryd.underlying41 rk j b (by have := (List.getElem?_eq_some_iff.1 hb).1; rwa [keys_len] at this) hb,
    fun j b hb => cellsStr gSigns tSigns Tryd.underlying54 rs j b (List.getElem?_eq_some_iff.1 hb).1 hb, hm⟩

/-- A WORLD FOR THE WITNESS: the settled one, each listed table holding what its initialiser lays. -/
noncomputable def laidWorld (os : Os) : World :=
  let w0 := World.holding Tryd.prog os ⟨#[], #[], []⟩
  let put (h : Array Obj) (g : Nat) (cs : Array Value) : Array Obj := h.modify g fun
    | .cells _ t frozen => .cells cs t frozen
    | o => o
  let ofData (d : DataW Unit) : Array Value := match d with
    | .agg l => (l.flatMap fun
        | .lit (.int k n) => [Value.int k n]
        | .lit (.string b) => [Value.string ⟨b.toArray⟩]
        | .agg l' => l'.map fun
            | .lit (.int k n) => Value.int k n
            | _ => .bool false
        | _ => []).toArray
    | _ => #[]
  let h1 := put w0.heap 0 (ofData Rows.laid_commissary_lex_keys)
  let h2 := put h1 1 (ofData Rows.laid_commissary_lex_signs)
  let h3 := put h2 3 (ofData Rows.laid_unicode_utf8_first)
  let h4 := put h3 4 (ofData Rows.laid_unicode_utf8_acceptRanges)
  { w0 with heap := h4 }

set_option maxRecDepth 100000 in
theorem laid_met (os : Os) (args : Array Value) : laidMet Tryd.prog listed ((laidWorld os).forCall (fun _ _ => 0) ⟨#[], args, []⟩).memory :=
  laidMet_of_run' 8 (by kernel_rfl) (by kernel_rfl)

end Go.Proofs.YtbjkencaebeleaaDoor
