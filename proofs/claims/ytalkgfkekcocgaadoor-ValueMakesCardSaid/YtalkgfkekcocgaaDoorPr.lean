/-
  What the four laws of package value lean on: the tables as the rows list them, and a world that holds them.
-/
import Derived.Test.YtalkgfkekcocgaaDoorCards
import Derived.Test.YtalkgfkekcocgaaDoorTie
import Derived.Test.YtalkgfkekcocgaaDoorShow
import Derived.Test.YtalkgfkekcocgaaDoorLaw
import Derived.Lib.LaidU8
import Derived.Shelf.Vars
namespace Go.Proofs.YtalkgfkekcocgaaDoor
open Go.ChangeShapes Go.WideShapes Go.ChangeAt Go.RowKit

theorem own : ownKnob Tryd.prog.godebug = none := by kernel_rfl
theorem laidOut : laidOutB Tryd.prog = true := by kernel_rfl
theorem cInt : Tryd.prog.cellsOf 3 = 1 := by kernel_rfl
theorem cU64 : Tryd.prog.cellsOf 65 = 1 := by kernel_rfl
theorem cRow : Tryd.prog.cellsOf 47 = 3 := by kernel_rfl
theorem cPow : Tryd.prog.cellsOf 73 = 20 := by kernel_rfl
theorem gAnds : Tryd.prog.globalNamed "commissary/value.ands" = some 1 := by kernel_rfl
theorem gOrs : Tryd.prog.globalNamed "commissary/value.ors" = some 2 := by kernel_rfl
theorem gNots : Tryd.prog.globalNamed "commissary/value.nots" = some 0 := by kernel_rfl
theorem gPows : Tryd.prog.globalNamed "internal/strconv.uint64pow10" = some 3 := by kernel_rfl
theorem tAnds : (Tryd.prog.globals[1]?).map (·.type) = some 48 := by kernel_rfl
theorem tOrs : (Tryd.prog.globals[2]?).map (·.type) = some 48 := by kernel_rfl
theorem tNots : (Tryd.prog.globals[0]?).map (·.type) = some 47 := by kernel_rfl
theorem tPows : (Tryd.prog.globals[3]?).map (·.type) = some 73 := by kernel_rfl

/-- A table of three by three, cell by cell. -/
theorem cells33 {W : World} {name : String} {g : Nat} {l0 l1 l2 : List Int} (hg : Tryd.prog.globalNamed name = some g) (ht : (Tryd.prog.globals[g]?).map (·.type) = some 48)
    (h : Lib.VarReads Tryd.prog W name (.agg [Lib.tabData .i64 l0, Lib.tabData .i64 l1, Lib.tabData .i64 l2])) (h0 : l0.length = 3) (h1 : l1.length = 3) (h2 : l2.length = 3) :
    ∀ j, j < 3 → W.cell? ⟨g, j, none⟩ = some (.int .i64 (l0.getD j 0)) ∧ W.cell? ⟨g, 3 + j, none⟩ = some (.int .i64 (l1.getD j 0)) ∧ W.cell? ⟨g, 6 + j, none⟩ = some (.int .i64 (l2.getD j 0)) := by
  obtain ⟨g', t, cs, fuel, p, hg', ht', hv, hd⟩ := h
  obtain rfl := Option.some.inj (hg.symm.trans hg')
  obtain rfl := Option.some.inj (ht.symm.trans ht')
  have key : ∀ (i : Nat) (l : List Int), i < 3 → l.length = 3 → [Lib.tabData (H := Unit) .i64 l0, Lib.tabData .i64 l1, Lib.tabData .i64 l2][i]? = some (Lib.tabData .i64 l) → ∀ j, j < 3 → W.cell? ⟨g, i * 3 + j, none⟩ = some (.int .i64 (l.getD j 0)) := by
    intro i l hi hl hel j hj
    obtain ⟨fuel', d, q, hdd, hdr⟩ := Lib.array_elem Tryd.underlying48 hd i hi
    rw [hel] at hdd
    obtain rfl := Option.some.inj hdd
    have hc := Lib.cells_of_tab Tryd.underlying47 Tryd.underlying3 cInt cRow hdr
    rw [cRow] at hc
    rw [World.var?_cell hg hv]
    have e : ((cs.toList.drop (i * 3)).take 3)[j]? = cs.toList[i * 3 + j]? := by
      rw [List.getElem?_take_of_lt hj, List.getElem?_drop]
    rw [← Array.getElem?_toList, ← e, hc]
    simp [List.getD, hl, hj]
  intro j hj
  have a := key 0 l0 (by omega) h0 rfl j hj
  have b := key 1 l1 (by omega) h1 rfl j hj
  have c := key 2 l2 (by omega) h2 rfl j hj
  exact ⟨by simpa using a, by simpa using b, by simpa using c⟩

theorem cells3 {W : World} {name : String} {g : Nat} {l : List Int} (hg : Tryd.prog.globalNamed name = some g) (ht : (Tryd.prog.globals[g]?).map (·.type) = some 47)
    (h : Lib.VarReads Tryd.prog W name (Lib.tabData .i64 l)) (hl : l.length = 3) : ∀ j, j < 3 → W.cell? ⟨g, j, none⟩ = some (.int .i64 (l.getD j 0)) := by
  obtain ⟨g', t, cs, fuel, p, hg', ht', hv, hd⟩ := h
  obtain rfl := Option.some.inj (hg.symm.trans hg')
  obtain rfl := Option.some.inj (ht.symm.trans ht')
  have hc := Lib.cells_of_tab Tryd.underlying47 Tryd.underlying3 cInt cRow hd
  intro j hj
  rw [World.var?_cell hg hv, ← Array.getElem?_toList, hc]
  simp [List.getD, hl, hj]

/-- The list that all four rows bear. -/
abbrev listed : List (String × DataW Unit) := Rows.valueMorgansRow.laid

theorem tabs_of {W : World} (h : laidMetH Tryd.prog listed W) (hs : W.ShapedOpen Tryd.prog) : Tabs W ∧ Pows W := by
  have hL : laidMet Tryd.prog listed W := h
  have ra : Lib.VarReads Tryd.prog W "commissary/value.ands" Rows.laid_commissary_value_ands := Lib.laidMet.reads hL (.tail _ (.tail _ (.tail _ (.tail _ (.head _)))))
  have ro : Lib.VarReads Tryd.prog W "commissary/value.ors" Rows.laid_commissary_value_ors := Lib.laidMet.reads hL (.tail _ (.tail _ (.tail _ (.tail _ (.tail _ (.head _))))))
  have rn : Lib.VarReads Tryd.prog W "commissary/value.nots" Rows.laid_commissary_value_nots := Lib.laidMet.reads hL (.tail _ (.tail _ (.tail _ (.tail _ (.tail _ (.tail _ (.head _)))))))
  have rp : Lib.VarReads Tryd.prog W "internal/strconv.uint64pow10" Rows.laid_internal_strconv_uint64pow10 := Lib.laidMet.reads hL (.tail _ (.tail _ (.head _)))
  have ca := cells33 (l0 := [0, 0, 0]) (l1 := [0, 1, 2]) (l2 := [0, 2, 2]) gAnds tAnds ra rfl rfl rfl
  have co := cells33 (l0 := [0, 1, 2]) (l1 := [1, 1, 1]) (l2 := [2, 1, 2]) gOrs tOrs ro rfl rfl rfl
  have cn := cells3 (l := [1, 0, 2]) gNots tNots rn rfl
  have hm : ∃ m, W.cell? ⟨4, 0, none⟩ = some (.int .i64 m) :=
    cell_of_shapedOpen_int (t := 3) (zero := #[.int .i64 0]) hs (of_decide_eq_true (by kernel_rfl)) (by kernel_rfl) rfl (by kernel_rfl) (by kernel_rfl) Tryd.underlying3
  refine ⟨⟨(ca 0 (by omega)).1, (ca 1 (by omega)).1, (ca 2 (by omega)).1, (ca 0 (by omega)).2.1, (ca 1 (by omega)).2.1, (ca 2 (by omega)).2.1, (ca 0 (by omega)).2.2, (ca 1 (by omega)).2.2, (ca 2 (by omega)).2.2,
    (co 0 (by omega)).1, (co 1 (by omega)).1, (co 2 (by omega)).1, (co 0 (by omega)).2.1, (co 1 (by omega)).2.1, (co 2 (by omega)).2.1, (co 0 (by omega)).2.2, (co 1 (by omega)).2.2, (co 2 (by omega)).2.2,
    cn 0 (by omega), cn 1 (by omega), cn 2 (by omega), hm⟩, ?_⟩
  obtain ⟨g', t, cs, fuel, p, hg', ht', hv, hd⟩ := rp
  obtain rfl := Option.some.inj (gPows.symm.trans hg')
  obtain rfl := Option.some.inj (tPows.symm.trans ht')
  have hd' : DataW.trod (fun _ => ()) Tryd.prog W 0 (fun _ => true) false fuel 73 cs.toList = some (Lib.tabData .u64 Lib.pow10Tab, p) := hd
  have hc := Lib.cells_of_tab Tryd.underlying73 Tryd.underlying65 cU64 cPow hd'
  show W.var? Tryd.prog "internal/strconv.uint64pow10" = some (Lib.pow10Tab.map fun z => Value.int .u64 z).toArray
  rw [hv, ← hc]

/-- A WORLD FOR THE WITNESS: the settled one, each listed table holding what its initialiser lays. -/
noncomputable def laidWorld (os : Os) : World :=
  let w0 := World.holding Tryd.prog os ⟨#[], #[], []⟩
  let put (h : Array Obj) (g : Nat) (cs : Array Value) : Array Obj := h.modify g fun
    | .cells _ t frozen => .cells cs t frozen
    | o => o
  let flat (l : List Int) : Array Value := (l.map (Value.int .i64)).toArray
  let ofData (d : DataW Unit) : Array Value := match d with
    | .agg l => (l.flatMap fun
        | .lit (.int k n) => [Value.int k n]
        | .agg l' => l'.map fun
            | .lit (.int k n) => Value.int k n
            | _ => .bool false
        | _ => []).toArray
    | _ => #[]
  let h1 := put w0.heap 0 (flat [1, 0, 2])
  let h2 := put h1 1 (flat [0, 0, 0, 0, 1, 2, 0, 2, 2])
  let h3 := put h2 2 (flat [0, 1, 2, 1, 1, 1, 2, 1, 2])
  let h4 := put h3 3 (ofData Rows.laid_internal_strconv_uint64pow10)
  let h5 := put h4 5 (ofData Rows.laid_unicode_utf8_first)
  let h6 := put h5 6 (ofData Rows.laid_unicode_utf8_acceptRanges)
  let h7 := put h6 7 (ofData Rows.laid_math_bits_deBruijn32tab)
  let h8 := put h7 8 (ofData Rows.laid_math_bits_deBruijn64tab)
  { w0 with heap := h8 }

set_option maxRecDepth 100000 in
theorem laid_met (os : Os) (args : Array Value) : laidMet Tryd.prog listed ((laidWorld os).forCall (fun _ _ => 0) ⟨#[], args, []⟩).memory :=
  laidMet_of_run' 8 (by kernel_rfl) (by kernel_rfl)

end Go.Proofs.YtalkgfkekcocgaaDoor
