/-
  Columns that come in, opened; the tables that the rows of types' laws list, and a world that holds them.
-/
import Derived.Test.YtofhaokaldpmaaaGreatDoorZ13
import Derived.Test.YtofhaokaldpmaaaGreatDoorCards
import Derived.Test.YtofhaokaldpmaaaGreatDoorTie
import Derived.Lib.LaidU8
import Derived.Shelf.Vars
import Derived.LaidHandle
section
namespace Go.Proofs.YtofhaokaldpmaaaGreatDoor
section
open Go.ChangeShapes Go.WideShapes Go.ChangeAt Go.RowKit Go.Joins Go.Deep
instance : Inhabited Co := ⟨⟨⟨#[]⟩, ⟨#[]⟩, 0⟩⟩
variable {H : Type} {enc : TypeId × Value → H}
theorem ltC_of_cell {w : World} {p : Addr} {v : Value} (h : w.cell? p = some v) : p.block < w.heap.size := by
  rcases Nat.lt_or_ge p.block w.heap.size with hl | hg
  · exact hl
  · rw [World.cell?, Array.getElem?_eq_none hg] at h; cases h
theorem cColX : Tryz.prog.cellsOf 57 = 3 := by kernel_rfl
set_option maxRecDepth 100000 in
theorem open_cols_cells {W : World} {fuel : Nat} {cs : List Value} {x : DataW H × List MemPlace} (h : DataW.trod enc Tryz.prog W 0 (fun _ => true) true fuel 22 cs = some x) :
    ∃ A c r, cs = [.slice A r.length c] ∧ CoAt W A r ∧ r.length ≤ c ∧ c ≤ maxLen ∧ (A = none → c = 0) := by
  rcases open_slice Tryz.underlying22 h with ⟨rfl, _⟩ | ⟨a, len, cap, m, n, D, Pl, rfl, _, hl, hm, hmm, _, hx⟩
  · exact ⟨none, 0, [], rfl, .inl rfl, Nat.le_refl _, Nat.zero_le _, fun _ => rfl⟩
  · simp only [if_true] at hmm
    subst hmm
    have each : ∀ i, i < len → ∃ v : Co, W.cell? (a.add (i * 3)) = some (.string v.tab) ∧ W.cell? (a.add (i * 3 + 1)) = some (.string v.nm) ∧ W.cell? (a.add (i * 3 + 2)) = some (.int .i64 v.ty) := by
      intro i hi
      obtain ⟨cs', h1, h2⟩ := hx i (by omega)
      rw [cColX] at h1
      obtain ⟨_, hlen, hcell⟩ := World.cells?_some h1
      obtain ⟨y0, y1, y2, n', _, _, g0, g1, g2⟩ := trod_struct3 Tryz.underlying57 h2
      match cs', hlen with
      | [v0, v1, v2], _ =>
        have e0 := hcell 0 (by omega)
        have e1 := hcell 1 (by omega)
        have e2 := hcell 2 (by omega)
        rw [add_add] at e0 e1 e2
        simp [cIntX, cStrX] at g0 g1 g2
        obtain ⟨s, q0, _, _⟩ := DataW.trod_string Tryz.underlying9 g0
        obtain ⟨s', q1, _, _⟩ := DataW.trod_string Tryz.underlying9 g1
        obtain ⟨n, q2, _, _⟩ := DataW.trod_int Tryz.underlying3 g2
        simp at q0 q1 q2
        subst q0 q1 q2
        exact ⟨⟨s, s', n⟩, by simpa using e0, by simpa using e1, by simpa using e2⟩
    obtain ⟨f, hf⟩ := choose_lt each
    refine ⟨some a, m, (List.range len).map f, by simp, ?_, by simpa using hl, hm, fun h => by cases h⟩
    rcases Nat.eq_zero_or_pos len with h0 | h0
    · subst h0; exact .inl rfl
    · have ha := spotX (by simpa using (hf 0 h0).1)
      generalize a.block = b at ha
      generalize a.off = o at ha
      subst ha
      refine .inr ⟨b, o, rfl, ?_, fun i v hv => ?_⟩
      · have := ltC_of_cell (hf 0 h0).1
        rw [plainX] at this
        exact this
      · rw [List.getElem?_map] at hv
        obtain ⟨j, hj, rfl⟩ := Option.map_eq_some_iff.1 hv
        have hj' := List.getElem?_eq_some_iff.1 hj
        obtain ⟨hjl, hje⟩ := hj'
        simp at hje hjl
        subst hje
        obtain ⟨q0, q1, q2⟩ := hf i hjl
        simp only [plainX] at q0 q1 q2
        exact ⟨q0, by rw [Nat.add_assoc]; exact q1, by rw [Nat.add_assoc]; exact q2⟩
set_option maxRecDepth 100000 in
theorem open_cols {W : World} {base : Nat} {v : Value} {d : DataW H} {p : List MemPlace} (hval : Value.okWide Tryz.prog W .any base 22 v) (h : DataW.Trod enc Tryz.prog W 0 (fun _ => true) true 22 v d p) :
    ∃ A c r, v = .slice A r.length c ∧ CoAt W A r ∧ r.length ≤ c ∧ c ≤ 9223372036854775807 ∧ (A = none → c = 0) := by
  obtain ⟨a, len, cap, rfl⟩ := okWide_slice Tryz.underlying22 hval
  obtain ⟨fuel, hf⟩ := h
  obtain ⟨A, c, r, e, h1, h2, h3, h4⟩ := open_cols_cells hf
  refine ⟨A, c, r, ?_, h1, h2, by unfold maxLen at h3; omega, h4⟩
  simpa [Value.cells] using e
end
section
open Go.ChangeShapes Go.WideShapes Go.ChangeAt Go.RowKit

theorem own : ownKnob Tryz.prog.godebug = none := by kernel_rfl
theorem laidOut : laidOutB Tryz.prog = true := by kernel_rfl
theorem gKeys : Tryz.prog.globalNamed "commissary/lex.keys" = some 2 := by kernel_rfl
theorem gSigns : Tryz.prog.globalNamed "commissary/lex.signs" = some 1 := by kernel_rfl
theorem gErr : Tryz.prog.globalNamed "errors.errorType" = some 0 := by kernel_rfl
theorem tKeys : (Tryz.prog.globals[2]?).map (·.type) = some 168 := by kernel_rfl
theorem tSigns : (Tryz.prog.globals[1]?).map (·.type) = some 167 := by kernel_rfl
theorem tRt : (Tryz.prog.cutTypes.find? (·.1 == "internal/reflectlite.rtype")).map (·.2) = some 127 := by kernel_rfl
theorem oneRow : ((List.range Tryz.prog.types.size).filter fun t => Tryz.prog.rowNamed t [101, 114, 114, 111, 114]) = [52] := by kernel_rfl

/-- A table of texts, cell by cell. -/
theorem cellsStr {W : World} {name : String} {g n : Nat} {t : TypeId} {L : List Lx.B} (hg : Tryz.prog.globalNamed name = some g) (ht : (Tryz.prog.globals[g]?).map (·.type) = some t) (hu : Tryz.prog.underlying t = some (.array n 9))
    (h : Lib.VarReads Tryz.prog W name (.agg (L.map fun b => .lit (.string b)))) (j : Nat) (b : Lx.B) (hj : j < n) (hb : L[j]? = some b) : W.cell? ⟨g, j, none⟩ = some (.string ⟨b.toArray⟩) := by
  obtain ⟨g', t', cs, fuel, p, hg', ht', hv, hd⟩ := h
  obtain rfl := Option.some.inj (hg.symm.trans hg')
  obtain rfl := Option.some.inj (ht.symm.trans ht')
  obtain ⟨fuel', d, q, hdd, hdr⟩ := Lib.array_elem hu hd j hj
  rw [List.getElem?_map, hb] at hdd
  obtain rfl := Option.some.inj hdd
  obtain ⟨s, hc, hx, _⟩ := DataW.trod_string Tryz.underlying9 hdr
  have hs : b = s.data.toList := by
    have := congrArg Prod.fst hx
    simpa using this
  have h1 : cs.toList[j]? = some (.string s) := by
    have := congrArg (·[0]?) hc
    simpa [List.getElem?_take, List.getElem?_drop, cStrX] using this
  rw [World.var?_cell hg hv, ← Array.getElem?_toList, h1, hs]

/-- The list that the rows bear. -/
abbrev listed : List (String × DataW Unit) := Rows.typesFindsRow.laid
theorem keys_laid : (Rows.laid_commissary_lex_keys : DataW Unit) = .agg (Lx.keys.map fun b => .lit (.string b)) := by kernel_rfl
theorem signs_laid : (Rows.laid_commissary_lex_signs : DataW Unit) = .agg (Lx.signs.map fun b => .lit (.string b)) := by kernel_rfl
theorem tabs_of {W : World} (h : laidMetH Tryz.prog listed W) : Tabs W ∧ ErrT W := by
  have h' : laidMet Tryz.prog [("commissary/lex.signs", Rows.laid_commissary_lex_signs), ("commissary/lex.keys", Rows.laid_commissary_lex_keys)] W ∧ handlesMet Tryz.prog [("errors.errorType", Rows.laid_errors_errorType)] W := h
  have rs : Lib.VarReads Tryz.prog W "commissary/lex.signs" Rows.laid_commissary_lex_signs := Lib.laidMet.reads h'.1 (.head _)
  have rk : Lib.VarReads Tryz.prog W "commissary/lex.keys" Rows.laid_commissary_lex_keys := Lib.laidMet.reads h'.1 (.tail _ (.head _))
  rw [signs_laid] at rs
  rw [keys_laid] at rk
  refine ⟨⟨fun j b hb => cellsStr gKeys tKeys Tryz.underlying168 rk j b (by have := (List.getElem?_eq_some_iff.1 hb).1; rwa [keys_len] at this) hb,
    fun j b hb => cellsStr gSigns tSigns Tryz.underlying167 rs j b (List.getElem?_eq_some_iff.1 hb).1 hb, 0, rfl⟩, ?_⟩
  obtain ⟨name, u, ty, e1, e2, e3, e4, e5⟩ := h'.2 _ (List.mem_singleton.2 rfl)
  have en : name = [101, 114, 114, 111, 114] := (Option.some.inj e1).symm
  subst en
  obtain rfl := Option.some.inj (tRt.symm.trans e2)
  have hm : ty ∈ (List.range Tryz.prog.types.size).filter fun t => Tryz.prog.rowNamed t [101, 114, 114, 111, 114] := List.mem_filter.2 ⟨List.mem_range.2 e3, e4⟩
  rw [oneRow] at hm
  obtain rfl := List.mem_singleton.1 hm
  have hh : typeHandle Tryz.prog 52 = hdl 52 := by kernel_rfl
  rw [hh] at e5
  have := World.var?_cell gErr e5 0
  simpa [ErrT] using this

/-- A WORLD FOR THE WITNESS: the settled one, each listed table holding what its initialiser lays. -/
noncomputable def laidWorld (os : Os) : World :=
  let w0 := World.holding Tryz.prog os ⟨#[], #[], []⟩
  let put (h : Array Obj) (g : Nat) (cs : Array Value) : Array Obj := h.modify g fun
    | .cells _ t frozen => .cells cs t frozen
    | o => o
  let ofData (d : DataW Unit) : Array Value := match d with
    | .agg l => (l.flatMap fun
        | .lit (.string b) => [Value.string ⟨b.toArray⟩]
        | _ => []).toArray
    | _ => #[]
  let h1 := put w0.heap 2 (ofData Rows.laid_commissary_lex_keys)
  let h2 := put h1 1 (ofData Rows.laid_commissary_lex_signs)
  let h3 := put h2 0 #[.iface 127 (.agg #[hdl 52])]
  { w0 with heap := h3 }

set_option maxRecDepth 100000 in
theorem laid_met (os : Os) (args : Array Value) : laidMetH Tryz.prog listed ((laidWorld os).forCall (fun _ _ => 0) ⟨#[], args, []⟩).memory :=
  laidMetH_of_parts (laidMet_of_run' 8 (by kernel_rfl) (by kernel_rfl)) (by kernel_rfl)
end
end Go.Proofs.YtofhaokaldpmaaaGreatDoor
end
