/-
  Expressions that come in, opened.
  What the four laws of package expr lean on: the tables as the rows list them, and a world that holds them.
-/
import Derived.Test.YteckhaicodmakaaGreatDoorEx1
import Derived.Test.YteckhaicodmakaaGreatDoorLaw
import Derived.Deep.Grids
import Derived.Deep.SlicePairs
import Derived.Deep.Strs
import Derived.ChangeSlices
import Derived.Lib.SmallJoins
import Derived.Test.YteckhaicodmakaaGreatDoorCards
import Derived.Test.YteckhaicodmakaaGreatDoorTie
import Derived.Test.YteckhaicodmakaaGreatDoorEx8
import Derived.Lib.LaidU8
import Derived.Shelf.Vars
namespace Go.Proofs.YteckhaicodmakaaGreatDoor
section
open Go.ChangeShapes Go.WideShapes Go.ChangeAt Go.RowKit Go.Joins Go.Deep

theorem XsB.each {B : Nat → Prop} {w : World} {g : Nat} (hg : B g) : ∀ {l : List Ex} {o : Nat}, (∀ i h l', l[i]? = some (.mk h l') → ∃ A' cap, XC w g (o + i * 8) h A' l'.length cap ∧ l'.length ≤ cap ∧ XsB B w l' A') → XsB B w l (some ⟨g, o, none⟩)
  | [], o, _ => by rw [XsB]; trivial
  | .mk h l :: r, o, H => by
    rw [XsB]
    obtain ⟨A', cap, hc, hl, hx⟩ := H 0 h l rfl
    refine ⟨g, o, rfl, hg, ⟨A', cap, by simpa using hc, hl, hx⟩, XsB.each hg fun i h' l' hi => ?_⟩
    obtain ⟨A2, cap2, hc2, hl2, hx2⟩ := H (i + 1) h' l' (by simpa using hi)
    exact ⟨A2, cap2, by rw [show o + 8 + i * 8 = o + (i + 1) * 8 by omega]; exact hc2, hl2, hx2⟩
theorem spotX {W : World} {a : Addr} {v : Value} (h : W.cell? (a.add 0) = some v) : a = ⟨a.block, a.off, none⟩ := by
  obtain ⟨b, o, s⟩ := a
  have : s = none := by simpa [Addr.add] using World.cell?_spot h
  subst this; rfl
theorem plainX (b o i : Nat) : (⟨b, o, none⟩ : Addr).add i = ⟨b, o + i, none⟩ := by unfold Addr.add; split <;> simp_all
instance : Inhabited Ex := ⟨.mk ⟨0, 0, 0, 0, ⟨#[]⟩, ⟨#[]⟩, ⟨#[]⟩⟩ []⟩
section
variable {H : Type} {enc : TypeId × Value → H}
theorem cExpr : Tryz.prog.cellsOf 26 = 8 := by kernel_rfl
theorem cExprs : Tryz.prog.cellsOf 24 = 1 := by kernel_rfl
theorem cIntX : Tryz.prog.cellsOf 3 = 1 := by kernel_rfl
theorem cStrX : Tryz.prog.cellsOf 9 = 1 := by kernel_rfl
theorem cValX : Tryz.prog.cellsOf 23 = 3 := by kernel_rfl
set_option maxRecDepth 100000 in
theorem val_cells {W : World} {fuel : Nat} {v0 v1 v2 : Value} {x : DataW H × List MemPlace} (h : DataW.trod enc Tryz.prog W 0 (fun _ => true) true fuel 23 [v0, v1, v2] = some x) :
    ∃ (k n : Int) (s : ByteArray), v0 = .int .i64 k ∧ v1 = .int .i64 n ∧ v2 = .string s := by
  obtain ⟨y0, y1, y2, n', _, _, g0, g1, g2⟩ := trod_struct3 Tryz.underlying23 h
  simp [cIntX, cStrX] at g0 g1 g2
  obtain ⟨k, q0, _, _⟩ := DataW.trod_int Tryz.underlying3 g0
  obtain ⟨n, q1, _, _⟩ := DataW.trod_int Tryz.underlying3 g1
  obtain ⟨s, q2, _⟩ := DataW.trod_string Tryz.underlying9 g2
  simp at q0 q1 q2
  exact ⟨k, n, s, q0, q1, q2⟩
def CellsEx (W : World) (cs : List Value) (h : Hd) (l : List Ex) : Prop :=
  ∃ A cap, cs = [.int .i64 h.k, .int .i64 h.n, .int .i64 h.vk, .int .i64 h.vn, .string h.vs, .string h.tab, .string h.col, .slice A l.length cap] ∧ l.length ≤ cap ∧ XsAt W.heap.size W l A
set_option maxRecDepth 100000 in
theorem ex_cells {W : World} : ∀ (fuel : Nat) (cs : List Value) (x : DataW H × List MemPlace), DataW.trod enc Tryz.prog W 0 (fun _ => true) true fuel 26 cs = some x → ∃ h l, CellsEx W cs h l := by
  intro fuel
  induction fuel using Nat.strongRecOn with
  | _ fuel ih =>
    intro cs x h
    obtain ⟨xs, n, rfl, _, hlen, hxl, hf⟩ := DataW.trod_struct Tryz.underlying26 h
    rw [cExpr] at hlen
    match cs, hlen, hf with
    | [c0, c1, c2, c3, c4, c5, c6, c7], _, hf =>
      have hget : ∀ i, i < 6 → ∃ y, xs[i]? = some y := fun i hi => ⟨_, List.getElem?_eq_getElem (by rw [hxl]; exact hi)⟩
      obtain ⟨z0, e0⟩ := hget 0 (by omega)
      obtain ⟨z1, e1⟩ := hget 1 (by omega)
      obtain ⟨z2, e2⟩ := hget 2 (by omega)
      obtain ⟨z3, e3⟩ := hget 3 (by omega)
      obtain ⟨z4, e4⟩ := hget 4 (by omega)
      obtain ⟨z5, e5⟩ := hget 5 (by omega)
      have g0 := (hf 0 _ rfl).trans e0
      have g1 := (hf 1 _ rfl).trans e1
      have g2 := (hf 2 _ rfl).trans e2
      have g3 := (hf 3 _ rfl).trans e3
      have g4 := (hf 4 _ rfl).trans e4
      have g5 := (hf 5 _ rfl).trans e5
      clear hf hget e0 e1 e2 e3 e4 e5
      simp [cIntX, cStrX, cValX, cExprs] at g0 g1 g2 g3 g4 g5
      obtain ⟨k, q0, _, _⟩ := DataW.trod_int Tryz.underlying3 g0
      obtain ⟨n0, q1, _, _⟩ := DataW.trod_int Tryz.underlying3 g1
      obtain ⟨vk, vn, vs, rfl, rfl, rfl⟩ := val_cells g2
      obtain ⟨tab, q3, _⟩ := DataW.trod_string Tryz.underlying9 g3
      obtain ⟨col, q4, _⟩ := DataW.trod_string Tryz.underlying9 g4
      simp at q0 q1 q3 q4
      subst q0 q1 q3 q4
      rcases DataW.trod_slice Tryz.underlying24 g5 with ⟨hcs, _⟩ | ⟨a, len, cap, elems, rest, n', hn', hcs, _, _, hl, hm, hel, hx, _, _⟩
      · simp at hcs
        subst hcs
        exact ⟨⟨k, n0, vk, vn, vs, tab, col⟩, [], none, 0, rfl, Nat.le_refl _, by rw [XsAt, XsB]; trivial⟩
      · simp at hcs
        subst hcs
        have each : ∀ i, i < len → ∃ e : Ex, ∃ A' cap', W.cell? (a.add (i * 8)) = some (.int .i64 e.hd.k) ∧ W.cell? (a.add (i * 8 + 1)) = some (.int .i64 e.hd.n) ∧ W.cell? (a.add (i * 8 + 2)) = some (.int .i64 e.hd.vk) ∧ W.cell? (a.add (i * 8 + 3)) = some (.int .i64 e.hd.vn) ∧
            W.cell? (a.add (i * 8 + 4)) = some (.string e.hd.vs) ∧ W.cell? (a.add (i * 8 + 5)) = some (.string e.hd.tab) ∧ W.cell? (a.add (i * 8 + 6)) = some (.string e.hd.col) ∧ W.cell? (a.add (i * 8 + 7)) = some (.slice A' e.kids.length cap') ∧ e.kids.length ≤ cap' ∧ XsAt W.heap.size W e.kids A' := by
          intro i hi
          have h1 := hx i hi
          obtain ⟨z, hz⟩ : ∃ z, elems[i]? = some z := ⟨_, List.getElem?_eq_getElem (by rw [hel]; exact hi)⟩
          rw [hz, cExpr] at h1
          obtain ⟨cs', h2, h3⟩ := Option.bind_eq_some_iff.1 h1
          obtain ⟨_, _, hcell⟩ := World.cells?_some h2
          obtain ⟨h', l', A', cap', rfl, hl', hx'⟩ := ih n' (by omega) cs' z h3
          have e0 := hcell 0 (by omega)
          have e1 := hcell 1 (by omega)
          have e2 := hcell 2 (by omega)
          have e3 := hcell 3 (by omega)
          have e4 := hcell 4 (by omega)
          have e5 := hcell 5 (by omega)
          have e6 := hcell 6 (by omega)
          have e7 := hcell 7 (by omega)
          rw [add_add] at e0 e1 e2 e3 e4 e5 e6 e7
          exact ⟨.mk h' l', A', cap', by simpa [Ex.hd] using e0, by simpa [Ex.hd] using e1, by simpa [Ex.hd] using e2, by simpa [Ex.hd] using e3, by simpa [Ex.hd] using e4, by simpa [Ex.hd] using e5, by simpa [Ex.hd] using e6, by simpa [Ex.kids] using e7, hl', hx'⟩
        obtain ⟨f, hf⟩ := choose_lt each
        refine ⟨⟨k, n0, vk, vn, vs, tab, col⟩, (List.range len).map f, some a, cap, by simp, by simpa using hl, ?_⟩
        rcases Nat.eq_zero_or_pos len with h0 | h0
        · subst h0
          rw [List.range_zero, List.map_nil, XsAt, XsB]; trivial
        · obtain ⟨A0, cap0, hc0, _⟩ := hf 0 h0
          have ha := spotX (by simpa using hc0)
          have hlt := World.block_lt_of_cell? W _ hc0
          generalize a.block = b at ha
          generalize a.off = o at ha
          subst ha
          rw [plainX] at hlt
          refine XsB.each (B := fun k => k < W.heap.size) hlt fun i h' l' hi => ?_
          rw [List.getElem?_map] at hi
          obtain ⟨j, hj, hje⟩ := Option.map_eq_some_iff.1 hi
          obtain ⟨hjl, hjj⟩ := List.getElem?_eq_some_iff.1 hj
          simp at hjj hjl
          subst hjj
          obtain ⟨A', cap', q0, q1, q2, q3, q4, q5, q6, q7, hl', hx'⟩ := hf i hjl
          rw [hje] at q0 q1 q2 q3 q4 q5 q6 q7 hl' hx'
          simp only [plainX, ← Nat.add_assoc] at q0 q1 q2 q3 q4 q5 q6 q7
          exact ⟨A', cap', ⟨q0, q1, q2, q3, q4, q5, q6, q7⟩, hl', hx'⟩
theorem array8 {α : Type} {a : Array α} (h : a.size = 8) : ∃ c0 c1 c2 c3 c4 c5 c6 c7, a = #[c0, c1, c2, c3, c4, c5, c6, c7] := by
  obtain ⟨l⟩ := a
  match l, h with
  | [c0, c1, c2, c3, c4, c5, c6, c7], _ => exact ⟨c0, c1, c2, c3, c4, c5, c6, c7, rfl⟩
set_option maxRecDepth 100000 in
theorem open_ex {W : World} {base : Nat} {v : Value} {d : DataW H} {p : List MemPlace} (hval : Value.okWide Tryz.prog W .any base 26 v) (h : DataW.Trod enc Tryz.prog W 0 (fun _ => true) true 26 v d p) :
    ∃ h l A cap, v = XV h A l.length cap ∧ l.length ≤ cap ∧ XsAt W.heap.size W l A := by
  obtain ⟨cs, rfl, hsz⟩ := okWide_struct Tryz.underlying26 hval
  obtain ⟨c0, c1, c2, c3, c4, c5, c6, c7, rfl⟩ := array8 (hsz.trans cExpr)
  obtain ⟨fuel, hf⟩ := h
  obtain ⟨h, l, A, cap, e, hl, hx⟩ := ex_cells fuel _ _ (by simpa [Value.cells] using hf)
  simp only [List.cons.injEq, and_true] at e
  obtain ⟨rfl, rfl, rfl, rfl, rfl, rfl, rfl, rfl⟩ := e
  exact ⟨h, l, A, cap, rfl, hl, hx⟩
end
end
section
open Go.ChangeShapes Go.WideShapes Go.ChangeAt Go.RowKit

theorem own : ownKnob Tryz.prog.godebug = none := by kernel_rfl
theorem laidOut : laidOutB Tryz.prog = true := by kernel_rfl
theorem cU64 : Tryz.prog.cellsOf 98 = 1 := by kernel_rfl
theorem cPow : Tryz.prog.cellsOf 108 = 20 := by kernel_rfl
theorem gKeys : Tryz.prog.globalNamed "commissary/lex.keys" = some 6 := by kernel_rfl
theorem gSigns : Tryz.prog.globalNamed "commissary/lex.signs" = some 1 := by kernel_rfl
theorem gBetween : Tryz.prog.globalNamed "commissary/expr.between" = some 0 := by kernel_rfl
theorem gPows : Tryz.prog.globalNamed "internal/strconv.uint64pow10" = some 2 := by kernel_rfl
theorem tKeys : (Tryz.prog.globals[6]?).map (·.type) = some 121 := by kernel_rfl
theorem tSigns : (Tryz.prog.globals[1]?).map (·.type) = some 73 := by kernel_rfl
theorem tBetween : (Tryz.prog.globals[0]?).map (·.type) = some 73 := by kernel_rfl
theorem tPows : (Tryz.prog.globals[2]?).map (·.type) = some 108 := by kernel_rfl

/-- A table of texts, cell by cell. -/
theorem cellsStr {W : World} {name : String} {g n : Nat} {t : TypeId} {L : List Lx.B} (hg : Tryz.prog.globalNamed name = some g) (ht : (Tryz.prog.globals[g]?).map (·.type) = some t) (hu : Tryz.prog.underlying t = some (.array n 9))
    (h : Lib.VarReads Tryz.prog W name (.agg (L.map fun b => .lit (.string b)))) (j : Nat) (b : Lx.B) (hj : j < n) (hb : L[j]? = some b) : W.cell? ⟨g, j, none⟩ = some (.string ⟨b.toArray⟩) := by
  obtain ⟨g', t', cs, fuel, p, hg', ht', hv, hd⟩ := h
  obtain rfl := Option.some.inj (hg.symm.trans hg')
  obtain rfl := Option.some.inj (ht.symm.trans ht')
  obtain ⟨fuel', d, q, hdd, hdr⟩ := Lib.array_elem hu hd j hj
  rw [List.getElem?_map, hb] at hdd
  obtain rfl := Option.some.inj hdd
  obtain ⟨s, hc, hx, _⟩ := DataW.trod_string Tryz.underlying9 hdr
  have hs : b = s.data.toList := by
    have := congrArg Prod.fst hx
    simpa using this
  have h1 : cs.toList[j]? = some (.string s) := by
    have := congrArg (·[0]?) hc
    simpa [List.getElem?_take, List.getElem?_drop, cStrX] using this
  rw [World.var?_cell hg hv, ← Array.getElem?_toList, h1, hs]

/-- The list that all four rows bear. -/
abbrev listed : List (String × DataW Unit) := Rows.exprTextsRow.laid
theorem keys_laid : (Rows.laid_commissary_lex_keys : DataW Unit) = .agg (Lx.keys.map fun b => .lit (.string b)) := by kernel_rfl
theorem signs_laid : (Rows.laid_commissary_lex_signs : DataW Unit) = .agg (Lx.signs.map fun b => .lit (.string b)) := by kernel_rfl
theorem between_laid : (Rows.laid_commissary_expr_between : DataW Unit) = .agg (btw.map fun b => .lit (.string b)) := by kernel_rfl

theorem tabs_of {W : World} (h : laidMetH Tryz.prog listed W) (hs : W.ShapedOpen Tryz.prog) : TbX W := by
  have hL : laidMet Tryz.prog listed W := h
  have rp : Lib.VarReads Tryz.prog W "internal/strconv.uint64pow10" Rows.laid_internal_strconv_uint64pow10 := Lib.laidMet.reads hL (.tail _ (.tail _ (.head _)))
  have rs : Lib.VarReads Tryz.prog W "commissary/lex.signs" Rows.laid_commissary_lex_signs := Lib.laidMet.reads hL (.tail _ (.tail _ (.tail _ (.tail _ (.head _)))))
  have rk : Lib.VarReads Tryz.prog W "commissary/lex.keys" Rows.laid_commissary_lex_keys := Lib.laidMet.reads hL (.tail _ (.tail _ (.tail _ (.tail _ (.tail _ (.head _))))))
  have rb : Lib.VarReads Tryz.prog W "commissary/expr.between" Rows.laid_commissary_expr_between := Lib.laidMet.reads hL (.tail _ (.tail _ (.tail _ (.tail _ (.tail _ (.tail _ (.head _)))))))
  rw [signs_laid] at rs
  rw [keys_laid] at rk
  rw [between_laid] at rb
  have hm : ∃ m, W.cell? ⟨3, 0, none⟩ = some (.int .i64 m) :=
    cell_of_shapedOpen_int (t := 3) (zero := #[.int .i64 0]) hs (of_decide_eq_true (by kernel_rfl)) (by kernel_rfl) rfl (by kernel_rfl) (by kernel_rfl) Tryz.underlying3
  refine ⟨⟨fun j b hb => cellsStr gKeys tKeys Tryz.underlying121 rk j b (by have := (List.getElem?_eq_some_iff.1 hb).1; rwa [keys_len] at this) hb,
    fun j b hb => cellsStr gSigns tSigns Tryz.underlying73 rs j b (List.getElem?_eq_some_iff.1 hb).1 hb, hm⟩, ?_, fun j b hb => cellsStr gBetween tBetween Tryz.underlying73 rb j b (List.getElem?_eq_some_iff.1 hb).1 hb⟩
  obtain ⟨g', t, cs, fuel, p, hg', ht', hv, hd⟩ := rp
  obtain rfl := Option.some.inj (gPows.symm.trans hg')
  obtain rfl := Option.some.inj (tPows.symm.trans ht')
  have hd' : DataW.trod (fun _ => ()) Tryz.prog W 0 (fun _ => true) false fuel 108 cs.toList = some (Lib.tabData .u64 Lib.pow10Tab, p) := hd
  have hc := Lib.cells_of_tab Tryz.underlying108 Tryz.underlying98 cU64 cPow hd'
  show W.var? Tryz.prog "internal/strconv.uint64pow10" = some (Lib.pow10Tab.map fun z => Value.int .u64 z).toArray
  rw [hv, ← hc]

/-- A WORLD FOR THE WITNESS: the settled one, each listed table holding what its initialiser lays. -/
noncomputable def laidWorld (os : Os) : World :=
  let w0 := World.holding Tryz.prog os ⟨#[], #[], []⟩
  let put (h : Array Obj) (g : Nat) (cs : Array Value) : Array Obj := h.modify g fun
    | .cells _ t frozen => .cells cs t frozen
    | o => o
  let ofData (d : DataW Unit) : Array Value := match d with
    | .agg l => (l.flatMap fun
        | .lit (.int k n) => [Value.int k n]
        | .lit (.string b) => [Value.string ⟨b.toArray⟩]
        | .agg l' => l'.map fun
            | .lit (.int k n) => Value.int k n
            | _ => .bool false
        | _ => []).toArray
    | _ => #[]
  let h1 := put w0.heap 6 (ofData Rows.laid_commissary_lex_keys)
  let h2 := put h1 1 (ofData Rows.laid_commissary_lex_signs)
  let h3 := put h2 4 (ofData Rows.laid_unicode_utf8_first)
  let h4 := put h3 5 (ofData Rows.laid_unicode_utf8_acceptRanges)
  let h5 := put h4 2 (ofData Rows.laid_internal_strconv_uint64pow10)
  let h6 := put h5 7 (ofData Rows.laid_math_bits_deBruijn32tab)
  let h7 := put h6 8 (ofData Rows.laid_math_bits_deBruijn64tab)
  let h8 := put h7 0 (ofData Rows.laid_commissary_expr_between)
  { w0 with heap := h8 }

set_option maxRecDepth 100000 in
theorem laid_met (os : Os) (args : Array Value) : laidMet Tryz.prog listed ((laidWorld os).forCall (fun _ _ => 0) ⟨#[], args, []⟩).memory :=
  laidMet_of_run' 8 (by kernel_rfl) (by kernel_rfl)

end
end Go.Proofs.YteckhaicodmakaaGreatDoor
