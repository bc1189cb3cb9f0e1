/-
  CalcSafe (P16.3): for any expression and any row the law returns true, and each argument reads afterwards as before; the tied card, no further condition.
-/
import Derived.Test.YtpokpiphnggfpaaDoorZ16
import Derived.WalkKit
import Derived.ProofKit
import Derived.Carry
import Derived.OpenShut
import Derived.Deep.DeepHandedRow
import Derived.Deep.Grids
import Derived.Deep.SlicePairs
import Derived.Deep.Strs
import Derived.ChangeSlices
import Derived.Lib.SmallJoins
import Derived.Test.YtpokpiphnggfpaaDoorCards
import Derived.Test.YtpokpiphnggfpaaDoorTie
import Derived.Lib.LaidU8
import Derived.Shelf.Vars
section
namespace Go.Proofs.YtpokpiphnggfpaaDoor
open Go.ChangeShapes Go.WideShapes Go.ChangeAt Go.RowKit

section
variable {H : Type} {enc : TypeId × Value → H} {P : Program}

theorem belowAll (hl : laidOutB P = true) {W W' : World} (hb : Below W.heap.size W W') :
    ∀ {ts : List TypeId} {vs : List Value} {ds : List (DataW H)} {ps : List MemPlace}, (ts.all fun t => P.readableRec t && decide (t < P.types.size)) = true →
      DataW.TrodAll enc P W 0 (fun _ => true) true ts vs ds ps → (∀ x ∈ ps, x.block < W.heap.size) → DataW.TrodAll enc P W' 0 (fun b => decide (b < W.heap.size)) true ts vs ds ps
  | [], [], [], _, _, h, _ => h
  | [], [], _ :: _, _, _, h, _ => h.elim
  | [], _ :: _, _, _, _, h, _ => h.elim
  | _ :: _, [], _, _, _, h, _ => h.elim
  | _ :: _, _ :: _, [], _, _, h, _ => h.elim
  | t :: ts, v :: vs, d :: ds, ps, hr, h, hlt => by
    obtain ⟨p, q, h1, h2, rfl⟩ := h
    simp only [List.all_cons, Bool.and_eq_true, decide_eq_true_eq] at hr
    exact ⟨p, q, Below.trod hl hr.1.1 hr.1.2 h1 hb (fun x hx => hlt x (by simp [hx])), belowAll hl hb (by simpa using hr.2) h2 (fun x hx => hlt x (by simp [hx])), rfl⟩

/-- THE END OF A LAW's WALK IS ALL THAT ITS ROW ASKS. -/
theorem law_post {f : Func} {s : ChangeSpec} {W W' : World} {args : Array Value} {ds gs : List (DataW H)} {before : List MemPlace} {tb : TypeId} (hl : laidOutB P = true)
    (hts : (f.params.toList.all fun t => P.readableRec t && decide (t < P.types.size)) = true) (hres : f.resultTypes = #[tb]) (htb : P.underlying tb = some .bool)
    (hvars : s.vars = []) (hfn : s.fn H ds = { results := [.lit (.bool true)], args := ds })
    (hW : DataW.Whole enc P f.params.toList s.vars false W args.toList ds gs before) (hb : Below W.heap.size W W') :
    s.post enc P f false true false false W args (.bool true) W' := by
  have hW0 := hW
  obtain ⟨p, q, hA, hV, rfl, _, _⟩ := hW
  rw [hvars] at hV
  obtain ⟨rfl, rfl⟩ := trodVars_none hV
  refine ⟨ds, [], p ++ [], [], p, [], hW0, ?_, ?_, ?_, hb.frame _, fun h => by cases h⟩
  · rw [hres, List.append_nil, hfn]
    exact trodAll_mk1 (shut_bool htb _)
  · rw [List.append_nil, hfn]
    exact belowAll hl hb hts hA (fun x hx => by simpa using hW0.lt x (by simp [hx]))
  · rw [hvars, List.append_nil, hfn]
    rfl
end
end Go.Proofs.YtpokpiphnggfpaaDoor
end
section
namespace Go.Proofs.YtpokpiphnggfpaaDoor
section
open Go.ChangeShapes Go.WideShapes Go.ChangeAt Go.RowKit Go.Joins Go.Deep

theorem XsB.each {B : Nat → Prop} {w : World} {g : Nat} (hg : B g) : ∀ {l : List Ex} {o : Nat}, (∀ i h l', l[i]? = some (.mk h l') → ∃ A' cap, XC w g (o + i * 8) h A' l'.length cap ∧ l'.length ≤ cap ∧ XsB B w l' A') → XsB B w l (some ⟨g, o, none⟩)
  | [], o, _ => by rw [XsB]; trivial
  | .mk h l :: r, o, H => by
    rw [XsB]
    obtain ⟨A', cap, hc, hl, hx⟩ := H 0 h l rfl
    refine ⟨g, o, rfl, hg, ⟨A', cap, by simpa using hc, hl, hx⟩, XsB.each hg fun i h' l' hi => ?_⟩
    obtain ⟨A2, cap2, hc2, hl2, hx2⟩ := H (i + 1) h' l' (by simpa using hi)
    exact ⟨A2, cap2, by rw [show o + 8 + i * 8 = o + (i + 1) * 8 by omega]; exact hc2, hl2, hx2⟩
theorem spotX {W : World} {a : Addr} {v : Value} (h : W.cell? (a.add 0) = some v) : a = ⟨a.block, a.off, none⟩ := by
  obtain ⟨b, o, s⟩ := a
  have : s = none := by simpa [Addr.add] using World.cell?_spot h
  subst this; rfl
theorem plainX (b o i : Nat) : (⟨b, o, none⟩ : Addr).add i = ⟨b, o + i, none⟩ := by unfold Addr.add; split <;> simp_all
instance : Inhabited Ex := ⟨.mk ⟨0, 0, 0, 0, ⟨#[]⟩, ⟨#[]⟩, ⟨#[]⟩⟩ []⟩
section
variable {H : Type} {enc : TypeId × Value → H}
theorem cExpr : Tryd.prog.cellsOf 26 = 8 := by kernel_rfl
theorem cExprs : Tryd.prog.cellsOf 24 = 1 := by kernel_rfl
theorem cIntX : Tryd.prog.cellsOf 3 = 1 := by kernel_rfl
theorem cStrX : Tryd.prog.cellsOf 9 = 1 := by kernel_rfl
theorem cValX : Tryd.prog.cellsOf 23 = 3 := by kernel_rfl
set_option maxRecDepth 100000 in
theorem val_cells {W : World} {fuel : Nat} {v0 v1 v2 : Value} {x : DataW H × List MemPlace} (h : DataW.trod enc Tryd.prog W 0 (fun _ => true) true fuel 23 [v0, v1, v2] = some x) :
    ∃ (k n : Int) (s : ByteArray), v0 = .int .i64 k ∧ v1 = .int .i64 n ∧ v2 = .string s := by
  obtain ⟨y0, y1, y2, n', _, _, g0, g1, g2⟩ := trod_struct3 Tryd.underlying23 h
  simp [cIntX, cStrX] at g0 g1 g2
  obtain ⟨k, q0, _, _⟩ := DataW.trod_int Tryd.underlying3 g0
  obtain ⟨n, q1, _, _⟩ := DataW.trod_int Tryd.underlying3 g1
  obtain ⟨s, q2, _⟩ := DataW.trod_string Tryd.underlying9 g2
  simp at q0 q1 q2
  exact ⟨k, n, s, q0, q1, q2⟩
def CellsEx (W : World) (cs : List Value) (h : Hd) (l : List Ex) : Prop :=
  ∃ A cap, cs = [.int .i64 h.k, .int .i64 h.n, .int .i64 h.vk, .int .i64 h.vn, .string h.vs, .string h.tab, .string h.col, .slice A l.length cap] ∧ l.length ≤ cap ∧ XsAt W.heap.size W l A
set_option maxRecDepth 100000 in
theorem ex_cells {W : World} : ∀ (fuel : Nat) (cs : List Value) (x : DataW H × List MemPlace), DataW.trod enc Tryd.prog W 0 (fun _ => true) true fuel 26 cs = some x → ∃ h l, CellsEx W cs h l := by
  intro fuel
  induction fuel using Nat.strongRecOn with
  | _ fuel ih =>
    intro cs x h
    obtain ⟨xs, n, rfl, _, hlen, hxl, hf⟩ := DataW.trod_struct Tryd.underlying26 h
    rw [cExpr] at hlen
    match cs, hlen, hf with
    | [c0, c1, c2, c3, c4, c5, c6, c7], _, hf =>
      have hget : ∀ i, i < 6 → ∃ y, xs[i]? = some y := fun i hi => ⟨_, List.getElem?_eq_getElem (by rw [hxl]; exact hi)⟩
      obtain ⟨z0, e0⟩ := hget 0 (by omega)
      obtain ⟨z1, e1⟩ := hget 1 (by omega)
      obtain ⟨z2, e2⟩ := hget 2 (by omega)
      obtain ⟨z3, e3⟩ := hget 3 (by omega)
      obtain ⟨z4, e4⟩ := hget 4 (by omega)
      obtain ⟨z5, e5⟩ := hget 5 (by omega)
      have g0 := (hf 0 _ rfl).trans e0
      have g1 := (hf 1 _ rfl).trans e1
      have g2 := (hf 2 _ rfl).trans e2
      have g3 := (hf 3 _ rfl).trans e3
      have g4 := (hf 4 _ rfl).trans e4
      have g5 := (hf 5 _ rfl).trans e5
      clear hf hget e0 e1 e2 e3 e4 e5
      simp [cIntX, cStrX, cValX, cExprs] at g0 g1 g2 g3 g4 g5
      obtain ⟨k, q0, _, _⟩ := DataW.trod_int Tryd.underlying3 g0
      obtain ⟨n0, q1, _, _⟩ := DataW.trod_int Tryd.underlying3 g1
      obtain ⟨vk, vn, vs, rfl, rfl, rfl⟩ := val_cells g2
      obtain ⟨tab, q3, _⟩ := DataW.trod_string Tryd.underlying9 g3
      obtain ⟨col, q4, _⟩ := DataW.trod_string Tryd.underlying9 g4
      simp at q0 q1 q3 q4
      subst q0 q1 q3 q4
      rcases DataW.trod_slice Tryd.underlying24 g5 with ⟨hcs, _⟩ | ⟨a, len, cap, elems, rest, n', hn', hcs, _, _, hl, hm, hel, hx, _, _⟩
      · simp at hcs
        subst hcs
        exact ⟨⟨k, n0, vk, vn, vs, tab, col⟩, [], none, 0, rfl, Nat.le_refl _, by rw [XsAt, XsB]; trivial⟩
      · simp at hcs
        subst hcs
        have each : ∀ i, i < len → ∃ e : Ex, ∃ A' cap', W.cell? (a.add (i * 8)) = some (.int .i64 e.hd.k) ∧ W.cell? (a.add (i * 8 + 1)) = some (.int .i64 e.hd.n) ∧ W.cell? (a.add (i * 8 + 2)) = some (.int .i64 e.hd.vk) ∧ W.cell? (a.add (i * 8 + 3)) = some (.int .i64 e.hd.vn) ∧
            W.cell? (a.add (i * 8 + 4)) = some (.string e.hd.vs) ∧ W.cell? (a.add (i * 8 + 5)) = some (.string e.hd.tab) ∧ W.cell? (a.add (i * 8 + 6)) = some (.string e.hd.col) ∧ W.cell? (a.add (i * 8 + 7)) = some (.slice A' e.kids.length cap') ∧ e.kids.length ≤ cap' ∧ XsAt W.heap.size W e.kids A' := by
          intro i hi
          have h1 := hx i hi
          obtain ⟨z, hz⟩ : ∃ z, elems[i]? = some z := ⟨_, List.getElem?_eq_getElem (by rw [hel]; exact hi)⟩
          rw [hz, cExpr] at h1
          obtain ⟨cs', h2, h3⟩ := Option.bind_eq_some_iff.1 h1
          obtain ⟨_, _, hcell⟩ := World.cells?_some h2
          obtain ⟨h', l', A', cap', rfl, hl', hx'⟩ := ih n' (by omega) cs' z h3
          have e0 := hcell 0 (by omega)
          have e1 := hcell 1 (by omega)
          have e2 := hcell 2 (by omega)
          have e3 := hcell 3 (by omega)
          have e4 := hcell 4 (by omega)
          have e5 := hcell 5 (by omega)
          have e6 := hcell 6 (by omega)
          have e7 := hcell 7 (by omega)
          rw [add_add] at e0 e1 e2 e3 e4 e5 e6 e7
          exact ⟨.mk h' l', A', cap', by simpa [Ex.hd] using e0, by simpa [Ex.hd] using e1, by simpa [Ex.hd] using e2, by simpa [Ex.hd] using e3, by simpa [Ex.hd] using e4, by simpa [Ex.hd] using e5, by simpa [Ex.hd] using e6, by simpa [Ex.kids] using e7, hl', hx'⟩
        obtain ⟨f, hf⟩ := choose_lt each
        refine ⟨⟨k, n0, vk, vn, vs, tab, col⟩, (List.range len).map f, some a, cap, by simp, by simpa using hl, ?_⟩
        rcases Nat.eq_zero_or_pos len with h0 | h0
        · subst h0
          rw [List.range_zero, List.map_nil, XsAt, XsB]; trivial
        · obtain ⟨A0, cap0, hc0, _⟩ := hf 0 h0
          have ha := spotX (by simpa using hc0)
          have hlt := World.block_lt_of_cell? W _ hc0
          generalize a.block = b at ha
          generalize a.off = o at ha
          subst ha
          rw [plainX] at hlt
          refine XsB.each (B := fun k => k < W.heap.size) hlt fun i h' l' hi => ?_
          rw [List.getElem?_map] at hi
          obtain ⟨j, hj, hje⟩ := Option.map_eq_some_iff.1 hi
          obtain ⟨hjl, hjj⟩ := List.getElem?_eq_some_iff.1 hj
          simp at hjj hjl
          subst hjj
          obtain ⟨A', cap', q0, q1, q2, q3, q4, q5, q6, q7, hl', hx'⟩ := hf i hjl
          rw [hje] at q0 q1 q2 q3 q4 q5 q6 q7 hl' hx'
          simp only [plainX, ← Nat.add_assoc] at q0 q1 q2 q3 q4 q5 q6 q7
          exact ⟨A', cap', ⟨q0, q1, q2, q3, q4, q5, q6, q7⟩, hl', hx'⟩
theorem array8 {α : Type} {a : Array α} (h : a.size = 8) : ∃ c0 c1 c2 c3 c4 c5 c6 c7, a = #[c0, c1, c2, c3, c4, c5, c6, c7] := by
  obtain ⟨l⟩ := a
  match l, h with
  | [c0, c1, c2, c3, c4, c5, c6, c7], _ => exact ⟨c0, c1, c2, c3, c4, c5, c6, c7, rfl⟩
set_option maxRecDepth 100000 in
theorem open_ex {W : World} {base : Nat} {v : Value} {d : DataW H} {p : List MemPlace} (hval : Value.okWide Tryd.prog W .any base 26 v) (h : DataW.Trod enc Tryd.prog W 0 (fun _ => true) true 26 v d p) :
    ∃ h l A cap, v = XV h A l.length cap ∧ l.length ≤ cap ∧ XsAt W.heap.size W l A := by
  obtain ⟨cs, rfl, hsz⟩ := okWide_struct Tryd.underlying26 hval
  obtain ⟨c0, c1, c2, c3, c4, c5, c6, c7, rfl⟩ := array8 (hsz.trans cExpr)
  obtain ⟨fuel, hf⟩ := h
  obtain ⟨h, l, A, cap, e, hl, hx⟩ := ex_cells fuel _ _ (by simpa [Value.cells] using hf)
  simp only [List.cons.injEq, and_true] at e
  obtain ⟨rfl, rfl, rfl, rfl, rfl, rfl, rfl, rfl⟩ := e
  exact ⟨h, l, A, cap, rfl, hl, hx⟩
set_option maxRecDepth 100000 in
theorem exs_cells {W : World} {fuel : Nat} {cs : List Value} {x : DataW H × List MemPlace} (h : DataW.trod enc Tryd.prog W 0 (fun _ => true) true fuel 24 cs = some x) :
    ∃ (l : List Ex) (A : Option Addr) (cap : Nat), cs = [.slice A l.length cap] ∧ l.length ≤ cap ∧ cap ≤ maxLen ∧ XsAt W.heap.size W l A := by
  rcases DataW.trod_slice Tryd.underlying24 h with ⟨hcs, _⟩ | ⟨a, len, cap, elems, rest, n', hn', hcs, _, _, hl, hm, hel, hx, _, _⟩
  · exact ⟨[], none, 0, hcs, Nat.le_refl _, Nat.zero_le _, by rw [XsAt, XsB]; trivial⟩
  · have each : ∀ i, i < len → ∃ e : Ex, ∃ A' cap', W.cell? (a.add (i * 8)) = some (.int .i64 e.hd.k) ∧ W.cell? (a.add (i * 8 + 1)) = some (.int .i64 e.hd.n) ∧ W.cell? (a.add (i * 8 + 2)) = some (.int .i64 e.hd.vk) ∧ W.cell? (a.add (i * 8 + 3)) = some (.int .i64 e.hd.vn) ∧
        W.cell? (a.add (i * 8 + 4)) = some (.string e.hd.vs) ∧ W.cell? (a.add (i * 8 + 5)) = some (.string e.hd.tab) ∧ W.cell? (a.add (i * 8 + 6)) = some (.string e.hd.col) ∧ W.cell? (a.add (i * 8 + 7)) = some (.slice A' e.kids.length cap') ∧ e.kids.length ≤ cap' ∧ XsAt W.heap.size W e.kids A' := by
      intro i hi
      have h1 := hx i hi
      obtain ⟨z, hz⟩ : ∃ z, elems[i]? = some z := ⟨_, List.getElem?_eq_getElem (by rw [hel]; exact hi)⟩
      rw [hz, cExpr] at h1
      obtain ⟨cs', h2, h3⟩ := Option.bind_eq_some_iff.1 h1
      obtain ⟨_, _, hcell⟩ := World.cells?_some h2
      obtain ⟨h', l', A', cap', rfl, hl', hx'⟩ := ex_cells n' cs' z h3
      have e0 := hcell 0 (by omega)
      have e1 := hcell 1 (by omega)
      have e2 := hcell 2 (by omega)
      have e3 := hcell 3 (by omega)
      have e4 := hcell 4 (by omega)
      have e5 := hcell 5 (by omega)
      have e6 := hcell 6 (by omega)
      have e7 := hcell 7 (by omega)
      rw [add_add] at e0 e1 e2 e3 e4 e5 e6 e7
      exact ⟨.mk h' l', A', cap', by simpa [Ex.hd] using e0, by simpa [Ex.hd] using e1, by simpa [Ex.hd] using e2, by simpa [Ex.hd] using e3, by simpa [Ex.hd] using e4, by simpa [Ex.hd] using e5, by simpa [Ex.hd] using e6, by simpa [Ex.kids] using e7, hl', hx'⟩
    obtain ⟨f, hf⟩ := choose_lt each
    refine ⟨(List.range len).map f, some a, cap, by simpa using hcs, by simpa using hl, hm, ?_⟩
    rcases Nat.eq_zero_or_pos len with h0 | h0
    · subst h0
      rw [List.range_zero, List.map_nil, XsAt, XsB]; trivial
    · obtain ⟨A0, cap0, hc0, _⟩ := hf 0 h0
      have ha := spotX (by simpa using hc0)
      have hlt := World.block_lt_of_cell? W _ hc0
      generalize a.block = b at ha
      generalize a.off = o at ha
      subst ha
      rw [plainX] at hlt
      refine XsB.each (B := fun k => k < W.heap.size) hlt fun i h' l' hi => ?_
      rw [List.getElem?_map] at hi
      obtain ⟨j, hj, hje⟩ := Option.map_eq_some_iff.1 hi
      obtain ⟨hjl, hjj⟩ := List.getElem?_eq_some_iff.1 hj
      simp at hjj hjl
      subst hjj
      obtain ⟨A', cap', q0, q1, q2, q3, q4, q5, q6, q7, hl', hx'⟩ := hf i hjl
      rw [hje] at q0 q1 q2 q3 q4 q5 q6 q7 hl' hx'
      simp only [plainX, ← Nat.add_assoc] at q0 q1 q2 q3 q4 q5 q6 q7
      exact ⟨A', cap', ⟨q0, q1, q2, q3, q4, q5, q6, q7⟩, hl', hx'⟩
set_option maxRecDepth 100000 in
theorem open_exs {W : World} {base : Nat} {v : Value} {d : DataW H} {p : List MemPlace} (hval : Value.okWide Tryd.prog W .any base 24 v) (h : DataW.Trod enc Tryd.prog W 0 (fun _ => true) true 24 v d p) :
    ∃ (l : List Ex) (A : Option Addr) (cap : Nat), v = .slice A l.length cap ∧ l.length ≤ cap ∧ cap ≤ maxLen ∧ XsAt W.heap.size W l A := by
  obtain ⟨a, len, cap, rfl⟩ := okWide_slice Tryd.underlying24 hval
  obtain ⟨fuel, hf⟩ := h
  obtain ⟨l, A, c, e, rest⟩ := exs_cells hf
  refine ⟨l, A, c, ?_, rest⟩
  simpa [Value.cells] using e
end
end
end Go.Proofs.YtpokpiphnggfpaaDoor
end
section
namespace Go.Proofs.YtpokpiphnggfpaaDoor
section
open Go.ChangeShapes Go.WideShapes Go.ChangeAt Go.RowKit Go.Joins Go.Deep
instance : Inhabited Va := ⟨nullA⟩
variable {H : Type} {enc : TypeId × Value → H}
set_option maxRecDepth 100000 in
theorem open_row_cells {W : World} {fuel : Nat} {cs : List Value} {x : DataW H × List MemPlace} (h : DataW.trod enc Tryd.prog W 0 (fun _ => true) true fuel 27 cs = some x) :
    ∃ A c r, cs = [.slice A r.length c] ∧ RowAt W A r ∧ Fine r ∧ (A = none → c = 0) ∧ r.length ≤ c ∧ c ≤ maxLen := by
  rcases open_slice Tryd.underlying27 h with ⟨rfl, _⟩ | ⟨a, len, cap, m, n, D, Pl, rfl, _, hl, hm, hmm, _, hx⟩
  · exact ⟨none, 0, [], rfl, .inl rfl, (fun v hv => by cases hv), (fun _ => rfl), Nat.le_refl _, Nat.zero_le _⟩
  · simp only [if_true] at hmm
    subst hmm
    have each : ∀ i, i < len → ∃ v : Va, W.cell? (a.add (i * 3)) = some (.int .i64 v.k) ∧ W.cell? (a.add (i * 3 + 1)) = some (.int .i64 v.n) ∧ W.cell? (a.add (i * 3 + 2)) = some (.string v.s) ∧ v.s.size ≤ maxLen := by
      intro i hi
      obtain ⟨cs', h1, h2⟩ := hx i (by omega)
      rw [cValX] at h1
      obtain ⟨_, hlen, hcell⟩ := World.cells?_some h1
      obtain ⟨y0, y1, y2, n', _, _, g0, g1, g2⟩ := trod_struct3 Tryd.underlying23 h2
      match cs', hlen with
      | [v0, v1, v2], _ =>
        have e0 := hcell 0 (by omega)
        have e1 := hcell 1 (by omega)
        have e2 := hcell 2 (by omega)
        rw [add_add] at e0 e1 e2
        simp [cIntX, cStrX] at g0 g1 g2
        obtain ⟨k, q0, _, _⟩ := DataW.trod_int Tryd.underlying3 g0
        obtain ⟨n, q1, _, _⟩ := DataW.trod_int Tryd.underlying3 g1
        obtain ⟨s, q2, _, ws⟩ := DataW.trod_string Tryd.underlying9 g2
        simp at q0 q1 q2
        subst q0 q1 q2
        exact ⟨⟨k, n, s⟩, by simpa using e0, by simpa using e1, by simpa using e2, ws⟩
    obtain ⟨f, hf⟩ := choose_lt each
    refine ⟨some a, m, (List.range len).map f, by simp, ?_, ?_, (fun hh => by cases hh), by simpa using hl, hm⟩
    · rcases Nat.eq_zero_or_pos len with h0 | h0
      · subst h0; exact .inl rfl
      · have ha := spotX (by simpa using (hf 0 h0).1)
        generalize a.block = b at ha
        generalize a.off = o at ha
        subst ha
        refine .inr ⟨b, o, rfl, ?_, fun i v hv => ?_⟩
        · have := ltV_of_cell (hf 0 h0).1
          rw [plainX] at this
          exact this
        · rw [List.getElem?_map] at hv
          obtain ⟨j, hj, rfl⟩ := Option.map_eq_some_iff.1 hv
          have hj' := List.getElem?_eq_some_iff.1 hj
          obtain ⟨hjl, hje⟩ := hj'
          simp at hje hjl
          subst hje
          obtain ⟨q0, q1, q2, _⟩ := hf i hjl
          simp only [plainX] at q0 q1 q2
          exact ⟨q0, by rw [Nat.add_assoc]; exact q1, by rw [Nat.add_assoc]; exact q2⟩
    · intro v hv
      simp only [List.mem_map, List.mem_range] at hv
      obtain ⟨i, hi, rfl⟩ := hv
      have := (hf i hi).2.2.2
      simp only [maxLen] at this
      omega

set_option maxRecDepth 100000 in
theorem open_row {W : World} {base : Nat} {v : Value} {d : DataW H} {p : List MemPlace} (hval : Value.okWide Tryd.prog W .any base 27 v) (h : DataW.Trod enc Tryd.prog W 0 (fun _ => true) true 27 v d p) :
    ∃ A c r, v = .slice A r.length c ∧ RowAt W A r ∧ Fine r ∧ (A = none → c = 0) ∧ r.length ≤ c ∧ c ≤ maxLen := by
  obtain ⟨a, len, cap, rfl⟩ := okWide_slice Tryd.underlying27 hval
  obtain ⟨fuel, hf⟩ := h
  obtain ⟨A, c, r, e, rest⟩ := open_row_cells hf
  refine ⟨A, c, r, ?_, rest⟩
  simpa [Value.cells] using e

end
section
open Go.ChangeShapes Go.WideShapes Go.ChangeAt Go.RowKit

theorem own : ownKnob Tryd.prog.godebug = none := by kernel_rfl
theorem laidOut : laidOutB Tryd.prog = true := by kernel_rfl
theorem cRow3 : Tryd.prog.cellsOf 85 = 3 := by kernel_rfl
theorem gKeys : Tryd.prog.globalNamed "commissary/lex.keys" = some 4 := by kernel_rfl
theorem gSigns : Tryd.prog.globalNamed "commissary/lex.signs" = some 3 := by kernel_rfl
theorem gAnds : Tryd.prog.globalNamed "commissary/value.ands" = some 2 := by kernel_rfl
theorem gOrs : Tryd.prog.globalNamed "commissary/value.ors" = some 1 := by kernel_rfl
theorem gNots : Tryd.prog.globalNamed "commissary/value.nots" = some 0 := by kernel_rfl
theorem tKeys : (Tryd.prog.globals[4]?).map (·.type) = some 99 := by kernel_rfl
theorem tSigns : (Tryd.prog.globals[3]?).map (·.type) = some 98 := by kernel_rfl
theorem tAnds : (Tryd.prog.globals[2]?).map (·.type) = some 89 := by kernel_rfl
theorem tOrs : (Tryd.prog.globals[1]?).map (·.type) = some 89 := by kernel_rfl
theorem tNots : (Tryd.prog.globals[0]?).map (·.type) = some 85 := by kernel_rfl

/-- A table of three by three, cell by cell. -/
theorem cells33 {W : World} {name : String} {g : Nat} {l0 l1 l2 : List Int} (hg : Tryd.prog.globalNamed name = some g) (ht : (Tryd.prog.globals[g]?).map (·.type) = some 89)
    (h : Lib.VarReads Tryd.prog W name (.agg [Lib.tabData .i64 l0, Lib.tabData .i64 l1, Lib.tabData .i64 l2])) (h0 : l0.length = 3) (h1 : l1.length = 3) (h2 : l2.length = 3) :
    ∀ j, j < 3 → W.cell? ⟨g, j, none⟩ = some (.int .i64 (l0.getD j 0)) ∧ W.cell? ⟨g, 3 + j, none⟩ = some (.int .i64 (l1.getD j 0)) ∧ W.cell? ⟨g, 6 + j, none⟩ = some (.int .i64 (l2.getD j 0)) := by
  obtain ⟨g', t, cs, fuel, p, hg', ht', hv, hd⟩ := h
  obtain rfl := Option.some.inj (hg.symm.trans hg')
  obtain rfl := Option.some.inj (ht.symm.trans ht')
  have key : ∀ (i : Nat) (l : List Int), i < 3 → l.length = 3 → [Lib.tabData (H := Unit) .i64 l0, Lib.tabData .i64 l1, Lib.tabData .i64 l2][i]? = some (Lib.tabData .i64 l) → ∀ j, j < 3 → W.cell? ⟨g, i * 3 + j, none⟩ = some (.int .i64 (l.getD j 0)) := by
    intro i l hi hl hel j hj
    obtain ⟨fuel', d, q, hdd, hdr⟩ := Lib.array_elem Tryd.underlying89 hd i hi
    rw [hel] at hdd
    obtain rfl := Option.some.inj hdd
    have hc := Lib.cells_of_tab Tryd.underlying85 Tryd.underlying3 cIntX cRow3 hdr
    rw [cRow3] at hc
    rw [World.var?_cell hg hv]
    have e : ((cs.toList.drop (i * 3)).take 3)[j]? = cs.toList[i * 3 + j]? := by
      rw [List.getElem?_take_of_lt hj, List.getElem?_drop]
    rw [← Array.getElem?_toList, ← e, hc]
    simp [List.getD, hl, hj]
  intro j hj
  have a := key 0 l0 (by omega) h0 rfl j hj
  have b := key 1 l1 (by omega) h1 rfl j hj
  have c := key 2 l2 (by omega) h2 rfl j hj
  exact ⟨by simpa using a, by simpa using b, by simpa using c⟩

theorem cells3 {W : World} {name : String} {g : Nat} {l : List Int} (hg : Tryd.prog.globalNamed name = some g) (ht : (Tryd.prog.globals[g]?).map (·.type) = some 85)
    (h : Lib.VarReads Tryd.prog W name (Lib.tabData .i64 l)) (hl : l.length = 3) : ∀ j, j < 3 → W.cell? ⟨g, j, none⟩ = some (.int .i64 (l.getD j 0)) := by
  obtain ⟨g', t, cs, fuel, p, hg', ht', hv, hd⟩ := h
  obtain rfl := Option.some.inj (hg.symm.trans hg')
  obtain rfl := Option.some.inj (ht.symm.trans ht')
  have hc := Lib.cells_of_tab Tryd.underlying85 Tryd.underlying3 cIntX cRow3 hd
  intro j hj
  rw [World.var?_cell hg hv, ← Array.getElem?_toList, hc]
  simp [List.getD, hl, hj]

/-- A table of texts, cell by cell. -/
theorem cellsStr {W : World} {name : String} {g n : Nat} {t : TypeId} {L : List Lx.B} (hg : Tryd.prog.globalNamed name = some g) (ht : (Tryd.prog.globals[g]?).map (·.type) = some t) (hu : Tryd.prog.underlying t = some (.array n 9))
    (h : Lib.VarReads Tryd.prog W name (.agg (L.map fun b => .lit (.string b)))) (j : Nat) (b : Lx.B) (hj : j < n) (hb : L[j]? = some b) : W.cell? ⟨g, j, none⟩ = some (.string ⟨b.toArray⟩) := by
  obtain ⟨g', t', cs, fuel, p, hg', ht', hv, hd⟩ := h
  obtain rfl := Option.some.inj (hg.symm.trans hg')
  obtain rfl := Option.some.inj (ht.symm.trans ht')
  obtain ⟨fuel', d, q, hdd, hdr⟩ := Lib.array_elem hu hd j hj
  rw [List.getElem?_map, hb] at hdd
  obtain rfl := Option.some.inj hdd
  obtain ⟨s, hc, hx, _⟩ := DataW.trod_string Tryd.underlying9 hdr
  have hs : b = s.data.toList := by
    have := congrArg Prod.fst hx
    simpa using this
  have h1 : cs.toList[j]? = some (.string s) := by
    have := congrArg (·[0]?) hc
    simpa [List.getElem?_take, List.getElem?_drop, cStrX] using this
  rw [World.var?_cell hg hv, ← Array.getElem?_toList, h1, hs]

/-- The list that the row bears. -/
abbrev listed : List (String × DataW Unit) := Rows.calcSafeRow.laid
theorem keys_laid : (Rows.laid_commissary_lex_keys : DataW Unit) = .agg (Lx.keys.map fun b => .lit (.string b)) := by kernel_rfl
theorem signs_laid : (Rows.laid_commissary_lex_signs : DataW Unit) = .agg (Lx.signs.map fun b => .lit (.string b)) := by kernel_rfl
theorem tabs_of {W : World} (h : laidMetH Tryd.prog listed W) : Tabs W ∧ TabV W := by
  have hL : laidMet Tryd.prog listed W := h
  have rs : Lib.VarReads Tryd.prog W "commissary/lex.signs" Rows.laid_commissary_lex_signs := Lib.laidMet.reads hL (.head _)
  have rk : Lib.VarReads Tryd.prog W "commissary/lex.keys" Rows.laid_commissary_lex_keys := Lib.laidMet.reads hL (.tail _ (.head _))
  have ra : Lib.VarReads Tryd.prog W "commissary/value.ands" Rows.laid_commissary_value_ands := Lib.laidMet.reads hL (.tail _ (.tail _ (.head _)))
  have ro : Lib.VarReads Tryd.prog W "commissary/value.ors" Rows.laid_commissary_value_ors := Lib.laidMet.reads hL (.tail _ (.tail _ (.tail _ (.head _))))
  have rn : Lib.VarReads Tryd.prog W "commissary/value.nots" Rows.laid_commissary_value_nots := Lib.laidMet.reads hL (.tail _ (.tail _ (.tail _ (.tail _ (.head _)))))
  rw [signs_laid] at rs
  rw [keys_laid] at rk
  have ca := cells33 (l0 := [0, 0, 0]) (l1 := [0, 1, 2]) (l2 := [0, 2, 2]) gAnds tAnds ra rfl rfl rfl
  have co := cells33 (l0 := [0, 1, 2]) (l1 := [1, 1, 1]) (l2 := [2, 1, 2]) gOrs tOrs ro rfl rfl rfl
  have cn := cells3 (l := [1, 0, 2]) gNots tNots rn rfl
  refine ⟨⟨fun j b hb => cellsStr gKeys tKeys Tryd.underlying99 rk j b (by have := (List.getElem?_eq_some_iff.1 hb).1; rwa [keys_len] at this) hb,
    fun j b hb => cellsStr gSigns tSigns Tryd.underlying98 rs j b (List.getElem?_eq_some_iff.1 hb).1 hb, 0, rfl⟩,
    ⟨(ca 0 (by omega)).1, (ca 1 (by omega)).1, (ca 2 (by omega)).1, (ca 0 (by omega)).2.1, (ca 1 (by omega)).2.1, (ca 2 (by omega)).2.1, (ca 0 (by omega)).2.2, (ca 1 (by omega)).2.2, (ca 2 (by omega)).2.2,
    (co 0 (by omega)).1, (co 1 (by omega)).1, (co 2 (by omega)).1, (co 0 (by omega)).2.1, (co 1 (by omega)).2.1, (co 2 (by omega)).2.1, (co 0 (by omega)).2.2, (co 1 (by omega)).2.2, (co 2 (by omega)).2.2,
    cn 0 (by omega), cn 1 (by omega), cn 2 (by omega)⟩⟩

/-- A WORLD FOR THE WITNESS: the settled one, each listed table holding what its initialiser lays. -/
noncomputable def laidWorld (os : Os) : World :=
  let w0 := World.holding Tryd.prog os ⟨#[], #[], []⟩
  let put (h : Array Obj) (g : Nat) (cs : Array Value) : Array Obj := h.modify g fun
    | .cells _ t frozen => .cells cs t frozen
    | o => o
  let ofData (d : DataW Unit) : Array Value := match d with
    | .agg l => (l.flatMap fun
        | .lit (.int k n) => [Value.int k n]
        | .lit (.string b) => [Value.string ⟨b.toArray⟩]
        | .agg l' => l'.map fun
            | .lit (.int k n) => Value.int k n
            | _ => .bool false
        | _ => []).toArray
    | _ => #[]
  let h1 := put w0.heap 4 (ofData Rows.laid_commissary_lex_keys)
  let h2 := put h1 3 (ofData Rows.laid_commissary_lex_signs)
  let h3 := put h2 2 (ofData Rows.laid_commissary_value_ands)
  let h4 := put h3 1 (ofData Rows.laid_commissary_value_ors)
  let h5 := put h4 0 (ofData Rows.laid_commissary_value_nots)
  { w0 with heap := h5 }

set_option maxRecDepth 100000 in
theorem laid_met (os : Os) (args : Array Value) : laidMet Tryd.prog listed ((laidWorld os).forCall (fun _ _ => 0) ⟨#[], args, []⟩).memory :=
  laidMet_of_run' 8 (by kernel_rfl) (by kernel_rfl)
end
end Go.Proofs.YtpokpiphnggfpaaDoor
end
section
namespace Go.Proofs.YtpokpiphnggfpaaDoor.calcSafe
open Go.ChangeShapes Go.WideShapes Go.ChangeAt Go.RowKit Go.Joins
open Go.ChangeMaps (open_string shut_string)

set_option maxRecDepth 100000 in
theorem contract (H : Type) (enc : TypeId × Value → H) (W : World) (base : Nat) (args : Array Value) (ds gs : List (DataW H)) (before : List MemPlace)
    (hval : ∀ (j : Nat) t v, Tryd.f3.params[j]? = some t → args[j]? = some v → Value.okWide Tryd.prog W .any base t v)
    (hW : DataW.Whole enc Tryd.prog Tryd.f3.params.toList Rows.calcSafeSpec.vars false W args.toList ds gs before) (hL : laidMetH Tryd.prog listed W) :
    Calls Tryd.prog 3 args W fun e W' => ∃ v, e = .returned v ∧ Rows.calcSafeSpec.post enc Tryd.prog Tryd.f3 false true false false W args v W' := by
  have hW' := hW
  obtain ⟨p, q, hA0, hV, rfl, hfz, hnd⟩ := hW
  have hA : DataW.TrodAll enc Tryd.prog W 0 (fun _ => true) true Tryd.f3.params.toList args.toList ds p := hA0
  rw [Tryd.params3] at hA hval
  obtain ⟨v0, vs0, d0, ds0, p0, q0, hargs, rfl, rfl, h0, r0⟩ := trodAll_cons hA
  obtain ⟨v1, vs1, d1, ds1, p1, q1, rfl, rfl, rfl, h1, r1⟩ := trodAll_cons r0
  obtain ⟨rfl, rfl, rfl⟩ := trodAll_nil r1
  obtain rfl : args = #[v0, v1] := by cases args; simp_all
  obtain ⟨rfl, rfl⟩ := trodVars_none hV
  obtain ⟨h, l, A, cap, rfl, hl, hx⟩ := open_ex (hval 0 26 _ rfl rfl) h0
  obtain ⟨Ar, rc, r, rfl, hR, hfine, _, hrl, hrm⟩ := open_row (hval 1 27 _ rfl rfl) h1
  clear hA0
  obtain ⟨hT, hV2⟩ := tabs_of hL
  refine (calcSafe_walk h l A cap r Ar rc W hx hl hR hfine (by simp only [maxLen] at hrm; omega) hV2 hT (fun w1 hb => lives16_yes w1 (hV2.kept hb) (hT.kept hb))).mono fun e W' ⟨he, hb⟩ => ?_
  subst he
  exact ⟨_, rfl, law_post laidOut (by kernel_rfl) (tb := 4) (by kernel_rfl) Tryd.underlying4 rfl rfl hW' hb⟩

theorem reads (os : Os) {H : Type} (enc : TypeId × Value → H) : ∃ places, DataW.whole enc Tryd.prog ((laidWorld os).forCall (fun _ _ => 0) ⟨#[], #[(.agg #[.int .i64 0, .int .i64 0, .int .i64 0, .int .i64 0, .string ⟨#[]⟩, .string ⟨#[]⟩, .string ⟨#[]⟩, .slice none 0 0]), .slice none 0 0], []⟩).memory Tryd.f3.params.toList Rows.calcSafeSpec.vars false (#[(.agg #[.int .i64 0, .int .i64 0, .int .i64 0, .int .i64 0, .string ⟨#[]⟩, .string ⟨#[]⟩, .string ⟨#[]⟩, .slice none 0 0]), .slice none 0 0] : Array Value).toList 8 = some ([.agg [.lit (.int .i64 0), .lit (.int .i64 0), .agg [.lit (.int .i64 0), .lit (.int .i64 0), .lit (.string [])], .lit (.string []), .lit (.string []), .nil], .nil], [], places) :=
  ⟨[], by kernel_rfl⟩

set_option maxRecDepth 100000 in
theorem lifted (os : Os) (started : os.Started) (H : Type) (enc : TypeId × Value → H) (F : Stop.Interp) :
    ReturnsInHanded {} Tryd.checked os 3 .any ((OpenSpec.ofChange Rows.calcSafeSpec).preRow enc Tryd.prog Tryd.f3 Rows.calcSafeRow.domain false Rows.calcSafeRow.laid) (((OpenSpec.ofChange Rows.calcSafeSpec).at F).post enc Tryd.prog Tryd.f3 false true false false) := by
  obtain ⟨places, hx⟩ := reads os enc
  refine returnsInHanded_of_row (C := Tryd.checked) (s := OpenSpec.ofChange Rows.calcSafeSpec) own started (by kernel_rfl) Tryd.func3
    (witness_row_at (enc := enc) (C := Tryd.checked) false (laidWorld os) #[(.agg #[.int .i64 0, .int .i64 0, .int .i64 0, .int .i64 0, .string ⟨#[]⟩, .string ⟨#[]⟩, .string ⟨#[]⟩, .slice none 0 0]), .slice none 0 0] rfl (by kernel_rfl) (by kernel_rfl) (by kernel_rfl)
      (OpenSpec.preRow_of_cond 8 hx (by kernel_rfl) (fun k hk => by cases hk) (by kernel_rfl) (laid_met os _))) ?_
  intro W base args ds gs before hval hW _ _ _ hL _ _
  exact contract H enc W base args ds gs before hval hW hL

theorem said : Rows.CalcSafeSaid :=
  OpenClaim.holds_of_cond 3 Tryd.f3 rfl rfl rfl rfl rfl rfl rfl ⟨rfl, rfl, rfl, rfl, rfl⟩ rfl rfl rfl rfl rfl (by kernel_rfl) Tryd.func3 (by kernel_rfl)
    (of_decide_eq_true (by kernel_rfl)) (by unfold Func.isWrapper; first | (rw [if_pos (by decide +kernel)]; kernel_rfl) | (rw [if_neg (by decide +kernel)]; exact ⟨rfl, rfl⟩))
    (fun os started H enc _ F => by rw [OpenClaim.pre_eq_preRow]; exact lifted os started H enc F)

theorem plain (f : FuncId) (fn : Func) (hf : Tryd.pinned.checked.prog.funcNamed "commissary/commissarylaw16.CalcSafe" = some f) (hfn : Tryd.pinned.checked.prog.funcs[f]? = some fn) :
    false = Tryd.pinned.checked.prog.looks [] ∧ ∀ (j : Nat) t, fn.params[j]? = some t → Tryd.pinned.checked.prog.wantsStandIn t = false := by
  obtain rfl : f = 3 := Option.some.inj ((show Tryd.prog.funcNamed "commissary/commissarylaw16.CalcSafe" = some 3 by kernel_rfl).symm.trans hf) |>.symm
  obtain rfl : fn = Tryd.f3 := (Option.some.inj (Tryd.func3.symm.trans hfn)).symm
  refine ⟨by kernel_rfl, fun j t ht => ?_⟩
  rw [Tryd.params3] at ht
  have hm : t ∈ [26, 27] := by simpa using Array.mem_of_getElem? ht
  have hall : ([26, 27].all fun u => !Tryd.prog.wantsStandIn u) = true := by kernel_rfl
  exact (show Tryd.prog.wantsStandIn t = false by simpa using List.all_eq_true.1 hall t hm)

theorem card : Rows.CalcSafeCardSaid :=
  Claim7.holds_tied_plain_at .later [] _ _ _ _ said (fun _ h => by cases h) (by kernel_rfl) (fun _ h => by cases h) calcSafe_row_tie rfl ⟨rfl, rfl⟩ (by kernel_rfl) rfl plain (by kernel_rfl)
#print axioms card
end Go.Proofs.YtpokpiphnggfpaaDoor.calcSafe
end
