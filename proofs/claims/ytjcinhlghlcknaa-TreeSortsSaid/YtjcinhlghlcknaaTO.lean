/-
  Package tree: calls, and lists of lists of pairs, that come in, opened.
-/
import Derived.Test.YtjcinhlghlcknaaTrc
import Derived.Test.YtjcinhlghlcknaaLaw
import Derived.Deep.Grids
import Derived.Deep.SlicePairs
import Derived.Deep.Strs
import Derived.ChangeSlices
import Derived.Lib.SmallJoins
import Derived.SizedLaws
namespace Go.Proofs.Ytjcinhlghlcknaa
open Go.ChangeShapes Go.WideShapes Go.ChangeAt Go.RowKit Go.Joins Go.Deep

/-- A call: its kind, its leaf, its pair. -/
structure O8 where
  k : Int
  l : Int
  p : Int
  q : Int
instance : Inhabited O8 := ⟨⟨0, 0, 0, 0⟩⟩
def O8At (w : World) (A : Option Addr) (r : List O8) : Prop :=
  r = [] ∨ ∃ b off : Nat, A = some ⟨b, off, none⟩ ∧ b < w.heap.size ∧ ∀ (i : Nat) (v : O8), r[i]? = some v →
    w.cell? ⟨b, off + i * 4, none⟩ = some (.int .i64 v.k) ∧ w.cell? ⟨b, off + i * 4 + 1, none⟩ = some (.int .i64 v.l) ∧ w.cell? ⟨b, off + i * 4 + 2, none⟩ = some (.int .i64 v.p) ∧ w.cell? ⟨b, off + i * 4 + 3, none⟩ = some (.int .i64 v.q)
theorem O8At.kept {w w' : World} {A : Option Addr} {r : List O8} (h : O8At w A r) (hb : Below w.heap.size w w') : O8At w' A r := by
  rcases h with h | ⟨b, off, hA, hlt, hc⟩
  · exact .inl h
  · refine .inr ⟨b, off, hA, Nat.lt_of_lt_of_le hlt hb.size, fun i v hv => ?_⟩
    obtain ⟨c0, c1, c2, c3⟩ := hc i v hv
    exact ⟨(hb.cell (p := ⟨b, _, none⟩) hlt).trans c0, (hb.cell (p := ⟨b, _, none⟩) hlt).trans c1, (hb.cell (p := ⟨b, _, none⟩) hlt).trans c2, (hb.cell (p := ⟨b, _, none⟩) hlt).trans c3⟩
theorem O8At.at {w : World} {A : Option Addr} {r : List O8} (h : O8At w A r) {i : Nat} (hi : i < r.length) :
    ∃ b off : Nat, A = some ⟨b, off, none⟩ ∧ b < w.heap.size ∧ w.cell? ⟨b, off + i * 4, none⟩ = some (.int .i64 r[i].k) ∧ w.cell? ⟨b, off + i * 4 + 1, none⟩ = some (.int .i64 r[i].l) ∧ w.cell? ⟨b, off + i * 4 + 2, none⟩ = some (.int .i64 r[i].p) ∧ w.cell? ⟨b, off + i * 4 + 3, none⟩ = some (.int .i64 r[i].q) := by
  rcases h with h | ⟨b, off, hA, hlt, hc⟩
  · subst h; simp at hi
  · exact ⟨b, off, hA, hlt, hc i r[i] (List.getElem?_eq_getElem hi)⟩
theorem spotT {W : World} {a : Addr} {v : Value} (h : W.cell? (a.add 0) = some v) : a = ⟨a.block, a.off, none⟩ := by
  obtain ⟨b, o, s⟩ := a
  have : s = none := by simpa [Addr.add] using World.cell?_spot h
  subst this; rfl
theorem plainT (b o i : Nat) : (⟨b, o, none⟩ : Addr).add i = ⟨b, o + i, none⟩ := by unfold Addr.add; split <;> simp_all
section
variable {H : Type} {enc : TypeId × Value → H}
theorem cOp8 : Try.prog.cellsOf 33 = 4 := by kernel_rfl
theorem cIntT : Try.prog.cellsOf 3 = 1 := by kernel_rfl
theorem cPairT : Try.prog.cellsOf 28 = 2 := by kernel_rfl
theorem bPairT : Try.prog.bytesOf 28 = 16 := by kernel_rfl
theorem all_sub {P : Program} {e : TypeId} {ds : List (DataW H)} (h : (DataW.weightsAll P e ds).all (fun y => decide (y ≤ reachBytes)) = true) : ∀ d ∈ ds, (DataW.weights P e d).all (fun y => decide (y ≤ reachBytes)) = true := by
  induction ds with
  | nil => intro d hd; cases hd
  | cons x xs ih =>
    simp only [DataW.weightsAll, List.all_append, Bool.and_eq_true] at h
    intro d hd
    rcases List.mem_cons.1 hd with rfl | hd
    · exact h.1
    · exact ih h.2 d hd
theorem cSlT : Try.prog.cellsOf 42 = 1 := by kernel_rfl
set_option maxRecDepth 100000 in
theorem pair_cells {W : World} {fuel : Nat} {v0 v1 : Value} {x : DataW H × List MemPlace} (h : DataW.trod enc Try.prog W 0 (fun _ => true) true fuel 28 [v0, v1] = some x) :
    ∃ p q : Int, v0 = .int .i64 p ∧ v1 = .int .i64 q ∧ (Lit.int .i64 p).wf = true ∧ (Lit.int .i64 q).wf = true := by
  obtain ⟨y0, y1, n', _, _, g0, g1⟩ := trod_struct2 Try.underlying28 h
  simp [cIntT] at g0 g1
  obtain ⟨k, q0, _, w0⟩ := DataW.trod_int Try.underlying3 g0
  obtain ⟨n, q1, _, w1⟩ := DataW.trod_int Try.underlying3 g1
  simp at q0 q1
  exact ⟨k, n, q0, q1, w0, w1⟩
set_option maxRecDepth 100000 in
theorem op_cells {W : World} {fuel : Nat} {v0 v1 v2 v3 : Value} {x : DataW H × List MemPlace} (h : DataW.trod enc Try.prog W 0 (fun _ => true) true fuel 33 [v0, v1, v2, v3] = some x) :
    ∃ o : O8, v0 = .int .i64 o.k ∧ v1 = .int .i64 o.l ∧ v2 = .int .i64 o.p ∧ v3 = .int .i64 o.q := by
  obtain ⟨y0, y1, y2, n', _, _, g0, g1, g2⟩ := trod_struct3 Try.underlying33 h
  simp [cIntT] at g0 g1
  simp [cPairT] at g2
  obtain ⟨k, q0, _, w0⟩ := DataW.trod_int Try.underlying3 g0
  obtain ⟨n, q1, _, w1⟩ := DataW.trod_int Try.underlying3 g1
  simp at q0 q1
  obtain ⟨p, q, q2, q3, _, _⟩ := pair_cells g2
  exact ⟨⟨k, n, p, q⟩, q0, q1, q2, q3⟩
theorem open_op8 {W : World} {base : Nat} {v : Value} {d : DataW H} {p : List MemPlace} (hval : Value.okWide Try.prog W .any base 33 v) (h : DataW.Trod enc Try.prog W 0 (fun _ => true) true 33 v d p) :
    ∃ o : O8, v = .agg #[.int .i64 o.k, .int .i64 o.l, .int .i64 o.p, .int .i64 o.q] := by
  obtain ⟨cs, rfl, hsz⟩ := okWide_struct Try.underlying33 hval
  obtain ⟨c0, c1, c2, c3, rfl⟩ := array4 (hsz.trans cOp8)
  obtain ⟨fuel, hf⟩ := h
  obtain ⟨o, rfl, rfl, rfl, rfl⟩ := op_cells (by simpa [Value.cells] using hf)
  exact ⟨o, rfl⟩
set_option maxRecDepth 100000 in
theorem open_ops8 {W : World} {base : Nat} {v : Value} {d : DataW H} {p : List MemPlace} (hval : Value.okWide Try.prog W .any base 22 v) (h : DataW.Trod enc Try.prog W 0 (fun _ => true) true 22 v d p) :
    ∃ A c r, v = .slice A r.length c ∧ O8At W A r ∧ r.length ≤ c ∧ c ≤ maxLen := by
  obtain ⟨a, len, cap, rfl⟩ := okWide_slice Try.underlying22 hval
  obtain ⟨fuel, hf⟩ := h
  rcases open_slice Try.underlying22 hf with ⟨hcs, _⟩ | ⟨a', len', cap', m, n, D, Pl, hcs, _, hl, hm, hmm, _, hx⟩
  · simp [Value.cells] at hcs
    obtain ⟨rfl, rfl, rfl⟩ := hcs
    exact ⟨none, 0, [], rfl, .inl rfl, Nat.le_refl _, Nat.zero_le _⟩
  · simp [Value.cells] at hcs
    obtain ⟨rfl, rfl, rfl⟩ := hcs
    simp only [if_true] at hmm
    subst hmm
    have each : ∀ i, i < len → ∃ v : O8, W.cell? (a'.add (i * 4)) = some (.int .i64 v.k) ∧ W.cell? (a'.add (i * 4 + 1)) = some (.int .i64 v.l) ∧ W.cell? (a'.add (i * 4 + 2)) = some (.int .i64 v.p) ∧ W.cell? (a'.add (i * 4 + 3)) = some (.int .i64 v.q) := by
      intro i hi
      obtain ⟨cs', h1, h2⟩ := hx i (by omega)
      rw [cOp8] at h1
      obtain ⟨_, hlen, hcell⟩ := World.cells?_some h1
      match cs', hlen, hcell, h2 with
      | [v0, v1, v2, v3], _, hcell, h2 =>
        have e0 := hcell 0 (by omega)
        have e1 := hcell 1 (by omega)
        have e2 := hcell 2 (by omega)
        have e3 := hcell 3 (by omega)
        rw [add_add] at e0 e1 e2 e3
        obtain ⟨o, rfl, rfl, rfl, rfl⟩ := op_cells h2
        exact ⟨o, by simpa using e0, by simpa using e1, by simpa using e2, by simpa using e3⟩
    obtain ⟨f, hf⟩ := choose_lt each
    refine ⟨some a', m, (List.range len).map f, by simp, ?_, by simpa using hl, hm⟩
    rcases Nat.eq_zero_or_pos len with h0 | h0
    · subst h0; exact .inl rfl
    · have ha := spotT (by simpa using (hf 0 h0).1)
      generalize a'.block = b at ha
      generalize a'.off = o at ha
      subst ha
      refine .inr ⟨b, o, rfl, ?_, fun i v hv => ?_⟩
      · have := World.block_lt_of_cell? W _ (hf 0 h0).1
        rw [plainT] at this
        exact this
      · rw [List.getElem?_map] at hv
        obtain ⟨j, hj, rfl⟩ := Option.map_eq_some_iff.1 hv
        obtain ⟨hjl, hje⟩ := List.getElem?_eq_some_iff.1 hj
        simp at hje hjl
        subst hje
        obtain ⟨q0, q1, q2, q3⟩ := hf i hjl
        simp only [plainT] at q0 q1 q2 q3
        exact ⟨q0, by rw [Nat.add_assoc]; exact q1, by rw [Nat.add_assoc]; exact q2, by rw [Nat.add_assoc]; exact q3⟩
set_option maxRecDepth 100000 in
theorem open_pairs_cells {W : World} {fuel : Nat} {cs : List Value} {x : DataW H × List MemPlace} (h : DataW.trod enc Try.prog W 0 (fun _ => true) true fuel 42 cs = some x) :
    ∃ v r, cs = [v] ∧ PV W.heap.size W v r ∧ ((DataW.weights Try.prog 42 x.1).all (fun y => decide (y ≤ reachBytes)) = true → r.length * 16 ≤ reachBytes) := by
  rcases open_slice Try.underlying42 h with ⟨rfl, _⟩ | ⟨a, len, cap, m, n, D, Pl, rfl, _, hl, hm, hmm, hxe, hx⟩
  · exact ⟨_, [], rfl, ⟨none, 0, rfl, Nat.le_refl _, by omega, .inl rfl⟩, fun _ => by simp⟩
  · simp only [if_true] at hmm
    subst hmm
    have each : ∀ i, i < len → ∃ v : Pr, W.cell? (a.add (i * 2)) = some (.int .i64 v.k) ∧ W.cell? (a.add (i * 2 + 1)) = some (.int .i64 v.t) := by
      intro i hi
      obtain ⟨cs', h1, h2⟩ := hx i (by omega)
      rw [cPairT] at h1
      obtain ⟨_, hlen, hcell⟩ := World.cells?_some h1
      match cs', hlen, hcell, h2 with
      | [v0, v1], _, hcell, h2 =>
        have e0 := hcell 0 (by omega)
        have e1 := hcell 1 (by omega)
        rw [add_add] at e0 e1
        obtain ⟨p, q, rfl, rfl, _, _⟩ := pair_cells h2
        exact ⟨⟨p, q⟩, by simpa using e0, by simpa using e1⟩
    obtain ⟨f, hf⟩ := choose_lt each
    refine ⟨_, (List.range len).map f, rfl, ⟨some a, m, by simp, by simpa using hl, by simp only [maxLen] at hm; omega, ?_⟩, fun hw => ?_⟩
    rotate_left 1
    · rw [hxe] at hw
      simp only [DataW.weights, Try.underlying42, List.all_cons, Bool.and_eq_true, decide_eq_true_eq] at hw
      have h1 := hw.1
      rw [bPairT] at h1
      simp only [List.length_map, List.length_range] at h1 ⊢
      omega
    rcases Nat.eq_zero_or_pos len with h0 | h0
    · subst h0; exact .inl rfl
    · have ha := spotT (by simpa using (hf 0 h0).1)
      generalize a.block = b at ha
      generalize a.off = o at ha
      subst ha
      refine .inr ⟨b, o, rfl, ?_, Nat.le_refl _, fun i v hv => ?_⟩
      · have := World.block_lt_of_cell? W _ (hf 0 h0).1
        rw [plainT] at this
        exact this
      · rw [List.getElem?_map] at hv
        obtain ⟨j, hj, rfl⟩ := Option.map_eq_some_iff.1 hv
        obtain ⟨hjl, hje⟩ := List.getElem?_eq_some_iff.1 hj
        simp at hje hjl
        subst hje
        obtain ⟨q0, q1⟩ := hf i hjl
        simp only [plainT] at q0 q1
        exact ⟨q0, by rw [Nat.add_assoc]; exact q1⟩
set_option maxRecDepth 100000 in
theorem open_lls {W : World} {base : Nat} {v : Value} {d : DataW H} {p : List MemPlace} (hval : Value.okWide Try.prog W .any base 40 v) (h : DataW.Trod enc Try.prog W 0 (fun _ => true) true 40 v d p) :
    ∃ A c ls, v = .slice A ls.length c ∧ LsAt W.heap.size W A ls ∧ ((DataW.weightsEach Try.prog [40] [d]).all (fun y => decide (y ≤ reachBytes)) = true → ∀ r ∈ ls, r.length * 16 ≤ reachBytes) ∧ ls.length ≤ c ∧ c ≤ maxLen := by
  obtain ⟨a, len, cap, rfl⟩ := okWide_slice Try.underlying40 hval
  obtain ⟨fuel, hf⟩ := h
  rcases open_slice Try.underlying40 hf with ⟨hcs, _⟩ | ⟨a', len', cap', m, n, D, Pl, hcs, _, hl, hm, hmm, hxe, hx⟩
  · simp [Value.cells] at hcs
    obtain ⟨rfl, rfl, rfl⟩ := hcs
    exact ⟨none, 0, [], rfl, .inl rfl, (fun _ r hr => by cases hr), Nat.le_refl _, Nat.zero_le _⟩
  · simp [Value.cells] at hcs
    obtain ⟨rfl, rfl, rfl⟩ := hcs
    simp only [if_true] at hmm
    subst hmm
    have each : ∀ i, i < len → ∃ vr : Value × List Pr, W.cell? (a'.add i) = some vr.1 ∧ PV W.heap.size W vr.1 vr.2 ∧ ((DataW.weights Try.prog 42 (D i)).all (fun y => decide (y ≤ reachBytes)) = true → vr.2.length * 16 ≤ reachBytes) := by
      intro i hi
      obtain ⟨cs', h1, h2⟩ := hx i (by omega)
      rw [cSlT] at h1
      obtain ⟨_, hlen, hcell⟩ := World.cells?_some h1
      obtain ⟨v, r, hcs', hpv, hwt⟩ := open_pairs_cells h2
      subst hcs'
      have e0 := hcell 0 (by omega)
      rw [add_add] at e0
      exact ⟨(v, r), by simpa using e0, hpv, hwt⟩
    obtain ⟨f, hf⟩ := choose_lt each
    refine ⟨some a', m, (List.range len).map (fun i => (f i).2), by simp, ?_, fun hw r hr => ?_, by simpa using hl, hm⟩
    rotate_left 1
    · simp only [Prod.mk.injEq] at hxe
      rw [hxe.1] at hw
      simp only [DataW.weightsEach, DataW.weights, Try.underlying40, List.all_cons, List.all_append, Bool.and_eq_true, List.append_nil] at hw
      have h1 := all_sub hw.2.1
      simp only [List.mem_map, List.mem_range] at hr
      obtain ⟨i, hi, rfl⟩ := hr
      exact (hf i hi).2.2 (h1 (D i) (List.mem_map_of_mem (List.mem_range.2 hi)))
    rcases Nat.eq_zero_or_pos len with h0 | h0
    · subst h0; exact .inl rfl
    · have ha := spotT (by simpa using (hf 0 h0).1)
      generalize a'.block = b at ha
      generalize a'.off = o at ha
      subst ha
      refine .inr ⟨b, o, (List.range len).map (fun i => (f i).1), rfl, ?_, Nat.le_refl _, ⟨by simp, fun i v r hv hr => ?_⟩, fun i v hv => ?_⟩
      · have := World.block_lt_of_cell? W _ (hf 0 h0).1
        rw [plainT] at this
        exact this
      · rw [List.getElem?_map] at hv hr
        obtain ⟨j, hj, rfl⟩ := Option.map_eq_some_iff.1 hv
        rw [hj] at hr
        cases hr
        obtain ⟨hjl, hje⟩ := List.getElem?_eq_some_iff.1 hj
        simp at hje hjl
        subst hje
        exact (hf i hjl).2.1
      · rw [List.getElem?_map] at hv
        obtain ⟨j, hj, rfl⟩ := Option.map_eq_some_iff.1 hv
        obtain ⟨hjl, hje⟩ := List.getElem?_eq_some_iff.1 hj
        simp at hje hjl
        subst hje
        have := (hf i hjl).1
        rwa [plainT] at this
end
end Go.Proofs.Ytjcinhlghlcknaa
