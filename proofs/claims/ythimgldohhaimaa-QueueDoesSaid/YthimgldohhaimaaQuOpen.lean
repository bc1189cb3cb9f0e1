/-
  Package queue: lists of numbers, of texts, of calls, that come in, opened.
-/
import Derived.Test.YthimgldohhaimaaQu8
import Derived.Test.YthimgldohhaimaaLaw
import Derived.Deep.Grids
import Derived.Deep.SlicePairs
import Derived.Deep.Strs
import Derived.ChangeSlices
import Derived.Lib.SmallJoins
namespace Go.Proofs.Ythimgldohhaimaa
open Go.ChangeShapes Go.WideShapes Go.ChangeAt Go.RowKit Go.Joins Go.Deep
/-- A slice's address, at which these texts lie. -/
def StrsQ (w : World) (A : Option Addr) (l : List ByteArray) : Prop :=
  l = [] ∨ ∃ b off : Nat, A = some ⟨b, off, none⟩ ∧ b < w.heap.size ∧ ∀ (i : Nat) (v : ByteArray), l[i]? = some v → w.cell? ⟨b, off + i, none⟩ = some (.string v)
theorem StrsQ.kept {w w' : World} {A : Option Addr} {xs : List ByteArray} (h : StrsQ w A xs) (hb : Below w.heap.size w w') : StrsQ w' A xs := by
  rcases h with h | ⟨b, off, hA, hlt, hc⟩
  · exact .inl h
  · exact .inr ⟨b, off, hA, Nat.lt_of_lt_of_le hlt hb.size, fun i v hv => (hb.cell (p := ⟨b, _, none⟩) hlt).trans (hc i v hv)⟩
theorem StrsQ.at {w : World} {A : Option Addr} {xs : List ByteArray} (h : StrsQ w A xs) {i : Nat} (hi : i < xs.length) :
    ∃ b off : Nat, A = some ⟨b, off, none⟩ ∧ b < w.heap.size ∧ w.cell? ⟨b, off + i, none⟩ = some (.string xs[i]) := by
  rcases h with h | ⟨b, off, hA, hlt, hc⟩
  · subst h; simp at hi
  · exact ⟨b, off, hA, hlt, hc i _ (List.getElem?_eq_getElem hi)⟩
theorem cStrQ : Try.prog.cellsOf 9 = 1 := by kernel_rfl
section
variable {H : Type} {enc : TypeId × Value → H}
theorem cIntQ : Try.prog.cellsOf 3 = 1 := by kernel_rfl
theorem spotQ {W : World} {a : Addr} {v : Value} (h : W.cell? (a.add 0) = some v) : a = ⟨a.block, a.off, none⟩ := by
  obtain ⟨b, o, s⟩ := a
  have : s = none := by simpa [Addr.add] using World.cell?_spot h
  subst this; rfl
theorem plainQ (b o i : Nat) : (⟨b, o, none⟩ : Addr).add i = ⟨b, o + i, none⟩ := by unfold Addr.add; split <;> simp_all
theorem intsQ_of {W : World} {a : Addr} {l : List Int} (h : ∀ i v, l[i]? = some v → W.cell? (a.add i) = some (.int .i64 v)) : IntsQ W (some a) l := by
  cases l with
  | nil => exact .inl rfl
  | cons u l =>
    have h0 := h 0 u rfl
    have ha := spotQ h0
    generalize a.block = b at ha
    generalize a.off = o at ha
    subst ha
    refine .inr ⟨b, o, rfl, ?_, fun i v hv => ?_⟩
    · have := World.block_lt_of_cell? W _ h0
      rw [plainQ] at this
      exact this
    · have := h i v hv
      rwa [plainQ] at this
set_option maxRecDepth 100000 in
theorem open_intsQ {W : World} {base : Nat} {v : Value} {d : DataW H} {p : List MemPlace} (hval : Value.okWide Try.prog W .any base 35 v) (h : DataW.Trod enc Try.prog W 0 (fun _ => true) true 35 v d p) :
    ∃ A c l, v = .slice A l.length c ∧ IntsQ W A l ∧ (∀ n ∈ l, (Lit.int .i64 n).wf = true) ∧ l.length ≤ c ∧ c ≤ maxLen := by
  obtain ⟨a, len, cap, rfl⟩ := okWide_slice Try.underlying35 hval
  obtain ⟨fuel, hf⟩ := h
  rcases open_ints Try.underlying35 Try.underlying3 cIntQ hf with ⟨hcs, _⟩ | ⟨a', len', cap', zs, hcs, _, hl, hm, hz, _, hcell, hwf⟩
  · simp [Value.cells] at hcs
    obtain ⟨rfl, rfl, rfl⟩ := hcs
    exact ⟨none, 0, [], rfl, .inl rfl, (fun n hn => by cases hn), Nat.le_refl _, Nat.zero_le _⟩
  · simp [Value.cells] at hcs
    obtain ⟨rfl, rfl, rfl⟩ := hcs
    simp only [if_true] at hz
    refine ⟨some a', cap, zs.take len, by simp; omega, intsQ_of (fun i u hu => ?_), fun y hy => hwf y (List.mem_of_mem_take hy), by simp; omega, hm⟩
    have hil := (List.getElem?_eq_some_iff.1 hu).1
    rw [List.length_take] at hil
    rw [List.getElem?_take_of_lt (by omega)] at hu
    rw [hcell i (by omega)]
    simp [List.getD, hu]
theorem strsQ_of {W : World} {a : Addr} {l : List ByteArray} (h : ∀ i v, l[i]? = some v → W.cell? (a.add i) = some (.string v)) : StrsQ W (some a) l := by
  cases l with
  | nil => exact .inl rfl
  | cons u l =>
    have h0 := h 0 u rfl
    have ha := spotQ h0
    generalize a.block = b at ha
    generalize a.off = o at ha
    subst ha
    refine .inr ⟨b, o, rfl, ?_, fun i v hv => ?_⟩
    · have := World.block_lt_of_cell? W _ h0
      rw [plainQ] at this
      exact this
    · have := h i v hv
      rwa [plainQ] at this
set_option maxRecDepth 100000 in
theorem open_strsQ {W : World} {base : Nat} {v : Value} {d : DataW H} {p : List MemPlace} (hval : Value.okWide Try.prog W .any base 43 v) (h : DataW.Trod enc Try.prog W 0 (fun _ => true) true 43 v d p) :
    ∃ A c l, v = .slice A l.length c ∧ StrsQ W A l ∧ (∀ s ∈ l, s.size ≤ maxLen) ∧ l.length ≤ c ∧ c ≤ maxLen := by
  obtain ⟨a, len, cap, rfl⟩ := okWide_slice Try.underlying43 hval
  obtain ⟨fuel, hf⟩ := h
  rcases open_strs Try.underlying43 Try.underlying9 cStrQ hf with ⟨hcs, _⟩ | ⟨a', len', cap', m, Sx, hcs, _, hl, hm, hmm, _, hcell⟩
  · simp [Value.cells] at hcs
    obtain ⟨rfl, rfl, rfl⟩ := hcs
    exact ⟨none, 0, [], rfl, .inl rfl, (fun n hn => by cases hn), Nat.le_refl _, Nat.zero_le _⟩
  · simp [Value.cells] at hcs
    obtain ⟨rfl, rfl, rfl⟩ := hcs
    simp only [if_true] at hmm
    subst hmm
    refine ⟨some a', m, (List.range len).map Sx, by simp, strsQ_of (fun i u hu => ?_), fun y hy => ?_, by simpa using hl, hm⟩
    · rw [List.getElem?_map] at hu
      obtain ⟨j, hj, rfl⟩ := Option.map_eq_some_iff.1 hu
      obtain ⟨hjl, hje⟩ := List.getElem?_eq_some_iff.1 hj
      simp at hje hjl
      subst hje
      exact (hcell i (by omega)).1
    · simp only [List.mem_map, List.mem_range] at hy
      obtain ⟨i, hi, rfl⟩ := hy
      exact (hcell i (by omega)).2
end
/-- A call: its kind, its number. -/
structure O2 where
  k : Int
  n : Int
instance : Inhabited O2 := ⟨⟨0, 0⟩⟩
def O2At (w : World) (A : Option Addr) (r : List O2) : Prop :=
  r = [] ∨ ∃ b off : Nat, A = some ⟨b, off, none⟩ ∧ b < w.heap.size ∧ ∀ (i : Nat) (v : O2), r[i]? = some v →
    w.cell? ⟨b, off + i * 2, none⟩ = some (.int .i64 v.k) ∧ w.cell? ⟨b, off + i * 2 + 1, none⟩ = some (.int .i64 v.n)
theorem O2At.kept {w w' : World} {A : Option Addr} {r : List O2} (h : O2At w A r) (hb : Below w.heap.size w w') : O2At w' A r := by
  rcases h with h | ⟨b, off, hA, hlt, hc⟩
  · exact .inl h
  · refine .inr ⟨b, off, hA, Nat.lt_of_lt_of_le hlt hb.size, fun i v hv => ?_⟩
    obtain ⟨c0, c1⟩ := hc i v hv
    exact ⟨(hb.cell (p := ⟨b, _, none⟩) hlt).trans c0, (hb.cell (p := ⟨b, _, none⟩) hlt).trans c1⟩
theorem O2At.at {w : World} {A : Option Addr} {r : List O2} (h : O2At w A r) {i : Nat} (hi : i < r.length) :
    ∃ b off : Nat, A = some ⟨b, off, none⟩ ∧ b < w.heap.size ∧ w.cell? ⟨b, off + i * 2, none⟩ = some (.int .i64 r[i].k) ∧ w.cell? ⟨b, off + i * 2 + 1, none⟩ = some (.int .i64 r[i].n) := by
  rcases h with h | ⟨b, off, hA, hlt, hc⟩
  · subst h; simp at hi
  · obtain ⟨c0, c1⟩ := hc i r[i] (List.getElem?_eq_getElem hi)
    exact ⟨b, off, hA, hlt, c0, c1⟩
/-- All parts are ints. -/
def Wide (r : List O2) : Prop := ∀ v ∈ r, (Lit.int .i64 v.k).wf = true ∧ (Lit.int .i64 v.n).wf = true

section
variable {H : Type} {enc : TypeId × Value → H}
theorem cOp7 : Try.prog.cellsOf 31 = 2 := by kernel_rfl
theorem cIntO7 : Try.prog.cellsOf 3 = 1 := by kernel_rfl

set_option maxRecDepth 100000 in
theorem open_o2_cells {W : World} {fuel : Nat} {cs : List Value} {x : DataW H × List MemPlace} (h : DataW.trod enc Try.prog W 0 (fun _ => true) true fuel 22 cs = some x) :
    ∃ A c r, cs = [.slice A r.length c] ∧ O2At W A r ∧ Wide r ∧ r.length ≤ c ∧ c ≤ maxLen := by
  rcases open_slice Try.underlying22 h with ⟨rfl, _⟩ | ⟨a, len, cap, m, n, D, Pl, rfl, _, hl, hm, hmm, _, hx⟩
  · exact ⟨none, 0, [], rfl, .inl rfl, (fun v hv => by cases hv), Nat.le_refl _, Nat.zero_le _⟩
  · simp only [if_true] at hmm
    subst hmm
    have each : ∀ i, i < len → ∃ v : O2, W.cell? (a.add (i * 2)) = some (.int .i64 v.k) ∧ W.cell? (a.add (i * 2 + 1)) = some (.int .i64 v.n) ∧ (Lit.int .i64 v.k).wf = true ∧ (Lit.int .i64 v.n).wf = true := by
      intro i hi
      obtain ⟨cs', h1, h2⟩ := hx i (by omega)
      rw [cOp7] at h1
      obtain ⟨_, hlen, hcell⟩ := World.cells?_some h1
      obtain ⟨y0, y1, n', _, _, g0, g1⟩ := trod_struct2 Try.underlying31 h2
      match cs', hlen with
      | [v0, v1], _ =>
        have e0 := hcell 0 (by omega)
        have e1 := hcell 1 (by omega)
        rw [add_add] at e0 e1
        simp [cIntO7] at g0 g1
        obtain ⟨k, q0, _, w0⟩ := DataW.trod_int Try.underlying3 g0
        obtain ⟨n, q1, _, w1⟩ := DataW.trod_int Try.underlying3 g1
        simp at q0 q1
        subst q0 q1
        exact ⟨⟨k, n⟩, by simpa using e0, by simpa using e1, w0, w1⟩
    obtain ⟨f, hf⟩ := choose_lt each
    refine ⟨some a, m, (List.range len).map f, by simp, ?_, ?_, by simpa using hl, hm⟩
    · rcases Nat.eq_zero_or_pos len with h0 | h0
      · subst h0; exact .inl rfl
      · have ha := spotQ (by simpa using (hf 0 h0).1)
        generalize a.block = b at ha
        generalize a.off = o at ha
        subst ha
        refine .inr ⟨b, o, rfl, ?_, fun i v hv => ?_⟩
        · have := World.block_lt_of_cell? W _ (hf 0 h0).1
          rw [plainQ] at this
          exact this
        · rw [List.getElem?_map] at hv
          obtain ⟨j, hj, rfl⟩ := Option.map_eq_some_iff.1 hv
          have hj' := List.getElem?_eq_some_iff.1 hj
          obtain ⟨hjl, hje⟩ := hj'
          simp at hje hjl
          subst hje
          obtain ⟨q0, q1, _⟩ := hf i hjl
          simp only [plainQ] at q0 q1
          exact ⟨q0, by rw [Nat.add_assoc]; exact q1⟩
    · intro v hv
      simp only [List.mem_map, List.mem_range] at hv
      obtain ⟨i, hi, rfl⟩ := hv
      exact (hf i hi).2.2

set_option maxRecDepth 100000 in
theorem open_o2 {W : World} {base : Nat} {v : Value} {d : DataW H} {p : List MemPlace} (hval : Value.okWide Try.prog W .any base 22 v) (h : DataW.Trod enc Try.prog W 0 (fun _ => true) true 22 v d p) :
    ∃ A c r, v = .slice A r.length c ∧ O2At W A r ∧ Wide r ∧ r.length ≤ c ∧ c ≤ maxLen := by
  obtain ⟨a, len, cap, rfl⟩ := okWide_slice Try.underlying22 hval
  obtain ⟨fuel, hf⟩ := h
  obtain ⟨A, c, r, e, rest⟩ := open_o2_cells hf
  refine ⟨A, c, r, ?_, rest⟩
  simpa [Value.cells] using e
end
end Go.Proofs.Ythimgldohhaimaa
