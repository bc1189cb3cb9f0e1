/-
  Package ledger: a list of calls that comes in, opened; what is read of it.
-/
import Derived.Test.YthfopabefknlkabLdl
import Derived.Test.YthfopabefknlkabLaw
import Derived.Deep.SlicePairs
import Derived.Deep.Grids
import Derived.ChangeSlices
import Derived.Lib.SmallJoins
namespace Go.Proofs.Ythfopabefknlkab
open Go.ChangeShapes Go.WideShapes Go.ChangeAt Go.RowKit Go.Joins Go.Deep

/-- A call: its kind, its number, its pages. -/
structure O3 where
  k : Int
  n : Int
  p : Int
instance : Inhabited O3 := ⟨⟨0, 0, 0⟩⟩
def O3At (w : World) (A : Option Addr) (r : List O3) : Prop :=
  r = [] ∨ ∃ b off : Nat, A = some ⟨b, off, none⟩ ∧ b < w.heap.size ∧ ∀ (i : Nat) (v : O3), r[i]? = some v →
    w.cell? ⟨b, off + i * 3, none⟩ = some (.int .i64 v.k) ∧ w.cell? ⟨b, off + i * 3 + 1, none⟩ = some (.int .i64 v.n) ∧ w.cell? ⟨b, off + i * 3 + 2, none⟩ = some (.int .i64 v.p)
theorem O3At.kept {w w' : World} {A : Option Addr} {r : List O3} (h : O3At w A r) (hb : Below w.heap.size w w') : O3At w' A r := by
  rcases h with h | ⟨b, off, hA, hlt, hc⟩
  · exact .inl h
  · refine .inr ⟨b, off, hA, Nat.lt_of_lt_of_le hlt hb.size, fun i v hv => ?_⟩
    obtain ⟨c0, c1, c2⟩ := hc i v hv
    exact ⟨(hb.cell (p := ⟨b, _, none⟩) hlt).trans c0, (hb.cell (p := ⟨b, _, none⟩) hlt).trans c1, (hb.cell (p := ⟨b, _, none⟩) hlt).trans c2⟩
theorem O3At.at {w : World} {A : Option Addr} {r : List O3} (h : O3At w A r) {i : Nat} (hi : i < r.length) :
    ∃ b off : Nat, A = some ⟨b, off, none⟩ ∧ b < w.heap.size ∧ w.cell? ⟨b, off + i * 3, none⟩ = some (.int .i64 r[i].k) ∧ w.cell? ⟨b, off + i * 3 + 1, none⟩ = some (.int .i64 r[i].n) ∧ w.cell? ⟨b, off + i * 3 + 2, none⟩ = some (.int .i64 r[i].p) := by
  rcases h with h | ⟨b, off, hA, hlt, hc⟩
  · subst h; simp at hi
  · obtain ⟨c0, c1, c2⟩ := hc i r[i] (List.getElem?_eq_getElem hi)
    exact ⟨b, off, hA, hlt, c0, c1, c2⟩
/-- All parts are ints. -/
def Wide (r : List O3) : Prop := ∀ v ∈ r, (Lit.int .i64 v.k).wf = true ∧ (Lit.int .i64 v.n).wf = true ∧ (Lit.int .i64 v.p).wf = true

section
variable {H : Type} {enc : TypeId × Value → H}
theorem cOp : Try.prog.cellsOf 29 = 3 := by kernel_rfl
theorem cIntO : Try.prog.cellsOf 3 = 1 := by kernel_rfl
theorem spotO {W : World} {a : Addr} {v : Value} (h : W.cell? (a.add 0) = some v) : a = ⟨a.block, a.off, none⟩ := by
  obtain ⟨b, o, s⟩ := a
  have : s = none := by simpa [Addr.add] using World.cell?_spot h
  subst this; rfl
theorem plainO (b o i : Nat) : (⟨b, o, none⟩ : Addr).add i = ⟨b, o + i, none⟩ := by unfold Addr.add; split <;> simp_all

set_option maxRecDepth 100000 in
theorem open_o3_cells {W : World} {fuel : Nat} {cs : List Value} {x : DataW H × List MemPlace} (h : DataW.trod enc Try.prog W 0 (fun _ => true) true fuel 22 cs = some x) :
    ∃ A c r, cs = [.slice A r.length c] ∧ O3At W A r ∧ Wide r ∧ r.length ≤ c ∧ c ≤ maxLen := by
  rcases open_slice Try.underlying22 h with ⟨rfl, _⟩ | ⟨a, len, cap, m, n, D, Pl, rfl, _, hl, hm, hmm, _, hx⟩
  · exact ⟨none, 0, [], rfl, .inl rfl, (fun v hv => by cases hv), Nat.le_refl _, Nat.zero_le _⟩
  · simp only [if_true] at hmm
    subst hmm
    have each : ∀ i, i < len → ∃ v : O3, W.cell? (a.add (i * 3)) = some (.int .i64 v.k) ∧ W.cell? (a.add (i * 3 + 1)) = some (.int .i64 v.n) ∧ W.cell? (a.add (i * 3 + 2)) = some (.int .i64 v.p) ∧ (Lit.int .i64 v.k).wf = true ∧ (Lit.int .i64 v.n).wf = true ∧ (Lit.int .i64 v.p).wf = true := by
      intro i hi
      obtain ⟨cs', h1, h2⟩ := hx i (by omega)
      rw [cOp] at h1
      obtain ⟨_, hlen, hcell⟩ := World.cells?_some h1
      obtain ⟨y0, y1, y2, n', _, _, g0, g1, g2⟩ := trod_struct3 Try.underlying29 h2
      match cs', hlen with
      | [v0, v1, v2], _ =>
        have e0 := hcell 0 (by omega)
        have e1 := hcell 1 (by omega)
        have e2 := hcell 2 (by omega)
        rw [add_add] at e0 e1 e2
        simp [cIntO] at g0 g1 g2
        obtain ⟨k, q0, _, w0⟩ := DataW.trod_int Try.underlying3 g0
        obtain ⟨n, q1, _, w1⟩ := DataW.trod_int Try.underlying3 g1
        obtain ⟨p, q2, _, w2⟩ := DataW.trod_int Try.underlying3 g2
        simp at q0 q1 q2
        subst q0 q1 q2
        exact ⟨⟨k, n, p⟩, by simpa using e0, by simpa using e1, by simpa using e2, w0, w1, w2⟩
    obtain ⟨f, hf⟩ := choose_lt each
    refine ⟨some a, m, (List.range len).map f, by simp, ?_, ?_, by simpa using hl, hm⟩
    · rcases Nat.eq_zero_or_pos len with h0 | h0
      · subst h0; exact .inl rfl
      · have ha := spotO (by simpa using (hf 0 h0).1)
        generalize a.block = b at ha
        generalize a.off = o at ha
        subst ha
        refine .inr ⟨b, o, rfl, ?_, fun i v hv => ?_⟩
        · have := World.block_lt_of_cell? W _ (hf 0 h0).1
          rw [plainO] at this
          exact this
        · rw [List.getElem?_map] at hv
          obtain ⟨j, hj, rfl⟩ := Option.map_eq_some_iff.1 hv
          have hj' := List.getElem?_eq_some_iff.1 hj
          obtain ⟨hjl, hje⟩ := hj'
          simp at hje hjl
          subst hje
          obtain ⟨q0, q1, q2, _⟩ := hf i hjl
          simp only [plainO] at q0 q1 q2
          exact ⟨q0, by rw [Nat.add_assoc]; exact q1, by rw [Nat.add_assoc]; exact q2⟩
    · intro v hv
      simp only [List.mem_map, List.mem_range] at hv
      obtain ⟨i, hi, rfl⟩ := hv
      exact (hf i hi).2.2.2

set_option maxRecDepth 100000 in
theorem open_o3 {W : World} {base : Nat} {v : Value} {d : DataW H} {p : List MemPlace} (hval : Value.okWide Try.prog W .any base 22 v) (h : DataW.Trod enc Try.prog W 0 (fun _ => true) true 22 v d p) :
    ∃ A c r, v = .slice A r.length c ∧ O3At W A r ∧ Wide r ∧ r.length ≤ c ∧ c ≤ maxLen := by
  obtain ⟨a, len, cap, rfl⟩ := okWide_slice Try.underlying22 hval
  obtain ⟨fuel, hf⟩ := h
  obtain ⟨A, c, r, e, rest⟩ := open_o3_cells hf
  refine ⟨A, c, r, ?_, rest⟩
  simpa [Value.cells] using e
end
end Go.Proofs.Ythfopabefknlkab
