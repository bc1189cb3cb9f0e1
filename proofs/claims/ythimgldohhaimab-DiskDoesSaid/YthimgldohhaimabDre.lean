/-
  DiskDoes: a list of calls that comes in, opened.
-/
import Derived.Test.YthimgldohhaimabDrd
import Derived.Test.YthimgldohhaimabDkOpen
import Derived.Test.YthimgldohhaimabLaw
namespace Go.Proofs.Ythimgldohhaimab
open Go.ChangeShapes Go.WideShapes Go.ChangeAt Go.RowKit Go.Joins Go.Deep

/-- A call: its kind, its file, its place, its bytes. -/
structure O5 where
  k : Int
  n : Int
  i : Int
  A : Option Addr
  c : Nat
  q : List Int
instance : Inhabited O5 := ⟨⟨0, 0, 0, none, 0, []⟩⟩
def O5At (B : Nat) (w : World) (A : Option Addr) (r : List O5) : Prop :=
  r = [] ∨ ∃ b off : Nat, A = some ⟨b, off, none⟩ ∧ b < B ∧ ∀ (i : Nat) (v : O5), r[i]? = some v →
    (w.cell? ⟨b, off + i * 4, none⟩ = some (.int .i64 v.k) ∧ w.cell? ⟨b, off + i * 4 + 1, none⟩ = some (.int .i64 v.n) ∧ w.cell? ⟨b, off + i * 4 + 2, none⟩ = some (.int .i64 v.i) ∧ w.cell? ⟨b, off + i * 4 + 3, none⟩ = some (.slice v.A v.q.length v.c)) ∧ DataIn B w v.A v.q
theorem DataIn.kept {B : Nat} {w w' : World} {A : Option Addr} {q : List Int} (h : DataIn B w A q) (hb : Below B w w') : DataIn B w' A q := by
  rcases h with h | ⟨b, o, hA, hlt, hc⟩
  · exact .inl h
  · exact .inr ⟨b, o, hA, hlt, fun i u hu => (hb.cell (p := ⟨b, _, none⟩) hlt).trans (hc i u hu)⟩
theorem O5At.at {B : Nat} {w w' : World} {A : Option Addr} {r : List O5} (h : O5At B w A r) (hk : Below B w w') {i : Nat} (hi : i < r.length) :
    ∃ b off : Nat, A = some ⟨b, off, none⟩ ∧ b < B ∧ (w'.cell? ⟨b, off + i * 4, none⟩ = some (.int .i64 r[i].k) ∧ w'.cell? ⟨b, off + i * 4 + 1, none⟩ = some (.int .i64 r[i].n) ∧ w'.cell? ⟨b, off + i * 4 + 2, none⟩ = some (.int .i64 r[i].i) ∧ w'.cell? ⟨b, off + i * 4 + 3, none⟩ = some (.slice r[i].A r[i].q.length r[i].c)) ∧ DataIn B w' r[i].A r[i].q := by
  rcases h with h | ⟨b, off, hA, hlt, hc⟩
  · subst h; simp at hi
  · obtain ⟨⟨c0, c1, c2, c3⟩, hd⟩ := hc i r[i] (List.getElem?_eq_getElem hi)
    exact ⟨b, off, hA, hlt, ⟨(hk.cell (p := ⟨b, _, none⟩) hlt).trans c0, (hk.cell (p := ⟨b, _, none⟩) hlt).trans c1, (hk.cell (p := ⟨b, _, none⟩) hlt).trans c2, (hk.cell (p := ⟨b, _, none⟩) hlt).trans c3⟩, hd.kept hk⟩
def Wide5 (r : List O5) : Prop := ∀ v ∈ r, (Lit.int .i64 v.n).wf = true
section
variable {H : Type} {enc : TypeId × Value → H}
theorem cOp5 : Try.prog.cellsOf 33 = 4 := by kernel_rfl
theorem cByt5 : Try.prog.cellsOf 5 = 1 := by kernel_rfl
theorem cSl5 : Try.prog.cellsOf 31 = 1 := by kernel_rfl
set_option maxRecDepth 100000 in
theorem open_bytes5 {W : World} {fuel : Nat} {cs : List Value} {x : DataW H × List MemPlace} (h : DataW.trod enc Try.prog W 0 (fun _ => true) true fuel 31 cs = some x) :
    ∃ A c l, cs = [.slice A l.length c] ∧ DataIn W.heap.size W A l := by
  rcases open_ints Try.underlying31 Try.underlying5 cByt5 h with ⟨hcs, _⟩ | ⟨a', len', cap', zs, hcs, _, hl, hm, hz, _, hcell, hwf⟩
  · exact ⟨none, 0, [], hcs, .inl rfl⟩
  · simp only [if_true] at hz
    refine ⟨some a', cap', zs.take len', by simp [hcs]; omega, ?_⟩
    have hcl : ∀ (i : Nat) (u : Value), ((zs.take len').map (Value.int .u8))[i]? = some u → W.cell? (a'.add i) = some u := fun i u hu => by
      rw [List.getElem?_map] at hu
      obtain ⟨y, hy, rfl⟩ := Option.map_eq_some_iff.1 hu
      have hil := (List.getElem?_eq_some_iff.1 hy).1
      rw [List.length_take] at hil
      rw [List.getElem?_take_of_lt (by omega)] at hy
      rw [hcell i (by omega)]
      simp [List.getD, hy]
    generalize zs.take len' = l at hcl
    cases l with
    | nil => exact .inl rfl
    | cons u l =>
      have h0 := hcl 0 (.int .u8 u) rfl
      have ha := spotD h0
      generalize a'.block = b at ha
      generalize a'.off = o at ha
      subst ha
      refine .inr ⟨b, o, rfl, ?_, fun i v hv => ?_⟩
      · have := World.block_lt_of_cell? W _ h0
        rw [plainD] at this
        exact this
      · have := hcl i v hv
        rwa [plainD] at this
set_option maxRecDepth 100000 in
theorem open_o5_cells {W : World} {fuel : Nat} {cs : List Value} {x : DataW H × List MemPlace} (h : DataW.trod enc Try.prog W 0 (fun _ => true) true fuel 23 cs = some x) :
    ∃ A c r, cs = [.slice A r.length c] ∧ O5At W.heap.size W A r ∧ Wide5 r ∧ r.length ≤ c ∧ c ≤ maxLen := by
  rcases open_slice Try.underlying23 h with ⟨rfl, _⟩ | ⟨a, len, cap, m, n, D, Pl, rfl, _, hl, hm, hmm, _, hx⟩
  · exact ⟨none, 0, [], rfl, .inl rfl, (fun v hv => by cases hv), Nat.le_refl _, Nat.zero_le _⟩
  · simp only [if_true] at hmm
    subst hmm
    have each : ∀ i, i < len → ∃ v : O5, W.cell? (a.add (i * 4)) = some (.int .i64 v.k) ∧ W.cell? (a.add (i * 4 + 1)) = some (.int .i64 v.n) ∧ W.cell? (a.add (i * 4 + 2)) = some (.int .i64 v.i) ∧ W.cell? (a.add (i * 4 + 3)) = some (.slice v.A v.q.length v.c) ∧ (Lit.int .i64 v.n).wf = true ∧ DataIn W.heap.size W v.A v.q := by
      intro i hi
      obtain ⟨cs', h1, h2⟩ := hx i (by omega)
      rw [cOp5] at h1
      obtain ⟨_, hlen, hcell⟩ := World.cells?_some h1
      obtain ⟨y0, y1, y2, y3, n', _, _, g0, g1, g2, g3⟩ := trod_struct4 Try.underlying33 h2
      match cs', hlen with
      | [v0, v1, v2, v3], _ =>
        have e0 := hcell 0 (by omega)
        have e1 := hcell 1 (by omega)
        have e2 := hcell 2 (by omega)
        have e3 := hcell 3 (by omega)
        rw [add_add] at e0 e1 e2 e3
        simp [cIntD, cSl5] at g0 g1 g2 g3
        obtain ⟨k, q0, _, w0⟩ := DataW.trod_int Try.underlying3 g0
        obtain ⟨n, q1, _, w1⟩ := DataW.trod_int Try.underlying3 g1
        obtain ⟨p, q2, _, w2⟩ := DataW.trod_int Try.underlying3 g2
        obtain ⟨A, c, q, q3, hd⟩ := open_bytes5 g3
        simp at q0 q1 q2 q3
        subst q0 q1 q2 q3
        exact ⟨⟨k, n, p, A, c, q⟩, by simpa using e0, by simpa using e1, by simpa using e2, by simpa using e3, w1, hd⟩
    obtain ⟨f, hf⟩ := choose_lt each
    refine ⟨some a, m, (List.range len).map f, by simp, ?_, ?_, by simpa using hl, hm⟩
    · rcases Nat.eq_zero_or_pos len with h0 | h0
      · subst h0; exact .inl rfl
      · have ha := spotD (by simpa using (hf 0 h0).1)
        generalize a.block = b at ha
        generalize a.off = o at ha
        subst ha
        refine .inr ⟨b, o, rfl, ?_, fun i v hv => ?_⟩
        · have := World.block_lt_of_cell? W _ (hf 0 h0).1
          rw [plainD] at this
          exact this
        · rw [List.getElem?_map] at hv
          obtain ⟨j, hj, rfl⟩ := Option.map_eq_some_iff.1 hv
          have hj' := List.getElem?_eq_some_iff.1 hj
          obtain ⟨hjl, hje⟩ := hj'
          simp at hje hjl
          subst hje
          obtain ⟨q0, q1, q2, q3, _, q5⟩ := hf i hjl
          simp only [plainD] at q0 q1 q2 q3
          exact ⟨⟨q0, by rw [Nat.add_assoc]; exact q1, by rw [Nat.add_assoc]; exact q2, by rw [Nat.add_assoc]; exact q3⟩, q5⟩
    · intro v hv
      simp only [List.mem_map, List.mem_range] at hv
      obtain ⟨i, hi, rfl⟩ := hv
      exact (hf i hi).2.2.2.2.1
set_option maxRecDepth 100000 in
theorem open_o5 {W : World} {base : Nat} {v : Value} {d : DataW H} {p : List MemPlace} (hval : Value.okWide Try.prog W .any base 23 v) (h : DataW.Trod enc Try.prog W 0 (fun _ => true) true 23 v d p) :
    ∃ A c r, v = .slice A r.length c ∧ O5At W.heap.size W A r ∧ Wide5 r ∧ r.length ≤ c ∧ c ≤ maxLen := by
  obtain ⟨a, len, cap, rfl⟩ := okWide_slice Try.underlying23 hval
  obtain ⟨fuel, hf⟩ := h
  obtain ⟨A, c, r, e, rest⟩ := open_o5_cells hf
  refine ⟨A, c, r, ?_, rest⟩
  simpa [Value.cells] using e
set_option maxRecDepth 100000 in
theorem open_nums5 {W : World} {base : Nat} {v : Value} {d : DataW H} {p : List MemPlace} (hval : Value.okWide Try.prog W .any base 22 v) (h : DataW.Trod enc Try.prog W 0 (fun _ => true) true 22 v d p) :
    ∃ A c l, v = .slice A l.length c ∧ NumsAt W A l ∧ (A = none → c = 0) ∧ (∀ n ∈ l, (Lit.int .i64 n).wf = true) ∧ l.length ≤ c ∧ c ≤ maxLen := by
  obtain ⟨a, len, cap, rfl⟩ := okWide_slice Try.underlying22 hval
  obtain ⟨fuel, hf⟩ := h
  rcases open_ints Try.underlying22 Try.underlying3 cIntD hf with ⟨hcs, _⟩ | ⟨a', len', cap', zs, hcs, _, hl, hm, hz, _, hcell, hwf⟩
  · simp [Value.cells] at hcs
    obtain ⟨rfl, rfl, rfl⟩ := hcs
    exact ⟨none, 0, [], rfl, .inl rfl, fun _ => rfl, (fun n hn => by cases hn), Nat.le_refl _, Nat.zero_le _⟩
  · simp [Value.cells] at hcs
    obtain ⟨rfl, rfl, rfl⟩ := hcs
    simp only [if_true] at hz
    refine ⟨some a', cap, zs.take len, by simp; omega, numsAt_of (fun i u hu => ?_), (fun hh => by cases hh), fun y hy => hwf y (List.mem_of_mem_take hy), by simp; omega, hm⟩
    have hil := (List.getElem?_eq_some_iff.1 hu).1
    rw [List.length_take] at hil
    rw [List.getElem?_take_of_lt (by omega)] at hu
    rw [hcell i (by omega)]
    simp [List.getD, hu]
end
end Go.Proofs.Ythimgldohhaimab
