/-
  The arguments of package row's laws, opened: rows, places, marks, bytes, lists of rows.
-/
import Derived.Test.YtmjckdgomlppeaaGreatDoorZ7
import Derived.Deep.SlicePairs
import Derived.Deep.Grids
import Derived.ChangeSlices
import Derived.Lib.SmallJoins
section
namespace Go.Proofs.YtmjckdgomlppeaaGreatDoor
open Go.ChangeShapes Go.WideShapes Go.ChangeAt Go.RowKit Go.Joins Go.Deep

instance : Inhabited Va := ⟨nullA⟩

section
variable {H : Type} {enc : TypeId × Value → H}

theorem cVal : Tryz.prog.cellsOf 69 = 3 := by kernel_rfl
theorem cInt : Tryz.prog.cellsOf 3 = 1 := by kernel_rfl
theorem cStr : Tryz.prog.cellsOf 9 = 1 := by kernel_rfl
theorem cByte : Tryz.prog.cellsOf 5 = 1 := by kernel_rfl
theorem cBool : Tryz.prog.cellsOf 4 = 1 := by kernel_rfl
theorem cRow : Tryz.prog.cellsOf 38 = 1 := by kernel_rfl

theorem spot_none {W : World} {a : Addr} {v : Value} (h : W.cell? (a.add 0) = some v) : a = ⟨a.block, a.off, none⟩ := by
  obtain ⟨b, o, s⟩ := a
  have : s = none := by simpa [Addr.add] using World.cell?_spot h
  subst this; rfl
theorem add_plain (b o i : Nat) : (⟨b, o, none⟩ : Addr).add i = ⟨b, o + i, none⟩ := by unfold Addr.add; split <;> simp_all

set_option maxRecDepth 100000 in
theorem open_row_cells {W : World} {fuel : Nat} {cs : List Value} {x : DataW H × List MemPlace} (h : DataW.trod enc Tryz.prog W 0 (fun _ => true) true fuel 38 cs = some x) :
    ∃ A c r, cs = [.slice A r.length c] ∧ RowAt W A r ∧ Fine r ∧ (A = none → c = 0) ∧ r.length ≤ c ∧ c ≤ maxLen := by
  rcases open_slice Tryz.underlying38 h with ⟨rfl, _⟩ | ⟨a, len, cap, m, n, D, Pl, rfl, _, hl, hm, hmm, _, hx⟩
  · exact ⟨none, 0, [], rfl, .inl rfl, (fun v hv => by cases hv), (fun _ => rfl), Nat.le_refl _, Nat.zero_le _⟩
  · simp only [if_true] at hmm
    subst hmm
    have each : ∀ i, i < len → ∃ v : Va, W.cell? (a.add (i * 3)) = some (.int .i64 v.k) ∧ W.cell? (a.add (i * 3 + 1)) = some (.int .i64 v.n) ∧ W.cell? (a.add (i * 3 + 2)) = some (.string v.s) ∧ v.s.size ≤ maxLen := by
      intro i hi
      obtain ⟨cs', h1, h2⟩ := hx i (by omega)
      rw [cVal] at h1
      obtain ⟨_, hlen, hcell⟩ := World.cells?_some h1
      obtain ⟨y0, y1, y2, n', _, _, g0, g1, g2⟩ := trod_struct3 Tryz.underlying69 h2
      match cs', hlen with
      | [v0, v1, v2], _ =>
        have e0 := hcell 0 (by omega)
        have e1 := hcell 1 (by omega)
        have e2 := hcell 2 (by omega)
        rw [add_add] at e0 e1 e2
        simp [cInt, cStr] at g0 g1 g2
        obtain ⟨k, q0, _, _⟩ := DataW.trod_int Tryz.underlying3 g0
        obtain ⟨n, q1, _, _⟩ := DataW.trod_int Tryz.underlying3 g1
        obtain ⟨s, q2, _, ws⟩ := DataW.trod_string Tryz.underlying9 g2
        simp at q0 q1 q2
        subst q0 q1 q2
        exact ⟨⟨k, n, s⟩, by simpa using e0, by simpa using e1, by simpa using e2, ws⟩
    obtain ⟨f, hf⟩ := choose_lt each
    refine ⟨some a, m, (List.range len).map f, by simp, ?_, ?_, (fun hh => by cases hh), by simpa using hl, hm⟩
    · rcases Nat.eq_zero_or_pos len with h0 | h0
      · subst h0; exact .inl rfl
      · have ha := spot_none (by simpa using (hf 0 h0).1)
        generalize a.block = b at ha
        generalize a.off = o at ha
        subst ha
        refine .inr ⟨b, o, rfl, ?_, fun i v hv => ?_⟩
        · have := lt_cell (hf 0 h0).1
          rw [add_plain] at this
          exact this
        · rw [List.getElem?_map] at hv
          obtain ⟨j, hj, rfl⟩ := Option.map_eq_some_iff.1 hv
          have hj' := List.getElem?_eq_some_iff.1 hj
          obtain ⟨hjl, hje⟩ := hj'
          simp at hje hjl
          subst hje
          obtain ⟨q0, q1, q2, _⟩ := hf i hjl
          simp only [add_plain] at q0 q1 q2
          exact ⟨q0, by rw [Nat.add_assoc]; exact q1, by rw [Nat.add_assoc]; exact q2⟩
    · intro v hv
      simp only [List.mem_map, List.mem_range] at hv
      obtain ⟨i, hi, rfl⟩ := hv
      have := (hf i hi).2.2.2
      simp only [maxLen] at this
      omega

set_option maxRecDepth 100000 in
theorem open_row {W : World} {base : Nat} {v : Value} {d : DataW H} {p : List MemPlace} (hval : Value.okWide Tryz.prog W .any base 38 v) (h : DataW.Trod enc Tryz.prog W 0 (fun _ => true) true 38 v d p) :
    ∃ A c r, v = .slice A r.length c ∧ RowAt W A r ∧ Fine r ∧ (A = none → c = 0) ∧ r.length ≤ c ∧ c ≤ maxLen := by
  obtain ⟨a, len, cap, rfl⟩ := okWide_slice Tryz.underlying38 hval
  obtain ⟨fuel, hf⟩ := h
  obtain ⟨A, c, r, e, rest⟩ := open_row_cells hf
  refine ⟨A, c, r, ?_, rest⟩
  simpa [Value.cells] using e

theorem cellsAt_of {W : World} {a : Addr} {vs : List Value} (h : ∀ i v, vs[i]? = some v → W.cell? (a.add i) = some v) : CellsAt W (some a) vs := by
  cases vs with
  | nil => exact .inl rfl
  | cons u vs =>
    have h0 := h 0 u rfl
    have ha := spot_none h0
    generalize a.block = b at ha
    generalize a.off = o at ha
    subst ha
    refine .inr ⟨b, o, rfl, ?_, fun i v hv => ?_⟩
    · have := lt_cell h0
      rw [add_plain] at this
      exact this
    · have := h i v hv
      rwa [add_plain] at this

set_option maxRecDepth 100000 in
theorem open_intsAt {W : World} {base : Nat} {v : Value} {d : DataW H} {p : List MemPlace} (hval : Value.okWide Tryz.prog W .any base 111 v) (h : DataW.Trod enc Tryz.prog W 0 (fun _ => true) true 111 v d p) :
    ∃ A c l, v = .slice A l.length c ∧ IntsAt W A l ∧ l.length ≤ c ∧ c ≤ maxLen := by
  obtain ⟨a, len, cap, rfl⟩ := okWide_slice Tryz.underlying111 hval
  obtain ⟨fuel, hf⟩ := h
  rcases open_ints Tryz.underlying111 Tryz.underlying3 cInt hf with ⟨hcs, _⟩ | ⟨a', len', cap', zs, hcs, _, hl, hm, hz, _, hcell, _⟩
  · simp [Value.cells] at hcs
    obtain ⟨rfl, rfl, rfl⟩ := hcs
    exact ⟨none, 0, [], rfl, .inl rfl, Nat.le_refl _, Nat.zero_le _⟩
  · simp [Value.cells] at hcs
    obtain ⟨rfl, rfl, rfl⟩ := hcs
    simp only [if_true] at hz
    refine ⟨some a', cap, zs.take len, by simp; omega, cellsAt_of (fun i u hu => ?_), by simp; omega, hm⟩
    rw [List.getElem?_map] at hu
    obtain ⟨y, hy, rfl⟩ := Option.map_eq_some_iff.1 hu
    have hil := (List.getElem?_eq_some_iff.1 hy).1
    rw [List.length_take] at hil
    rw [List.getElem?_take_of_lt (by omega)] at hy
    rw [hcell i (by omega)]
    simp [List.getD, hy]

set_option maxRecDepth 100000 in
theorem open_bytesAt {W : World} {base : Nat} {v : Value} {d : DataW H} {p : List MemPlace} (hval : Value.okWide Tryz.prog W .any base 49 v) (h : DataW.Trod enc Tryz.prog W 0 (fun _ => true) true 49 v d p) :
    ∃ A c l, v = .slice A l.length c ∧ BytesAt W A l ∧ (A = none → c = 0) ∧ l.length ≤ c ∧ c ≤ maxLen := by
  obtain ⟨a, len, cap, rfl⟩ := okWide_slice Tryz.underlying49 hval
  obtain ⟨fuel, hf⟩ := h
  rcases open_ints Tryz.underlying49 Tryz.underlying5 cByte hf with ⟨hcs, _⟩ | ⟨a', len', cap', zs, hcs, _, hl, hm, hz, _, hcell, hwf⟩
  · simp [Value.cells] at hcs
    obtain ⟨rfl, rfl, rfl⟩ := hcs
    exact ⟨none, 0, [], rfl, ⟨.inl rfl, by simp⟩, fun _ => rfl, Nat.le_refl _, Nat.zero_le _⟩
  · simp [Value.cells] at hcs
    obtain ⟨rfl, rfl, rfl⟩ := hcs
    simp only [if_true] at hz
    refine ⟨some a', cap, zs.take len, by simp; omega, ⟨cellsAt_of (fun i u hu => ?_), fun y hy => ?_⟩, (fun hh => by cases hh), (by simp; omega), hm⟩
    · rw [List.getElem?_map] at hu
      obtain ⟨y, hy, rfl⟩ := Option.map_eq_some_iff.1 hu
      have hil := (List.getElem?_eq_some_iff.1 hy).1
      rw [List.length_take] at hil
      rw [List.getElem?_take_of_lt (by omega)] at hy
      rw [hcell i (by omega)]
      simp [List.getD, hy]
    · have := hwf y (List.mem_of_mem_take hy)
      simp [Lit.wf, IntKind.min, IntKind.max, IntKind.bits, IntKind.signed] at this
      omega

end
end Go.Proofs.YtmjckdgomlppeaaGreatDoor
end
