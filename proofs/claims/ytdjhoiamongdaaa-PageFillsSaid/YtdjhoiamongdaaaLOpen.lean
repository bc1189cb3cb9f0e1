/-
  A list of rows among a law's arguments, opened.
-/
import Derived.Test.YtdjhoiamongdaaaROpen
import Derived.Test.YtdjhoiamongdaaaLst
namespace Go.Proofs.Ytdjhoiamongdaaa
open Go.ChangeShapes Go.WideShapes Go.ChangeAt Go.RowKit Go.Joins Go.Deep

section
variable {H : Type} {enc : TypeId × Value → H}

set_option maxRecDepth 100000 in
theorem open_rowsAt {W : World} {base : Nat} {v : Value} {d : DataW H} {p : List MemPlace} (hval : Value.okWide Try.prog W .any base 22 v) (h : DataW.Trod enc Try.prog W 0 (fun _ => true) true 22 v d p) :
    ∃ A c rs, v = .slice A rs.length c ∧ RowsAt W A rs ∧ (∀ r ∈ rs, Fine r) ∧ (∀ r ∈ rs, r.length ≤ 9223372036854775807) ∧ (A = none → c = 0) ∧ rs.length ≤ c ∧ c ≤ maxLen := by
  obtain ⟨a, len, cap, rfl⟩ := okWide_slice Try.underlying22 hval
  obtain ⟨fuel, hf⟩ := h
  rcases open_slice Try.underlying22 hf with ⟨hcs, _⟩ | ⟨a', len', cap', m, n, D, Pl, hcs, _, hl, hm, hmm, _, hx⟩
  · simp [Value.cells] at hcs
    obtain ⟨rfl, rfl, rfl⟩ := hcs
    exact ⟨none, 0, [], rfl, .inl rfl, (fun v hv => by cases hv), (fun v hv => by cases hv), (fun _ => rfl), Nat.le_refl _, Nat.zero_le _⟩
  · simp [Value.cells] at hcs
    obtain ⟨rfl, rfl, rfl⟩ := hcs
    simp only [if_true] at hmm
    subst hmm
    have each : ∀ i, i < len → ∃ r : List Va, ∃ A c, W.cell? (a'.add i) = some (.slice A r.length c) ∧ RowAt W A r ∧ Fine r ∧ (A = none → c = 0) ∧ r.length ≤ 9223372036854775807 := by
      intro i hi
      obtain ⟨cs', h1, h2⟩ := hx i (by omega)
      rw [cRow] at h1
      obtain ⟨_, hlen, hcell⟩ := World.cells?_some h1
      obtain ⟨A, c, r, hcs', hr, hfi, hA, hlc, hcm⟩ := open_row_cells h2
      subst hcs'
      have e0 := hcell 0 (by omega)
      rw [add_add] at e0
      simp only [maxLen] at hcm
      exact ⟨r, A, c, by simpa using e0, hr, hfi, hA, by omega⟩
    obtain ⟨f, hf⟩ := choose_lt each
    refine ⟨some a', m, (List.range len).map f, by simp, ?_, ?_, ?_, (fun hh => by cases hh), by simpa using hl, hm⟩
    · rcases Nat.eq_zero_or_pos len with h0 | h0
      · subst h0; exact .inl rfl
      · obtain ⟨A0, c0, hc0, _⟩ := hf 0 h0
        have ha := spot_none (by simpa using hc0)
        generalize a'.block = b at ha
        generalize a'.off = o at ha
        subst ha
        refine .inr ⟨b, o, rfl, ?_, fun i r hr => ?_⟩
        · have := lt_cell hc0
          rw [add_plain] at this
          exact this
        · rw [List.getElem?_map] at hr
          obtain ⟨j, hj, rfl⟩ := Option.map_eq_some_iff.1 hr
          obtain ⟨hjl, hje⟩ := List.getElem?_eq_some_iff.1 hj
          simp at hje hjl
          subst hje
          obtain ⟨A, c, hc, hrow, _, hA, _⟩ := hf i hjl
          rw [add_plain] at hc
          exact ⟨A, c, hc, hrow, hA⟩
    · intro r hr
      simp only [List.mem_map, List.mem_range] at hr
      obtain ⟨i, hi, rfl⟩ := hr
      obtain ⟨A, c, _, _, hfi, _⟩ := hf i hi
      exact hfi
    · intro r hr
      simp only [List.mem_map, List.mem_range] at hr
      obtain ⟨i, hi, rfl⟩ := hr
      obtain ⟨A, c, _, _, _, _, hle⟩ := hf i hi
      exact hle
end
end Go.Proofs.Ytdjhoiamongdaaa
