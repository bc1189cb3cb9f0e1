/-
  A list of pages among a law's arguments, opened.
-/
import Derived.Test.YtdjhoiamongdaaaROpen
import Derived.Test.YtdjhoiamongdaaaPgS
namespace Go.Proofs.Ytdjhoiamongdaaa
open Go.ChangeShapes Go.WideShapes Go.ChangeAt Go.RowKit Go.Joins Go.Deep

section
variable {H : Type} {enc : TypeId × Value → H}

theorem cBts : Try.prog.cellsOf 25 = 1 := by kernel_rfl
set_option maxRecDepth 100000 in
theorem open_bytes_cells {W : World} {fuel : Nat} {cs : List Value} {x : DataW H × List MemPlace} (h : DataW.trod enc Try.prog W 0 (fun _ => true) true fuel 25 cs = some x) :
    ∃ A c l, cs = [.slice A l.length c] ∧ BytesAt W A l ∧ (A = none → c = 0) ∧ l.length ≤ c ∧ c ≤ maxLen := by
  rcases open_ints Try.underlying25 Try.underlying5 cByte h with ⟨hcs, _⟩ | ⟨a', len', cap', zs, hcs, _, hl, hm, hz, _, hcell, hwf⟩
  · exact ⟨none, 0, [], hcs, ⟨.inl rfl, by simp⟩, fun _ => rfl, Nat.le_refl _, Nat.zero_le _⟩
  · simp only [if_true] at hz
    refine ⟨some a', cap', zs.take len', by simp [hcs]; omega, ⟨cellsAt_of (fun i u hu => ?_), fun y hy => ?_⟩, (fun hh => by cases hh), (by simp; omega), hm⟩
    · rw [List.getElem?_map] at hu
      obtain ⟨y, hy, rfl⟩ := Option.map_eq_some_iff.1 hu
      have hil := (List.getElem?_eq_some_iff.1 hy).1
      rw [List.length_take] at hil
      rw [List.getElem?_take_of_lt (by omega)] at hy
      rw [hcell i (by omega)]
      simp [List.getD, hy]
    · have := hwf y (List.mem_of_mem_take hy)
      simp [Lit.wf, IntKind.min, IntKind.max, IntKind.bits, IntKind.signed] at this
      omega

set_option maxRecDepth 100000 in
theorem open_pagesAt {W : World} {base : Nat} {v : Value} {d : DataW H} {p : List MemPlace} (hval : Value.okWide Try.prog W .any base 46 v) (h : DataW.Trod enc Try.prog W 0 (fun _ => true) true 46 v d p) :
    ∃ A c ps, v = .slice A ps.length c ∧ PagesAt W A ps ∧ (∀ r ∈ ps, r.length ≤ 9223372036854775807) ∧ (A = none → c = 0) ∧ ps.length ≤ c ∧ c ≤ maxLen := by
  obtain ⟨a, len, cap, rfl⟩ := okWide_slice Try.underlying46 hval
  obtain ⟨fuel, hf⟩ := h
  rcases open_slice Try.underlying46 hf with ⟨hcs, _⟩ | ⟨a', len', cap', m, n, D, Pl, hcs, _, hl, hm, hmm, _, hx⟩
  · simp [Value.cells] at hcs
    obtain ⟨rfl, rfl, rfl⟩ := hcs
    exact ⟨none, 0, [], rfl, .inl rfl, (fun v hv => by cases hv), (fun _ => rfl), Nat.le_refl _, Nat.zero_le _⟩
  · simp [Value.cells] at hcs
    obtain ⟨rfl, rfl, rfl⟩ := hcs
    simp only [if_true] at hmm
    subst hmm
    have each : ∀ i, i < len → ∃ r : List Int, ∃ A c, W.cell? (a'.add i) = some (.slice A r.length c) ∧ BytesAt W A r ∧ r.length ≤ c ∧ r.length ≤ 9223372036854775807 := by
      intro i hi
      obtain ⟨cs', h1, h2⟩ := hx i (by omega)
      rw [cBts] at h1
      obtain ⟨_, hlen, hcell⟩ := World.cells?_some h1
      obtain ⟨A, c, r, hcs', hr, hA, hlc, hcm⟩ := open_bytes_cells h2
      subst hcs'
      have e0 := hcell 0 (by omega)
      rw [add_add] at e0
      simp only [maxLen] at hcm
      exact ⟨r, A, c, by simpa using e0, hr, hlc, by omega⟩
    obtain ⟨f, hf⟩ := choose_lt each
    refine ⟨some a', m, (List.range len).map f, by simp, ?_, ?_, (fun hh => by cases hh), by simpa using hl, hm⟩
    · rcases Nat.eq_zero_or_pos len with h0 | h0
      · subst h0; exact .inl rfl
      · obtain ⟨A0, c0, hc0, _⟩ := hf 0 h0
        have ha := spot_none (by simpa using hc0)
        generalize a'.block = b at ha
        generalize a'.off = o at ha
        subst ha
        refine .inr ⟨b, o, rfl, ?_, fun i r hr => ?_⟩
        · have := lt_cell hc0
          rw [add_plain] at this
          exact this
        · rw [List.getElem?_map] at hr
          obtain ⟨j, hj, rfl⟩ := Option.map_eq_some_iff.1 hr
          obtain ⟨hjl, hje⟩ := List.getElem?_eq_some_iff.1 hj
          simp at hje hjl
          subst hje
          obtain ⟨A, c, hc, hrow, hA, _⟩ := hf i hjl
          rw [add_plain] at hc
          exact ⟨A, c, hc, hrow, hA⟩
    · intro r hr
      simp only [List.mem_map, List.mem_range] at hr
      obtain ⟨i, hi, rfl⟩ := hr
      obtain ⟨A, c, _, _, _, hle⟩ := hf i hi
      exact hle
end
end Go.Proofs.Ytdjhoiamongdaaa
