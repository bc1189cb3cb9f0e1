/-
  Package ledger: the calls that LedgerHolds makes.
-/
import Derived.Test.YthfopabefknlkabLdm
namespace Go.Proofs.Ythfopabefknlkab
open Go.RowKit Go.Maps Go.Sort

/-- A ledger of the call's own, as it may be behind so many rounds. -/
def St (B : Nat) (w : World) (l m : Nat) (G : Int) (i : Nat) : Prop := ∃ L last most, Led B w l m L last most ∧ Good G last most L ∧ 0 ≤ last ∧ last ≤ i
theorem St.kept {B : Nat} {w w' : World} {l m : Nat} {G : Int} {i : Nat} (h : St B w l m G i) (hb : Below w.heap.size w w') : St B w' l m G i := by
  obtain ⟨L, last, most, h1, h2⟩ := h
  exact ⟨L, last, most, h1.kept hb, h2⟩
theorem St.next {B : Nat} {w : World} {l m : Nat} {G : Int} {i : Nat} (h : St B w l m G i) : St B w l m G (i + 1) := by
  obtain ⟨L, last, most, h1, h2, h3, h4⟩ := h
  exact ⟨L, last, most, h1, h2, h3, by omega⟩
theorem st_new (G : Int) (h0 : 0 ≤ G) (h1 : G ≤ 16384) (w : World) :
    Calls Try.prog 8 #[.int .i64 G] w fun e w' => (∃ l m, e = .returned (.tuple #[.pointer (some ⟨l, 0, none⟩), .int .i64 0]) ∧ St w.heap.size w' l m G 0) ∧ Below w.heap.size w w' := by
  refine (new_any G w).mono ?_
  rintro e w' ⟨hb, h⟩
  rw [if_pos ⟨h0, h1⟩] at h
  obtain ⟨l, m, b, he, hl⟩ := h
  exact ⟨⟨l, m, he, _, 0, 0, hl, good_new G b h0, Int.le_refl _, by simp⟩, hb⟩
theorem st_nonew (G : Int) (h : G < 0 ∨ 16384 < G) (w : World) :
    Calls Try.prog 8 #[.int .i64 G] w fun e w' => e = .returned (.tuple #[.pointer none, .int .i64 1]) ∧ Below w.heap.size w w' := by
  refine (new_any G w).mono ?_
  rintro e w' ⟨hb, h2⟩
  rw [if_neg (by omega)] at h2
  exact ⟨h2, hb⟩
theorem st_open {B l m i : Nat} {G n p : Int} {w : World} (h : St B w l m G i) (hi : i < 1000000) (hw : (Lit.int .i64 n).wf = true) :
    Calls Try.prog 10 #[.pointer (some ⟨l, 0, none⟩), .int .i64 n, .int .i64 p] w fun e w' => (∃ x y, e = .returned (.tuple #[.int .i64 x, .int .i64 y])) ∧ St B w' l m G (i + 1) ∧ Below B w w' := by
  obtain ⟨L, last, most, h1, h2, h3, h4⟩ := h
  refine (open_anyL B l m L last most n p w h1 hw (fun a ha => (h2.nums a ha).2) h3 (by omega)).mono ?_
  rintro e w' ⟨hb, h⟩
  by_cases c1 : p < 0
  · rw [if_pos c1] at h
    exact ⟨⟨_, _, h.1⟩, ⟨L, last, most, h.2, h2, h3, by omega⟩, hb⟩
  · rw [if_neg c1] at h
    cases ha : acOf L n with
    | none =>
      rw [ha] at h
      exact ⟨⟨_, _, h.1⟩, ⟨L, last, most, h.2, h2, h3, by omega⟩, hb⟩
    | some a =>
      rw [ha] at h
      simp only at h
      by_cases c2 : 256 ≤ L.length
      · rw [if_pos c2] at h
        exact ⟨⟨_, _, h.1⟩, ⟨L, last, most, h.2, h2, h3, by omega⟩, hb⟩
      · rw [if_neg c2] at h
        by_cases c3 : leftOf L n < p
        · rw [if_pos c3] at h
          exact ⟨⟨_, _, h.1⟩, ⟨L, last, most, h.2, h2, h3, by omega⟩, hb⟩
        · rw [if_neg c3] at h
          obtain ⟨he, b, hl⟩ := h
          exact ⟨⟨_, _, he⟩, ⟨_, last + 1, most, hl, good_open h2 h1.at_.nums ha (by omega) (by omega), by omega, by omega⟩, hb⟩
theorem st_close {B l m i : Nat} {G n : Int} {w : World} (h : St B w l m G i) (hw : (Lit.int .i64 n).wf = true) :
    Calls Try.prog 11 #[.pointer (some ⟨l, 0, none⟩), .int .i64 n] w fun e w' => (∃ x, e = .returned (.int .i64 x)) ∧ St B w' l m G (i + 1) ∧ Below B w w' := by
  obtain ⟨L, last, most, h1, h2, h3, h4⟩ := h
  refine (close_any B l m L last most n w h1 hw).mono ?_
  rintro e w' ⟨hb, h⟩
  cases ha : acOf L n with
  | none =>
    rw [ha] at h
    exact ⟨⟨_, h.1⟩, ⟨L, last, most, h.2, h2, h3, by omega⟩, hb⟩
  | some a =>
    rw [ha] at h
    simp only at h
    by_cases c : n = 0 ∨ 0 < a.h ∨ 0 < cntN L n
    · rw [if_pos c] at h
      exact ⟨⟨_, h.1⟩, ⟨L, last, most, h.2, h2, h3, by omega⟩, hb⟩
    · rw [if_neg c] at h
      exact ⟨⟨_, h.1⟩, ⟨_, last, most, h.2, good_close h2 h1.at_.nums ha c, h3, by omega⟩, hb⟩
theorem st_take {B l m i : Nat} {G n p : Int} {w : World} (h : St B w l m G i) (hw : (Lit.int .i64 n).wf = true) :
    Calls Try.prog 12 #[.pointer (some ⟨l, 0, none⟩), .int .i64 n, .int .i64 p] w fun e w' => (∃ x, e = .returned (.int .i64 x)) ∧ St B w' l m G (i + 1) ∧ Below B w w' := by
  obtain ⟨L, last, most, h1, h2, h3, h4⟩ := h
  refine (take_any B l m L last most n p w h1 hw).mono ?_
  rintro e w' ⟨hb, h⟩
  by_cases c1 : p < 0
  · rw [if_pos c1] at h
    exact ⟨⟨_, h.1⟩, ⟨L, last, most, h.2, h2, h3, by omega⟩, hb⟩
  · rw [if_neg c1] at h
    cases ha : acOf L n with
    | none =>
      rw [ha] at h
      exact ⟨⟨_, h.1⟩, ⟨L, last, most, h.2, h2, h3, by omega⟩, hb⟩
    | some a =>
      rw [ha] at h
      simp only at h
      by_cases c3 : leftOf L n < p
      · rw [if_pos c3] at h
        exact ⟨⟨_, h.1⟩, ⟨L, last, most, h.2, h2, h3, by omega⟩, hb⟩
      · rw [if_neg c3] at h
        exact ⟨⟨_, h.1⟩, ⟨_, last, _, h.2, good_take h2 h1.at_.nums ha (by omega) (by omega), h3, by omega⟩, hb⟩
theorem st_give {B l m i : Nat} {G n p : Int} {w : World} (h : St B w l m G i) (hw : (Lit.int .i64 n).wf = true) :
    Calls Try.prog 13 #[.pointer (some ⟨l, 0, none⟩), .int .i64 n, .int .i64 p] w fun e w' => (∃ x, e = .returned (.int .i64 x)) ∧ St B w' l m G (i + 1) ∧ Below B w w' := by
  obtain ⟨L, last, most, h1, h2, h3, h4⟩ := h
  refine (give_any B l m L last most n p w h1 hw).mono ?_
  rintro e w' ⟨hb, h⟩
  cases ha : acOf L n with
  | none =>
    rw [ha] at h
    exact ⟨⟨_, h.1⟩, ⟨L, last, most, h.2, h2, h3, by omega⟩, hb⟩
  | some a =>
    rw [ha] at h
    simp only at h
    by_cases c : p < 0 ∨ a.h < p
    · rw [if_pos c] at h
      exact ⟨⟨_, h.1⟩, ⟨L, last, most, h.2, h2, h3, by omega⟩, hb⟩
    · rw [if_neg c] at h
      exact ⟨⟨_, h.1⟩, ⟨_, last, most, h.2, good_give h2 h1.at_.nums ha (by omega) (by omega), h3, by omega⟩, hb⟩
/-- What is told of one account: as the document bounds it. -/
structure Told (L : List Ac) (y h g p : Int) : Prop where
  held : h = fieldOf Ac.h (acOf L y)
  grant : g = fieldOf Ac.g (acOf L y)
  peak : p = fieldOf Ac.p (acOf L y)
  h0 : 0 ≤ h
  hg : h ≤ g
  pg : p ≤ g
  left : 0 ≤ leftOf L y
  small : g ≤ 16384
theorem told_of {B l m : Nat} {G last most : Int} {L : List Ac} {w : World} (h : Led B w l m L last most) (hg : Good G last most L) {y : Int} (hy : y ∈ L.map Ac.n) : ∃ a g p, Told L y a g p ∧ (Lit.int .i64 y).wf = true := by
  obtain ⟨a, ha, rfl⟩ := List.mem_map.1 hy
  have h1 := acOf_some h.at_.nums ha
  have h2 := hg.each a ha
  have h3 := h.sane.gr a ha
  have h4 := h.sane.num a ha
  refine ⟨a.h, a.g, a.p, ⟨by rw [h1]; rfl, by rw [h1]; rfl, by rw [h1]; rfl, h2.2.1, by omega, h2.2.2.2.1, by rw [leftOf_some h.at_.nums ha]; exact h2.2.2.2.2, h3.2⟩, wf_small (by omega) (by omega)⟩
end Go.Proofs.Ythfopabefknlkab
