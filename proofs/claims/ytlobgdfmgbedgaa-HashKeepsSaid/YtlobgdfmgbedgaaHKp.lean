/-
  Plain: parts keep all rows, each in its part.
-/
import Derived.Test.YtlobgdfmgbedgaaHW2
import Derived.Test.YtlobgdfmgbedgaaRfS
namespace Go.Proofs.Ytlobgdfmgbedgaa
open Go.RowKit Go.Shelf

theorem flatten_set_perm : ∀ (P : List (List (List Va))) (i : Nat) (r : List Va), i < P.length → ((P.set i (P.getD i [] ++ [r])).flatten).Perm (P.flatten ++ [r])
  | [], i, r, h => by simp at h
  | p :: P, 0, r, _ => by
    simp only [List.set_cons_zero, List.flatten_cons, List.getD_cons_zero]
    rw [List.append_assoc, List.append_assoc]
    exact (List.perm_append_comm).append_left p
  | p :: P, i + 1, r, h => by
    simp only [List.set_cons_succ, List.flatten_cons, List.getD_cons_succ]
    rw [List.append_assoc]
    exact (flatten_set_perm P i r (by simpa using h)).append_left p

/-- Each row of a part may be, and is of that part. -/
def Held (s l fan : Int) (cols : List Int) (P : List (List (List Va))) : Prop :=
  ∀ (i : Nat) (p : List (List Va)), P[i]? = some p → ∀ r ∈ p, errH cols r = 0 ∧ partH s l fan (keyH cols r) = i
theorem held_step (s l : Int) (N : Nat) (cols : List Int) (P : List (List (List Va))) (r : List Va) (hN : 1 ≤ N) (hl : P.length = N) (hP : Held s l N cols P) (hr : errH cols r = 0) :
    Held s l N cols (addH s l N cols P r) ∧ (addH s l N cols P r).length = N ∧ ((addH s l N cols P r).flatten).Perm (P.flatten ++ [r]) := by
  obtain ⟨h0, h1⟩ := partH_range s l (N : Int) (keyH cols r) (by omega)
  obtain ⟨i, hi⟩ := Int.eq_ofNat_of_zero_le h0
  have hiN : i < P.length := by omega
  unfold addH
  rw [hi, Int.toNat_natCast]
  refine ⟨fun j p hp x hx => ?_, by simp [hl], flatten_set_perm P i r hiN⟩
  by_cases e : i = j
  · subst e
    simp [hiN] at hp
    subst hp
    rcases List.mem_append.1 hx with hx | hx
    · exact hP i P[i] (List.getElem?_eq_getElem hiN) x hx
    · simp at hx; subst hx; exact ⟨hr, hi⟩
  · rw [List.getElem?_set_ne e] at hp
    exact hP j p hp x hx
theorem held_fold (s l : Int) (N : Nat) (cols : List Int) (hN : 1 ≤ N) : ∀ (rs : List (List Va)) (P : List (List (List Va))), P.length = N → Held s l N cols P → firstE cols rs = 0 →
    Held s l N cols (rs.foldl (addH s l N cols) P) ∧ (rs.foldl (addH s l N cols) P).length = N ∧ ((rs.foldl (addH s l N cols) P).flatten).Perm (P.flatten ++ rs)
  | [], P, hl, hP, _ => ⟨hP, hl, by simp⟩
  | r :: rs, P, hl, hP, hf => by
    rw [firstE] at hf
    have hr : errH cols r = 0 := by
      by_cases h : errH cols r = 0
      · exact h
      · rw [if_neg h] at hf; exact hf
    rw [if_pos hr] at hf
    obtain ⟨h1, h2, h3⟩ := held_step s l N cols P r hN hl hP hr
    obtain ⟨g1, g2, g3⟩ := held_fold s l N cols hN rs _ h2 h1 hf
    refine ⟨g1, g2, g3.trans ?_⟩
    rw [show P.flatten ++ r :: rs = (P.flatten ++ [r]) ++ rs by simp]
    exact h3.append_right rs
theorem held_split (s l : Int) (N : Nat) (cols : List Int) (rs : List (List Va)) (hN : 1 ≤ N) (hf : firstE cols rs = 0) :
    Held s l N cols (splitH s l N cols rs) ∧ (splitH s l N cols rs).length = N ∧ ((splitH s l N cols rs).flatten).Perm rs := by
  unfold splitH
  rw [Int.toNat_natCast]
  have := held_fold s l N cols hN rs (List.replicate N []) (by simp) (fun i p hp r hr => by
    rw [List.getElem?_replicate] at hp
    split at hp
    · cases hp; cases hr
    · cases hp) hf
  refine ⟨this.1, this.2.1, this.2.2.trans ?_⟩
  have e : (List.replicate N ([] : List (List Va))).flatten = [] := by simp
  rw [e]; simp
theorem errH_zero {cols : List Int} {r : List Va} (h : errH cols r = 0) : badPlace cols r = false ∧ okR (keyH cols r) = true := by
  unfold errH at h
  cases hb : badPlace cols r
  · rw [hb] at h
    refine ⟨rfl, ?_⟩
    cases ho : okR (keyH cols r)
    · rw [ho] at h; simp at h
    · rfl
  · rw [hb] at h; simp at h
theorem flatten_take_succ (P : List (List (List Va))) (j : Nat) (h : j < P.length) : (P.take (j + 1)).flatten = (P.take j).flatten ++ P[j] := by
  rw [List.take_succ_eq_append_getElem h, List.flatten_append]; simp
theorem flatten_take_le (P : List (List (List Va))) (j : Nat) : (P.take j).flatten.length ≤ P.flatten.length := by
  conv => rhs; rw [← List.take_append_drop j P, List.flatten_append, List.length_append]
  omega

theorem PartsAt.rowsA {w : World} {B g : Nat} {vs : List Value} {P : List (List (List Va))} (h : PartsAt w B g vs P) {i : Nat} (hi : i < P.length) :
    ∃ A c, w.cell? ⟨g, i, none⟩ = some (.slice A P[i].length c) ∧ RowsAt w A P[i] ∧ (A = none → c = 0) := by
  obtain ⟨v, hv, hl⟩ := h.lists hi
  have e : P.getD i [] = P[i] := by simp [List.getD, hi]
  rw [e] at hl
  obtain ⟨A, c, rfl, hr, hA⟩ := hl.inB
  exact ⟨A, c, (h.cell i).trans hv, hr.rows, hA⟩
end Go.Proofs.Ytlobgdfmgbedgaa
