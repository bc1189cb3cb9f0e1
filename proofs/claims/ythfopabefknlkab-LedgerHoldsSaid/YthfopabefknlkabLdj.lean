/-
  Package ledger: accounts one under the other, each with a page less.
-/
import Derived.Test.YthfopabefknlkabLdi
namespace Go.Proofs.Ythfopabefknlkab

/-- Accounts 0 to i: each holds one page, but the last one holds none, and has held q at most; bs: their blocks. -/
def upL (g : Int) (bs : Nat → Nat) (i : Nat) (q : Int) : List Ac :=
  (List.range (i + 1)).map fun j => if j = i then ⟨(j : Int), bs j, (j : Int) - 1, g - j, 0, q⟩ else ⟨(j : Int), bs j, (j : Int) - 1, g - j, 1, 1⟩
theorem upL_len (g : Int) (bs : Nat → Nat) (i : Nat) (q : Int) : (upL g bs i q).length = i + 1 := by simp [upL]
theorem find_range {f : Nat → Ac} (hf : ∀ j, (f j).n = (j : Int)) (k n : Nat) (hk : k < n) : acOf ((List.range n).map f) (k : Int) = some (f k) := by
  induction n with
  | zero => omega
  | succ n ih =>
    unfold acOf at ih ⊢
    rw [List.range_succ, List.map_append, List.find?_append]
    by_cases h : k < n
    · rw [ih h]; rfl
    · have : k = n := by omega
      subst this
      have hn : ((List.range k).map f).find? (fun a => a.n == (k : Int)) = none := by
        rw [List.find?_eq_none]
        intro a ha
        obtain ⟨j, hj, rfl⟩ := List.mem_map.1 ha
        have := List.mem_range.1 hj
        rw [hf]
        simp
        omega
      rw [hn]
      simp [hf]
theorem sum_range_none {f : Nat → Int} (n : Nat) (h : ∀ j, j < n → f j = 0) : ((List.range n).map f).sum = 0 := by
  induction n with
  | zero => rfl
  | succ n ih =>
    rw [List.range_succ, List.map_append, List.sum_append, ih (fun j hj => h j (by omega))]
    simp [h n (by omega)]
theorem sum_range_one {f : Nat → Int} (n k : Nat) (v : Int) (hk : k < n) (hv : f k = v) (h : ∀ j, j < n → j ≠ k → f j = 0) : ((List.range n).map f).sum = v := by
  induction n with
  | zero => omega
  | succ n ih =>
    rw [List.range_succ, List.map_append, List.sum_append]
    by_cases e : k = n
    · subst e
      rw [sum_range_none k (fun j hj => h j (by omega) (by omega))]
      simp [hv]
    · rw [ih (by omega) (fun j hj => h j (by omega))]
      simp [h n (by omega) (fun e' => e e'.symm)]
theorem upL_at (g : Int) (bs : Nat → Nat) (i j : Nat) (q : Int) (h : j ≤ i) : acOf (upL g bs i q) (j : Int) = some (if j = i then ⟨(j : Int), bs j, (j : Int) - 1, g - j, 0, q⟩ else ⟨(j : Int), bs j, (j : Int) - 1, g - j, 1, 1⟩) :=
  find_range (f := fun j => if j = i then ⟨(j : Int), bs j, (j : Int) - 1, g - j, 0, q⟩ else ⟨(j : Int), bs j, (j : Int) - 1, g - j, 1, 1⟩) (fun j => by split <;> rfl) j (i + 1) (by omega)
/-- What is granted right under account j. -/
theorem upL_sum (g : Int) (bs : Nat → Nat) (i j : Nat) (q : Int) (h : j < i) : sumN (upL g bs i q) (j : Int) = g - j - 1 := by
  unfold sumN upL
  rw [List.map_map]
  refine sum_range_one (i + 1) (j + 1) _ (by omega) ?_ (fun k _ hne => ?_)
  · simp only [Function.comp_apply]
    split <;> (unfold sumU; rw [if_pos (by show ((j + 1 : Nat) : Int) - 1 = j; omega)]; show g - ((j + 1 : Nat) : Int) = _; omega)
  · simp only [Function.comp_apply]
    split <;> (unfold sumU; rw [if_neg (by show ¬ ((k : Int) - 1 = j); omega)])
theorem upL_sum_last (g : Int) (bs : Nat → Nat) (i : Nat) (q : Int) : sumN (upL g bs i q) (i : Int) = 0 := by
  unfold sumN upL
  rw [List.map_map]
  refine sum_range_none (i + 1) (fun k hk => ?_)
  simp only [Function.comp_apply]
  split <;> (unfold sumU; rw [if_neg (by show ¬ ((k : Int) - 1 = i); omega)])
theorem upL_left_last (g : Int) (bs : Nat → Nat) (i : Nat) (q : Int) : leftOf (upL g bs i q) (i : Int) = g - i := by
  unfold leftOf
  rw [upL_at g bs i i q (Nat.le_refl _), upL_sum_last]
  simp
theorem upL_left (g : Int) (bs : Nat → Nat) (i j : Nat) (q : Int) (h : j < i) : leftOf (upL g bs i q) (j : Int) = 0 := by
  unfold leftOf
  rw [upL_at g bs i j q (by omega), upL_sum g bs i j q h, if_neg (by omega)]
  simp only
  omega
theorem upL_split (g : Int) (bs : Nat → Nat) (i : Nat) (q : Int) : upL g bs i q = ((List.range i).map fun j : Nat => (⟨(j : Int), bs j, (j : Int) - 1, g - j, 1, 1⟩ : Ac)) ++ [⟨(i : Int), bs i, (i : Int) - 1, g - i, 0, q⟩] := by
  unfold upL
  rw [List.range_succ, List.map_append]
  congr 1
  · apply List.map_congr_left
    intro j hj
    have := List.mem_range.1 hj
    rw [if_neg (by omega)]
  · simp
theorem upd_none {n : Int} {f : Ac → Ac} {L : List Ac} (h : ∀ a ∈ L, a.n ≠ n) : updA n f L = L := by
  unfold updA
  exact (List.map_congr_left (g := fun a => a) (fun a ha => if_neg (h a ha))).trans (List.map_id' L)
theorem upd_append (n : Int) (f : Ac → Ac) (L M : List Ac) : updA n f (L ++ M) = updA n f L ++ updA n f M := by simp [updA]
theorem del_append (n : Int) (L M : List Ac) : delA n (L ++ M) = delA n L ++ delA n M := by simp [delA]
theorem del_none {n : Int} {L : List Ac} (h : ∀ a ∈ L, a.n ≠ n) : delA n L = L := by
  unfold delA
  exact List.filter_eq_self.2 (fun a ha => by simpa using h a ha)
theorem row_ne {g : Int} {bs : Nat → Nat} {i : Nat} (k : Nat) (hk : i ≤ k) : ∀ a ∈ (List.range i).map (fun j : Nat => (⟨(j : Int), bs j, (j : Int) - 1, g - j, 1, 1⟩ : Ac)), a.n ≠ (k : Int) := by
  intro a ha
  obtain ⟨j, hj, rfl⟩ := List.mem_map.1 ha
  have := List.mem_range.1 hj
  show (j : Int) ≠ k
  omega
/-- One round up: what Open and Take make of it. -/
theorem upL_up (g : Int) (bs : Nat → Nat) (i b : Nat) : updA (i : Int) (takeA 1) (upL g bs i 0 ++ [⟨((i + 1 : Nat) : Int), b, (i : Int), g - ((i + 1 : Nat) : Int), 0, 0⟩]) = upL g (fun j => if j = i + 1 then b else bs j) (i + 1) 0 := by
  rw [upL_split, upL_split, upd_append, upd_append, upd_none (row_ne i (Nat.le_refl _)), List.range_succ, List.map_append]
  congr 1
  · congr 1
    · apply List.map_congr_left
      intro j hj
      have := List.mem_range.1 hj
      rw [if_neg (by omega)]
    · simp [updA, takeA]
      decide
  · have h1 : ¬ ((i + 1 : Nat) : Int) = (i : Int) := by omega
    simp only [updA, List.map_cons, List.map_nil, if_neg h1, if_true]
    congr 2
    omega
/-- One round down: what Close and Give make of it. -/
theorem upL_down (g : Int) (bs : Nat → Nat) (i : Nat) (q : Int) : updA (i : Int) (giveA 1) (delA ((i + 1 : Nat) : Int) (upL g bs (i + 1) q)) = upL g bs i 1 := by
  rw [upL_split, upL_split, del_append, del_none (row_ne (i + 1) (Nat.le_refl _)), show delA ((i + 1 : Nat) : Int) [⟨((i + 1 : Nat) : Int), bs (i + 1), ((i + 1 : Nat) : Int) - 1, g - ((i + 1 : Nat) : Int), 0, q⟩] = [] by simp [delA], List.append_nil, List.range_succ, List.map_append, upd_append, upd_none (row_ne i (Nat.le_refl _))]
  congr 1
  simp [updA, giveA]
theorem sum_ones (n : Nat) : ((List.range n).map fun _ => (1 : Int)).sum = n := by
  induction n with
  | zero => rfl
  | succ n ih =>
    rw [List.range_succ, List.map_append, List.sum_append, ih]
    simp
theorem upL_held (g : Int) (bs : Nat → Nat) (i : Nat) (q : Int) : heldN (upL g bs i q) = i := by
  unfold heldN
  rw [upL_split, List.map_append, List.sum_append, List.map_map]
  have := sum_ones i
  simp only [List.map_cons, List.map_nil]
  rw [show (Ac.h ∘ fun j : Nat => (⟨(j : Int), bs j, (j : Int) - 1, g - j, 1, 1⟩ : Ac)) = fun _ => (1 : Int) from rfl, this]
  simp
theorem upL_cnt (g : Int) (bs : Nat → Nat) (i j : Nat) (q : Int) (h : j < i) : cntN (upL g bs i q) (j : Int) = 1 := by
  unfold cntN upL
  rw [List.map_map]
  refine sum_range_one (i + 1) (j + 1) _ (by omega) ?_ (fun k _ hne => ?_)
  · simp only [Function.comp_apply]
    split <;> (unfold cntU; rw [if_pos (by show ((j + 1 : Nat) : Int) - 1 = j; omega)])
  · simp only [Function.comp_apply]
    split <;> (unfold cntU; rw [if_neg (by show ¬ ((k : Int) - 1 = j); omega)])
theorem upL_cnt_last (g : Int) (bs : Nat → Nat) (i : Nat) (q : Int) : cntN (upL g bs i q) (i : Int) = 0 := by
  unfold cntN upL
  rw [List.map_map]
  refine sum_range_none (i + 1) (fun k hk => ?_)
  simp only [Function.comp_apply]
  split <;> (unfold cntU; rw [if_neg (by show ¬ ((k : Int) - 1 = i); omega)])
end Go.Proofs.Ythfopabefknlkab
