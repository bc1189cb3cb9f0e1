/-
  Package ledger: the calls that LedgerNests makes.
-/
import Derived.Test.YthfopabefknlkabLdj
namespace Go.Proofs.Ythfopabefknlkab
open Go.RowKit Go.Maps Go.Sort

theorem acOf_app (L M : List Ac) (n : Int) : acOf (L ++ M) n = (acOf L n).or (acOf M n) := by unfold acOf; rw [List.find?_append]
theorem sumN_app (L M : List Ac) (n : Int) : sumN (L ++ M) n = sumN L n + sumN M n := by simp [sumN]
def midL (g : Int) (bs : Nat → Nat) (i b : Nat) : List Ac := upL g bs i 0 ++ [⟨((i + 1 : Nat) : Int), b, (i : Int), g - ((i + 1 : Nat) : Int), 0, 0⟩]
theorem mid_at (g : Int) (bs : Nat → Nat) (i b : Nat) : acOf (midL g bs i b) (i : Int) = some ⟨(i : Int), bs i, (i : Int) - 1, g - i, 0, 0⟩ := by
  unfold midL
  rw [acOf_app, upL_at g bs i i 0 (Nat.le_refl _), if_pos rfl]
  rfl
theorem mid_left (g : Int) (bs : Nat → Nat) (i b : Nat) : leftOf (midL g bs i b) (i : Int) = 1 := by
  unfold leftOf
  rw [mid_at]
  unfold midL
  rw [sumN_app, upL_sum_last]
  simp [sumN, sumU]
  omega
theorem wf_small {n : Int} (h0 : -1000000 ≤ n) (h1 : n ≤ 1000000) : (Lit.int .i64 n).wf = true := wf_of (by omega) (by omega)
theorem nest_open {B l m i : Nat} {bs : Nat → Nat} {g : Int} {w : World} (c : Int) (hc : c = i + 1) (h : Led B w l m (upL g bs i 0) i i) (hi : c ≤ g) (hg : g ≤ 200) :
    Calls Try.prog 10 #[.pointer (some ⟨l, 0, none⟩), .int .i64 (c - 1), .int .i64 (g - c)] w fun e w' => e = .returned (.tuple #[.int .i64 c, .int .i64 0]) ∧ (∃ b, Led B w' l m (midL g bs i b) c i) ∧ Below B w w' := by
  subst hc
  have e1 : (i : Int) + 1 - 1 = i := by omega
  rw [e1]
  refine (open_anyL B l m _ i i i (g - (i + 1)) w h (wf_small (by omega) (by omega)) (fun a ha => ?_) (by omega) (by omega)).mono ?_
  · obtain ⟨j, hj, rfl⟩ := List.mem_map.1 ha
    have := List.mem_range.1 hj
    split <;> (show (j : Int) ≤ i; omega)
  rintro e w' ⟨hb, h⟩
  rw [if_neg (by omega), upL_at g bs i i 0 (Nat.le_refl _), upL_left_last, upL_len] at h
  simp only at h
  rw [if_neg (by omega), if_neg (by omega)] at h
  exact ⟨h.1, h.2, hb⟩
theorem nest_take2 {B l m i b : Nat} {bs : Nat → Nat} {g last most : Int} {w : World} (c : Int) (hc : c = i + 1) (h : Led B w l m (midL g bs i b) last most) (h2 : c ≤ 1000) :
    Calls Try.prog 12 #[.pointer (some ⟨l, 0, none⟩), .int .i64 (c - 1), .int .i64 2] w fun e w' => e = .returned (.int .i64 60) ∧ Led B w' l m (midL g bs i b) last most ∧ Below B w w' := by
  subst hc
  have e1 : (i : Int) + 1 - 1 = i := by omega
  rw [e1]
  refine (take_any B l m _ last most i 2 w h (wf_small (by omega) (by omega))).mono ?_
  rintro e w' ⟨hb, h⟩
  rw [if_neg (by omega), mid_at, mid_left] at h
  simp only at h
  rw [if_pos (by omega)] at h
  exact ⟨h.1, h.2, hb⟩
theorem nest_take1 {B l m i b : Nat} {bs : Nat → Nat} {g : Int} {w : World} (c : Int) (hc : c = i + 1) (h : Led B w l m (midL g bs i b) c i) (h2 : c ≤ 1000) :
    Calls Try.prog 12 #[.pointer (some ⟨l, 0, none⟩), .int .i64 (c - 1), .int .i64 1] w fun e w' => e = .returned (.int .i64 0) ∧ (∃ bs', Led B w' l m (upL g bs' (i + 1) 0) ((i + 1 : Nat) : Int) ((i + 1 : Nat) : Int)) ∧ Below B w w' := by
  subst hc
  have e1 : (i : Int) + 1 - 1 = i := by omega
  rw [e1]
  refine (take_any B l m _ _ i i 1 w h (wf_small (by omega) (by omega))).mono ?_
  rintro e w' ⟨hb, h⟩
  rw [if_neg (by omega), mid_at, mid_left] at h
  simp only at h
  rw [if_neg (by omega)] at h
  unfold midL at h
  rw [upL_up, upL_held] at h
  have e2 : max (i : Int) ((i + 1 : Nat) : Int) = ((i + 1 : Nat) : Int) := by omega
  rw [e2] at h
  exact ⟨h.1, ⟨_, h.2⟩, hb⟩
theorem nest_close0 {B l m i : Nat} {bs : Nat → Nat} {g q last most : Int} {w : World} (h : Led B w l m (upL g bs i q) last most) :
    Calls Try.prog 11 #[.pointer (some ⟨l, 0, none⟩), .int .i64 0] w fun e w' => e = .returned (.int .i64 1) ∧ Led B w' l m (upL g bs i q) last most ∧ Below B w w' := by
  refine (close_any B l m _ last most 0 w h (by decide)).mono ?_
  rintro e w' ⟨hb, h⟩
  rw [show (0 : Int) = ((0 : Nat) : Int) from rfl, upL_at g bs i 0 q (Nat.zero_le _)] at h
  simp only at h
  rw [if_pos (by simp)] at h
  exact ⟨h.1, h.2, hb⟩
theorem nest_close1 {B l m i : Nat} {bs : Nat → Nat} {g q last most : Int} {w : World} (c : Int) (hc : c = i + 1) (h : Led B w l m (upL g bs (i + 1) q) last most) (h2 : c ≤ 1000) :
    Calls Try.prog 11 #[.pointer (some ⟨l, 0, none⟩), .int .i64 (c - 1)] w fun e w' => e = .returned (.int .i64 1) ∧ Led B w' l m (upL g bs (i + 1) q) last most ∧ Below B w w' := by
  subst hc
  have e1 : (i : Int) + 1 - 1 = i := by omega
  rw [e1]
  refine (close_any B l m _ last most i w h (wf_small (by omega) (by omega))).mono ?_
  rintro e w' ⟨hb, h⟩
  rw [upL_at g bs (i + 1) i q (by omega), if_neg (by omega)] at h
  simp only at h
  rw [if_pos (.inr (.inl (by omega)))] at h
  exact ⟨h.1, h.2, hb⟩
def rowL (g : Int) (bs : Nat → Nat) (i : Nat) : List Ac := (List.range i).map fun j : Nat => (⟨(j : Int), bs j, (j : Int) - 1, g - j, 1, 1⟩ : Ac)
theorem del_row (g : Int) (bs : Nat → Nat) (i : Nat) (q : Int) : delA (i : Int) (upL g bs i q) = rowL g bs i := by
  rw [upL_split, del_append, del_none (row_ne i (Nat.le_refl _))]
  simp [delA, rowL]
theorem nest_close2 {B l m i : Nat} {bs : Nat → Nat} {g q last most : Int} {w : World} (c : Int) (hc : c = i + 1) (h : Led B w l m (upL g bs (i + 1) q) last most) (h2 : c ≤ 1000) :
    Calls Try.prog 11 #[.pointer (some ⟨l, 0, none⟩), .int .i64 c] w fun e w' => e = .returned (.int .i64 0) ∧ Led B w' l m (rowL g bs (i + 1)) last most ∧ Below B w w' := by
  have hc : c = ((i + 1 : Nat) : Int) := by omega
  subst hc
  refine (close_any B l m _ last most _ w h (wf_small (by omega) (by omega))).mono ?_
  rintro e w' ⟨hb, h⟩
  rw [upL_at g bs (i + 1) (i + 1) q (Nat.le_refl _), if_pos rfl, upL_cnt_last, del_row] at h
  simp only at h
  rw [if_neg (by omega)] at h
  exact ⟨h.1, h.2, hb⟩
theorem nest_give {B l m i : Nat} {bs : Nat → Nat} {g last most : Int} {w : World} (c : Int) (hc : c = i + 1) (h : Led B w l m (rowL g bs (i + 1)) last most) (h2 : c ≤ 1000) :
    Calls Try.prog 13 #[.pointer (some ⟨l, 0, none⟩), .int .i64 (c - 1), .int .i64 1] w fun e w' => e = .returned (.int .i64 0) ∧ Led B w' l m (upL g bs i 1) last most ∧ Below B w w' := by
  subst hc
  have e1 : (i : Int) + 1 - 1 = i := by omega
  rw [e1]
  refine (give_any B l m _ last most i 1 w h (wf_small (by omega) (by omega))).mono ?_
  rintro e w' ⟨hb, h⟩
  have ha : acOf (rowL g bs (i + 1)) (i : Int) = some ⟨(i : Int), bs i, (i : Int) - 1, g - i, 1, 1⟩ := find_range (f := fun j : Nat => (⟨(j : Int), bs j, (j : Int) - 1, g - j, 1, 1⟩ : Ac)) (fun _ => rfl) i (i + 1) (by omega)
  rw [ha] at h
  simp only at h
  rw [if_neg (by omega), ← del_row g bs (i + 1) 0, upL_down] at h
  exact ⟨h.1, h.2, hb⟩
end Go.Proofs.Ythfopabefknlkab
