/-
  Which expressions may be, plainly, level by level: as the program's fold has it.
-/
import Derived.Test.YteckhaicodmakaaGreatDoorEx9
namespace Go.Proofs.YteckhaicodmakaaGreatDoor
open Go.RowKit Go.Shelf

mutual
/-- May it be, so deep, within an aggregate? -/
def goodB : Ex → Nat → Bool → Bool
  | .mk h l, d, ag => decide (d ≤ 32) && !(h.k == 4 && ag) && fitsB h l.length && goodBs l (d + 1) (ag || h.k == 4)
def goodBs : List Ex → Nat → Bool → Bool
  | [], _, _ => true
  | x :: r, d, ag => goodB x d ag && goodBs r d ag
end
mutual
def depX : Ex → Nat
  | .mk _ l => depXs l + 1
def depXs : List Ex → Nat
  | [] => 0
  | x :: r => max (depX x) (depXs r)
end
theorem goodB_mk (h : Hd) (l : List Ex) (d : Nat) (ag : Bool) : goodB (.mk h l) d ag = (decide (d ≤ 32) && !(h.k == 4 && ag) && fitsB h l.length && goodBs l (d + 1) (ag || h.k == 4)) := by rw [goodB]
theorem mstep_go {a s d lv : Nat} {x : Ex} (h : ¬ (s = 512 ∨ 32 < lv ∨ (x.hd.k = 4 ∧ 0 < aggl a lv) ∨ fitsB x.hd x.kids.length = false)) : mstep (some (a, s, d)) (x, lv) = some (if x.hd.k = 4 then lv else aggl a lv, s + 1, max d lv) := by
  rw [mstep, if_neg h]
mutual
theorem fold_yes : ∀ (x : Ex) (lv a s d : Nat), 1 ≤ lv → goodB x lv (decide (0 < aggl a lv)) = true → s + cnt x ≤ 512 →
    ∃ a2, (preo x lv).foldl mstep (some (a, s, d)) = some (a2, s + cnt x, max d (lv + depX x - 1)) ∧ ∀ lv', lv' ≤ lv → aggl a2 lv' = aggl a lv'
  | .mk h l, lv, a, s, d, h1, hg, hs => by
    rw [goodB_mk] at hg
    simp only [Bool.and_eq_true, decide_eq_true_eq, Bool.not_eq_true'] at hg
    obtain ⟨⟨⟨g1, g2⟩, g3⟩, g4⟩ := hg
    rw [cnt_mk] at hs
    have hn : ¬ (s = 512 ∨ 32 < lv ∨ ((Ex.mk h l).hd.k = 4 ∧ 0 < aggl a lv) ∨ fitsB (Ex.mk h l).hd (Ex.mk h l).kids.length = false) := by
      rintro (e | e | ⟨e1, e2⟩ | e)
      · omega
      · omega
      · have e1 : h.k = 4 := e1
        simp [e1, e2] at g2
      · have e : fitsB h l.length = false := e
        rw [g3] at e; cases e
    have ha : decide (0 < aggl a lv) = true → h.k ≠ 4 := fun e e2 => by simp [e2] at g2; rw [decide_eq_true_eq] at e; omega
    obtain ⟨a2, e1, e2⟩ := folds_yes l (lv + 1) (if h.k = 4 then lv else aggl a lv) (s + 1) (max d lv) (by omega) (by omega) (by
      have : (decide (0 < aggl a lv) || h.k == 4) = decide (0 < aggl (if h.k = 4 then lv else aggl a lv) (lv + 1)) := by
        by_cases hk : h.k = 4
        · rw [if_pos hk]
          have : 0 < aggl lv (lv + 1) := by unfold aggl; split <;> omega
          simp [hk, this]
        · rw [if_neg hk]
          have : aggl (aggl a lv) (lv + 1) = aggl a lv := by unfold aggl; repeat' split
                                                             all_goals omega
          rw [this]; simp [hk]
      rw [← this]; exact g4) (by omega)
    refine ⟨a2, ?_, fun lv' hl => ?_⟩
    · rw [preo_mk, List.foldl_cons, mstep_go hn, cnt_mk, depX]
      show List.foldl mstep (some (if h.k = 4 then lv else aggl a lv, s + 1, max d lv)) _ = _
      rw [e1, show s + 1 + cntL l = s + (1 + cntL l) by omega, show max (max d lv) (lv + 1 + depXs l - 1) = max d (lv + (depXs l + 1) - 1) by omega]
    · rw [e2 lv' (by omega)]
      by_cases hk : h.k = 4
      · rw [if_pos hk]
        have : ¬ 0 < aggl a lv := fun e => ha (by simpa using e) hk
        unfold aggl at this ⊢
        split at this
        all_goals repeat' split
        all_goals omega
      · rw [if_neg hk]
        unfold aggl
        repeat' split
        all_goals omega
theorem folds_yes : ∀ (l : List Ex) (lv a s d : Nat), 1 ≤ lv → lv ≤ d + 1 → goodBs l lv (decide (0 < aggl a lv)) = true → s + cntL l ≤ 512 →
    ∃ a2, (preoL l lv).foldl mstep (some (a, s, d)) = some (a2, s + cntL l, max d (lv + depXs l - 1)) ∧ ∀ lv', lv' ≤ lv → aggl a2 lv' = aggl a lv'
  | [], lv, a, s, d, h1, h2, hg, hs => by
    refine ⟨a, ?_, fun _ _ => rfl⟩
    rw [preoL, cntL, depXs, List.foldl_nil, show max d (lv + 0 - 1) = d by omega]; rfl
  | x :: r, lv, a, s, d, h1, h2, hg, hs => by
    rw [goodBs, Bool.and_eq_true] at hg
    rw [cntL] at hs
    obtain ⟨a1, e1, e2⟩ := fold_yes x lv a s d h1 hg.1 (by omega)
    obtain ⟨a2, e3, e4⟩ := folds_yes r lv a1 (s + cnt x) (max d (lv + depX x - 1)) h1 (by omega) (by rw [e2 lv (Nat.le_refl _)]; exact hg.2) (by omega)
    refine ⟨a2, ?_, fun lv' hl => (e4 lv' hl).trans (e2 lv' hl)⟩
    rw [preoL, List.foldl_append, e1, e3, cntL, depXs, show s + cnt x + cntL r = s + (cnt x + cntL r) by omega, show max (max d (lv + depX x - 1)) (lv + depXs r - 1) = max d (lv + max (depX x) (depXs r) - 1) by omega]
end
mutual
theorem fold_no : ∀ (x : Ex) (lv a s d : Nat), 1 ≤ lv → s ≤ 512 → ¬ (goodB x lv (decide (0 < aggl a lv)) = true ∧ s + cnt x ≤ 512) → (preo x lv).foldl mstep (some (a, s, d)) = none
  | .mk h l, lv, a, s, d, h1, hs, hg => by
    rw [preo_mk, List.foldl_cons]
    by_cases hn : s = 512 ∨ 32 < lv ∨ ((Ex.mk h l).hd.k = 4 ∧ 0 < aggl a lv) ∨ fitsB (Ex.mk h l).hd (Ex.mk h l).kids.length = false
    · rw [mstep, if_pos hn, mstep_none]
    · rw [mstep_go hn]
      show List.foldl mstep (some (if h.k = 4 then lv else aggl a lv, s + 1, max d lv)) _ = none
      have n1 : ¬ s = 512 := fun e => hn (.inl e)
      have n2 : ¬ 32 < lv := fun e => hn (.inr (.inl e))
      have n3 : ¬ (h.k = 4 ∧ 0 < aggl a lv) := fun e => hn (.inr (.inr (.inl e)))
      have n4 : fitsB h l.length = true := by
        cases hf : fitsB h l.length with
        | true => rfl
        | false => exact absurd (.inr (.inr (.inr hf))) hn
      refine folds_no l (lv + 1) _ (s + 1) (max d lv) (by omega) (by omega) (by omega) fun ⟨e1, e2⟩ => hg ⟨?_, by rw [cnt_mk]; omega⟩
      rw [goodB_mk]
      have : (decide (0 < aggl a lv) || h.k == 4) = decide (0 < aggl (if h.k = 4 then lv else aggl a lv) (lv + 1)) := by
        by_cases hk : h.k = 4
        · rw [if_pos hk]
          have : 0 < aggl lv (lv + 1) := by unfold aggl; split <;> omega
          simp [hk, this]
        · rw [if_neg hk]
          have : aggl (aggl a lv) (lv + 1) = aggl a lv := by unfold aggl; repeat' split
                                                             all_goals omega
          rw [this]; simp [hk]
      rw [this, e1, n4]
      have h3 : (h.k == 4 && decide (0 < aggl a lv)) = false := by
        cases hk : (h.k == 4 && decide (0 < aggl a lv)) with
        | false => rfl
        | true => exact absurd (by simpa using hk) n3
      rw [h3]
      simp; omega
theorem folds_no : ∀ (l : List Ex) (lv a s d : Nat), 1 ≤ lv → lv ≤ d + 1 → s ≤ 512 → ¬ (goodBs l lv (decide (0 < aggl a lv)) = true ∧ s + cntL l ≤ 512) → (preoL l lv).foldl mstep (some (a, s, d)) = none
  | [], lv, a, s, d, h1, h2, hs, hg => by
    exfalso
    exact hg ⟨by rw [goodBs], by rw [cntL]; omega⟩
  | x :: r, lv, a, s, d, h1, h2, hs, hg => by
    rw [preoL, List.foldl_append]
    by_cases hx : goodB x lv (decide (0 < aggl a lv)) = true ∧ s + cnt x ≤ 512
    · obtain ⟨a1, e1, e2⟩ := fold_yes x lv a s d h1 hx.1 hx.2
      rw [e1]
      refine folds_no r lv a1 (s + cnt x) (max d (lv + depX x - 1)) h1 (by omega) hx.2 fun ⟨g1, g2⟩ => hg ⟨?_, by rw [cntL]; omega⟩
      rw [e2 lv (Nat.le_refl _)] at g1
      rw [goodBs, hx.1, g1]; rfl
    · rw [fold_no x lv a s d h1 hs hx, mstep_none]
end
/-- May it be at all? -/
def okX (x : Ex) : Bool := goodB x 1 false && decide (cnt x ≤ 512)
theorem meas_eq (x : Ex) : measO x = if okX x = true then some (cnt x, depX x) else none := by
  have ha : decide (0 < aggl 0 1) = false := by decide
  unfold measO msr
  cases ho : okX x with
  | true =>
    have : goodB x 1 false = true ∧ cnt x ≤ 512 := by simpa [okX] using ho
    obtain ⟨a2, e, _⟩ := fold_yes x 1 0 0 0 (Nat.le_refl _) (by rw [ha]; exact this.1) (by omega)
    rw [e, show 0 + cnt x = cnt x by omega, show max 0 (1 + depX x - 1) = depX x by omega]; rfl
  | false =>
    rw [fold_no x 1 0 0 0 (Nat.le_refl _) (by omega) (by
      rw [ha]
      rintro ⟨e1, e2⟩
      have : okX x = true := by rw [okX, e1]; simp; omega
      rw [ho] at this; cases this)]
    rfl
theorem meas_some (x : Ex) : (measO x).isSome = okX x := by rw [meas_eq]; cases okX x <;> rfl
mutual
theorem good_fit : ∀ (x : Ex) (d : Nat) (ag : Bool), goodB x d ag = true → FitX x
  | .mk h l, d, ag, hg => by
    rw [goodB_mk] at hg
    simp only [Bool.and_eq_true] at hg
    rw [FitX]
    exact ⟨hg.1.2, goods_fit l _ _ hg.2⟩
theorem goods_fit : ∀ (l : List Ex) (d : Nat) (ag : Bool), goodBs l d ag = true → FitXs l
  | [], _, _, _ => by rw [FitXs]; trivial
  | x :: r, d, ag, hg => by
    rw [goodBs, Bool.and_eq_true] at hg
    rw [FitXs]
    exact ⟨good_fit x d ag hg.1, goods_fit r d ag hg.2⟩
end
theorem ok_fit {x : Ex} (h : okX x = true) : FitX x ∧ cnt x ≤ 512 := by
  have : goodB x 1 false = true ∧ cnt x ≤ 512 := by simpa [okX] using h
  exact ⟨good_fit x 1 false this.1, this.2⟩
theorem goodBs_take {l : List Ex} {k : Nat} {x : Ex} (h : l[k]? = some x) (d : Nat) (ag : Bool) : goodBs (l.take (k + 1)) d ag = (goodBs (l.take k) d ag && goodB x d ag) := by
  induction l generalizing k with
  | nil => simp at h
  | cons y r ih =>
    cases k with
    | zero =>
      obtain rfl : y = x := by simpa using h
      simp [goodBs]
    | succ k =>
      rw [List.take_succ_cons, List.take_succ_cons, goodBs, goodBs, ih (by simpa using h), Bool.and_assoc]
theorem goodBs_no {l : List Ex} {k : Nat} {d : Nat} {ag : Bool} (h : goodBs (l.take k) d ag = false) : goodBs l d ag = false := by
  induction l generalizing k with
  | nil => simp [goodBs] at h
  | cons y r ih =>
    cases k with
    | zero => simp [goodBs] at h
    | succ k =>
      rw [List.take_succ_cons, goodBs] at h
      rw [goodBs]
      cases hy : goodB y d ag with
      | false => rfl
      | true => rw [hy, Bool.true_and] at h; rw [ih h]; rfl
theorem cntL_take {l : List Ex} {k : Nat} {x : Ex} (h : l[k]? = some x) : cntL (l.take (k + 1)) = cntL (l.take k) + cnt x := by
  induction l generalizing k with
  | nil => simp at h
  | cons y r ih =>
    cases k with
    | zero =>
      obtain rfl : y = x := by simpa using h
      simp [cntL]
    | succ k => rw [List.take_succ_cons, List.take_succ_cons, cntL, cntL, ih (by simpa using h)]; omega
theorem cntL_take_le (l : List Ex) (k : Nat) : cntL (l.take k) ≤ cntL l := by
  induction l generalizing k with
  | nil => simp
  | cons y r ih =>
    cases k with
    | zero => simp [cntL]
    | succ k => rw [List.take_succ_cons, cntL, cntL]; have := ih k; omega
theorem depXs_take {l : List Ex} {k : Nat} {x : Ex} (h : l[k]? = some x) : depXs (l.take (k + 1)) = max (depXs (l.take k)) (depX x) := by
  induction l generalizing k with
  | nil => simp at h
  | cons y r ih =>
    cases k with
    | zero =>
      obtain rfl : y = x := by simpa using h
      simp [depXs]
    | succ k => rw [List.take_succ_cons, List.take_succ_cons, depXs, depXs, ih (by simpa using h)]; omega
mutual
theorem depX_le : ∀ x : Ex, depX x ≤ cnt x
  | .mk h l => by rw [depX, cnt]; have := depXs_le l; omega
theorem depXs_le : ∀ l : List Ex, depXs l ≤ cntL l
  | [] => by rw [depXs]; omega
  | x :: r => by rw [depXs, cntL]; have := depX_le x; have := depXs_le r; omega
end
/-! What stands in an expression. -/
mutual
def errsX : Ex → Bool
  | .mk h l => errB h || errsXs l
def errsXs : List Ex → Bool
  | [] => false
  | x :: r => errsX x || errsXs r
end
mutual
theorem errs_preo : ∀ (x : Ex) (d : Nat), (preo x d).all (fun y => !errB y.1.hd) = !errsX x
  | .mk h l, d => by rw [preo_mk, List.all_cons, errs_preoL l (d + 1), errsX]; simp [Ex.hd]
theorem errs_preoL : ∀ (l : List Ex) (d : Nat), (preoL l d).all (fun y => !errB y.1.hd) = !errsXs l
  | [], d => by rw [preoL, errsXs]; rfl
  | x :: r, d => by rw [preoL, List.all_append, errs_preo x d, errs_preoL r d, errsXs]; simp
end
theorem errsXs_take {l : List Ex} {k : Nat} {x : Ex} (h : l[k]? = some x) : errsXs (l.take (k + 1)) = (errsXs (l.take k) || errsX x) := by
  induction l generalizing k with
  | nil => simp at h
  | cons y r ih =>
    cases k with
    | zero =>
      obtain rfl : y = x := by simpa using h
      simp [errsXs]
    | succ k => rw [List.take_succ_cons, List.take_succ_cons, errsXs, errsXs, ih (by simpa using h), Bool.or_assoc]
theorem errsXs_yes {l : List Ex} {k : Nat} (h : errsXs (l.take k) = true) : errsXs l = true := by
  induction l generalizing k with
  | nil => simp [errsXs] at h
  | cons y r ih =>
    cases k with
    | zero => simp [errsXs] at h
    | succ k =>
      rw [List.take_succ_cons, errsXs] at h
      rw [errsXs]
      cases hy : errsX y with
      | true => rfl
      | false => rw [hy, Bool.false_or] at h; rw [ih h]; rfl
mutual
/-- Those of a kind. -/
def kndX (k : Int) : Ex → List Ex
  | .mk h l => (if h.k = k then [.mk h l] else []) ++ kndXs k l
def kndXs (k : Int) : List Ex → List Ex
  | [] => []
  | x :: r => kndX k x ++ kndXs k r
end
mutual
theorem knd_preo (k : Int) : ∀ (x : Ex) (d : Nat), ((preo x d).map (·.1)).filter (fun y => y.hd.k == k) = kndX k x
  | .mk h l, d => by
    rw [preo_mk, List.map_cons, List.filter_cons, knd_preoL k l (d + 1), kndX]
    by_cases hk : h.k = k
    · simp [Ex.hd, hk]
    · simp [Ex.hd, hk]
theorem knd_preoL (k : Int) : ∀ (l : List Ex) (d : Nat), ((preoL l d).map (·.1)).filter (fun y => y.hd.k == k) = kndXs k l
  | [], d => by rw [preoL, kndXs]; rfl
  | x :: r, d => by rw [preoL, List.map_append, List.filter_append, knd_preo k x d, knd_preoL k r d, kndXs]
end
theorem kndXs_take (c : Int) {l : List Ex} {k : Nat} {x : Ex} (h : l[k]? = some x) : kndXs c (l.take (k + 1)) = kndXs c (l.take k) ++ kndX c x := by
  induction l generalizing k with
  | nil => simp at h
  | cons y r ih =>
    cases k with
    | zero =>
      obtain rfl : y = x := by simpa using h
      simp [kndXs]
    | succ k => rw [List.take_succ_cons, List.take_succ_cons, kndXs, kndXs, ih (by simpa using h), List.append_assoc]
mutual
/-- The parts of an OpAnd. -/
def prtX : Ex → List Ex
  | .mk h l => if h.k = 3 ∧ h.n = 2 then (prtXs l).getD 0 [] ++ (prtXs l).getD 1 [] else [.mk h l]
def prtXs : List Ex → List (List Ex)
  | [] => []
  | x :: r => prtX x :: prtXs r
end
end Go.Proofs.YteckhaicodmakaaGreatDoor
