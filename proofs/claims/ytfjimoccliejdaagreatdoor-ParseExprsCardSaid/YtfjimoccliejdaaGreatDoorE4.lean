/-
  The library's Grow and Concat over expressions; parts, Parts.
-/
import Derived.Test.YtfjimoccliejdaaGreatDoorE3
import Derived.Deep.RegionHeld3
import Derived.Maps.AppendAt
import Derived.BigRegion
section
namespace Go.Proofs.YtfjimoccliejdaaGreatDoor
open Go.RowKit Go.Shelf

def btw : List (List UInt8) := [[], [79, 82], [65, 78, 68], [], [61], [60, 62], [60], [60, 61], [62], [62, 61], [43], [45], [42], [47], [37]]
def opX (n : Int) (f s : List UInt8) : List UInt8 :=
 if n = 3 then [78, 79, 84, 32] ++ f else if n = 15 then [45, 32] ++ f else if n = 16 then f ++ [32, 73, 83, 32, 78, 85, 76, 76] else if n = 17 then f ++ [32, 73, 83, 32, 78, 79, 84, 32, 78, 85, 76, 76]
 else f ++ [32] ++ btw.getD n.toNat [] ++ [32] ++ s
def aggX (n : Int) (f : List UInt8) : List UInt8 :=
 if n = 2 then [67, 79, 85, 78, 84, 40] ++ f ++ [41] else if n = 3 then [83, 85, 77, 40] ++ f ++ [41] else if n = 4 then [77, 73, 78, 40] ++ f ++ [41] else if n = 5 then [77, 65, 88, 40] ++ f ++ [41]
 else [67, 79, 85, 78, 84, 40, 42, 41]
def colX (t c : ByteArray) : List UInt8 := if t.toList.isEmpty then c.data.toList else t.data.toList ++ [46] ++ c.data.toList
mutual
def shwX : Ex → List UInt8
 | .mk h l =>
  if h.k = 1 then showL h.vk h.vn h.vs
  else if h.k = 2 then colX h.tab h.col
  else if h.k = 4 then aggX h.n ((shwXs l).getD 0 [])
  else [40] ++ opX h.n ((shwXs l).getD 0 []) ((shwXs l).getD 1 []) ++ [41]
def shwXs : List Ex → List (List UInt8)
 | [] => []
 | x :: r => shwX x :: shwXs r
end
mutual
def FitX : Ex → Prop
 | .mk h l => fitsB h l.length = true ∧ FitXs l
def FitXs : List Ex → Prop
 | [] => True
 | x :: r => FitX x ∧ FitXs r
end
theorem FitXs.at : ∀ {l : List Ex}, FitXs l → ∀ {i : Nat} {x : Ex}, l[i]? = some x → FitX x
 | [], _, i, x, h => by simp at h
 | y :: r, H, 0, x, h => by
  obtain rfl : y = x := by simpa using h
  rw [FitXs] at H; exact H.1
 | y :: r, H, i + 1, x, h => by
  rw [FitXs] at H; exact FitXs.at H.2 (i := i) (by simpa using h)
theorem dec_lenE : ∀ u : Nat, (Lib.decDigits u).length ≤ u + 1 := by
 intro u
 induction u using Nat.strongRecOn with
 | _ u ih =>
  by_cases h : u < 10
  ·rw [Lib.decDigits, dif_pos h]; simp
  ·rw [Lib.decDigits, dif_neg h]
   have := ih (u / 10) (by omega)
   simp; omega
theorem itoa_lenE (n : Int) : (Lib.itoa n).length ≤ n.natAbs + 2 := by
 have h1 := dec_lenE n.toNat
 have h2 := dec_lenE n.natAbs
 unfold Lib.itoa
 split
 all_goals
  simp
  try omega
theorem showL_len (k n : Int) (s : ByteArray) : (showL k n s).length ≤ 9007199254741000 := by
 unfold showL
 split
 ·rename_i ho
  split
  ·split <;> simp
  ·rename_i h1
   split
   ·rename_i h2
    subst h2
    have hb : -9007199254740991 ≤ n ∧ n ≤ 9007199254740991 := by simp [okV] at ho; exact ho.1
    have := itoa_lenE n
    omega
   ·rename_i h2
    split
    ·rename_i h3
     subst h3
     have h64 : s.size ≤ 64 := by simp [okV] at ho; exact ho.2
     have hd := dbl_le s.data.toList
     have hsz : s.data.toList.length = s.size := by simp
     simp; omega
    ·simp
 ·simp
theorem btw_len (n : Nat) : (btw.getD n []).length ≤ 3 := by
 by_cases h : n < 15
 ·have : ∀ k : Fin 15, (btw.getD k.1 []).length ≤ 3 := by decide +kernel
  exact this ⟨n, h⟩
 ·rw [List.getD_eq_getElem?_getD, List.getElem?_eq_none (by simp [btw]; omega)]; simp
theorem opX_len (n : Int) (f s : List UInt8) : (opX n f s).length ≤ f.length + s.length + 13 := by
 have := btw_len n.toNat
 unfold opX
 repeat' split
 all_goals
  simp only [List.length_append, List.length_cons, List.length_nil]
  omega
theorem aggX_len (n : Int) (f : List UInt8) : (aggX n f).length ≤ f.length + 8 := by
 unfold aggX
 repeat' split
 all_goals simp
mutual
theorem shwX_len : ∀ x : Ex, AllSm x → (shwX x).length ≤ 9007199254742000 * cnt x
 | .mk h l, H => by
  rw [AllSm] at H
  obtain ⟨h1, h2⟩ := shwXs_len l H.2
  have hl := showL_len h.vk h.vn h.vs
  have ht := H.1.t
  have hc := H.1.c
  have ho := opX_len h.n ((shwXs l).getD 0 []) ((shwXs l).getD 1 [])
  have ha := aggX_len h.n ((shwXs l).getD 0 [])
  have hcx : (colX h.tab h.col).length ≤ 401 := by
   unfold colX; split
   ·simp; omega
   ·simp; omega
  rw [shwX, cnt_mk]
  repeat' split
  ·omega
  ·omega
  ·omega
  ·simp only [List.length_append, List.length_singleton]; omega
theorem shwXs_len : ∀ l : List Ex, AllSmL l → ((shwXs l).getD 0 []).length + ((shwXs l).getD 1 []).length ≤ 9007199254742000 * cntL l ∧ ((shwXs l).getD 0 []).length ≤ 9007199254742000 * cntL l
 | [], _ => by simp [shwXs]
 | [x], H => by
  rw [AllSmL] at H
  have := shwX_len x H.1
  simp only [shwXs, cntL, List.getD_cons_zero, List.getD_cons_succ, List.getD_nil, List.length_nil]
  omega
 | x :: y :: r, H => by
  rw [AllSmL, AllSmL] at H
  have h1 := shwX_len x H.1
  have h2 := shwX_len y H.2.1
  simp only [shwXs, cntL, List.getD_cons_zero, List.getD_cons_succ]
  omega
end
end Go.Proofs.YtfjimoccliejdaaGreatDoor
end
section
namespace Go.Proofs.YtfjimoccliejdaaGreatDoor
open Go.RowKit Go.Shelf

theorem XsAt.one {n : Nat} {w : World} {x : Ex} {r : List Ex} {A : Option Addr} (H : XsAt n w (x :: r) A) : ∃ g o A' cap, A = some ⟨g, o, none⟩ ∧ g < n ∧ XC w g o x.hd A' x.kids.length cap ∧ x.kids.length ≤ cap ∧ XsAt n w x.kids A' := by
 obtain ⟨h, l⟩ := x
 obtain ⟨g, o, A', cap, e, hg, hc, hl, hx⟩ := H.at (i := 0) rfl
 exact ⟨g, o, A', cap, e, hg, by rw [Nat.zero_mul, Nat.add_zero] at hc; exact hc, hl, hx⟩
theorem XsAt.two {n : Nat} {w : World} {x y : Ex} {r : List Ex} {g o : Nat} (H : XsAt n w (x :: y :: r) (some ⟨g, o, none⟩)) : ∃ A' cap, XC w g (o + 8) y.hd A' y.kids.length cap ∧ y.kids.length ≤ cap ∧ XsAt n w y.kids A' := by
 obtain ⟨h, l⟩ := y
 obtain ⟨g', o', A', cap, e, hg, hc, hl, hx⟩ := H.at (i := 1) rfl
 simp only [Option.some.injEq, Addr.mk.injEq] at e
 obtain ⟨rfl, rfl, _⟩ := e
 exact ⟨A', cap, by rw [Nat.one_mul] at hc; exact hc, hl, hx⟩
theorem len2 : ∀ {l : List Ex}, l.length = 2 → ∃ x y, l = [x, y]
 | [], h => by simp at h
 | [_], h => by simp at h
 | [x, y], _ => ⟨x, y, rfl⟩
 | _ :: _ :: _ :: _, h => by simp at h
end Go.Proofs.YtfjimoccliejdaaGreatDoor
end
section
namespace Go.Proofs.YtfjimoccliejdaaGreatDoor
open Go.RowKit Go.Shelf

mutual
def goodB : Ex → Nat → Bool → Bool
 | .mk h l, d, ag => decide (d ≤ 32) && !(h.k == 4 && ag) && fitsB h l.length && goodBs l (d + 1) (ag || h.k == 4)
def goodBs : List Ex → Nat → Bool → Bool
 | [], _, _ => true
 | x :: r, d, ag => goodB x d ag && goodBs r d ag
end
mutual
def depX : Ex → Nat
 | .mk _ l => depXs l + 1
def depXs : List Ex → Nat
 | [] => 0
 | x :: r => max (depX x) (depXs r)
end
theorem goodB_mk (h : Hd) (l : List Ex) (d : Nat) (ag : Bool) : goodB (.mk h l) d ag = (decide (d ≤ 32) && !(h.k == 4 && ag) && fitsB h l.length && goodBs l (d + 1) (ag || h.k == 4)) := by rw [goodB]
theorem mstep_go {a s d lv : Nat} {x : Ex} (h : ¬ (s = 512 ∨ 32 < lv ∨ (x.hd.k = 4 ∧ 0 < aggl a lv) ∨ fitsB x.hd x.kids.length = false)) : mstep (some (a, s, d)) (x, lv) = some (if x.hd.k = 4 then lv else aggl a lv, s + 1, max d lv) := by
 rw [mstep, if_neg h]
mutual
theorem fold_yes : ∀ (x : Ex) (lv a s d : Nat), 1 ≤ lv → goodB x lv (decide (0 < aggl a lv)) = true → s + cnt x ≤ 512 →
    ∃ a2, (preo x lv).foldl mstep (some (a, s, d)) = some (a2, s + cnt x, max d (lv + depX x - 1)) ∧ ∀ lv', lv' ≤ lv → aggl a2 lv' = aggl a lv'
  | .mk h l, lv, a, s, d, h1, hg, hs => by
    rw [goodB_mk] at hg
    simp only [Bool.and_eq_true, decide_eq_true_eq, Bool.not_eq_true'] at hg
    obtain ⟨⟨⟨g1, g2⟩, g3⟩, g4⟩ := hg
    rw [cnt_mk] at hs
    have hn : ¬ (s = 512 ∨ 32 < lv ∨ ((Ex.mk h l).hd.k = 4 ∧ 0 < aggl a lv) ∨ fitsB (Ex.mk h l).hd (Ex.mk h l).kids.length = false) := by
      rintro (e | e | ⟨e1, e2⟩ | e)
      · omega
      · omega
      · have e1 : h.k = 4 := e1
        simp [e1, e2] at g2
      · have e : fitsB h l.length = false := e
        rw [g3] at e; cases e
    have ha : decide (0 < aggl a lv) = true → h.k ≠ 4 := fun e e2 => by simp [e2] at g2; rw [decide_eq_true_eq] at e; omega
    obtain ⟨a2, e1, e2⟩ := folds_yes l (lv + 1) (if h.k = 4 then lv else aggl a lv) (s + 1) (max d lv) (by omega) (by omega) (by
      have : (decide (0 < aggl a lv) || h.k == 4) = decide (0 < aggl (if h.k = 4 then lv else aggl a lv) (lv + 1)) := by
        by_cases hk : h.k = 4
        · rw [if_pos hk]
          have : 0 < aggl lv (lv + 1) := by unfold aggl; split <;> omega
          simp [hk, this]
        · rw [if_neg hk]
          have : aggl (aggl a lv) (lv + 1) = aggl a lv := by unfold aggl; repeat' split
                                                             all_goals omega
          rw [this]; simp [hk]
      rw [← this]; exact g4) (by omega)
    refine ⟨a2, ?_, fun lv' hl => ?_⟩
    · rw [preo_mk, List.foldl_cons, mstep_go hn, cnt_mk, depX]
      show List.foldl mstep (some (if h.k = 4 then lv else aggl a lv, s + 1, max d lv)) _ = _
      rw [e1, show s + 1 + cntL l = s + (1 + cntL l) by omega, show max (max d lv) (lv + 1 + depXs l - 1) = max d (lv + (depXs l + 1) - 1) by omega]
    · rw [e2 lv' (by omega)]
      by_cases hk : h.k = 4
      · rw [if_pos hk]
        have : ¬ 0 < aggl a lv := fun e => ha (by simpa using e) hk
        unfold aggl at this ⊢
        split at this
        all_goals repeat' split
        all_goals omega
      · rw [if_neg hk]
        unfold aggl
        repeat' split
        all_goals omega
theorem folds_yes : ∀ (l : List Ex) (lv a s d : Nat), 1 ≤ lv → lv ≤ d + 1 → goodBs l lv (decide (0 < aggl a lv)) = true → s + cntL l ≤ 512 →
  ∃ a2, (preoL l lv).foldl mstep (some (a, s, d)) = some (a2, s + cntL l, max d (lv + depXs l - 1)) ∧ ∀ lv', lv' ≤ lv → aggl a2 lv' = aggl a lv'
 | [], lv, a, s, d, h1, h2, hg, hs => by
  refine ⟨a, ?_, fun _ _ => rfl⟩
  rw [preoL, cntL, depXs, List.foldl_nil, show max d (lv + 0 - 1) = d by omega]; rfl
 | x :: r, lv, a, s, d, h1, h2, hg, hs => by
  rw [goodBs, Bool.and_eq_true] at hg
  rw [cntL] at hs
  obtain ⟨a1, e1, e2⟩ := fold_yes x lv a s d h1 hg.1 (by omega)
  obtain ⟨a2, e3, e4⟩ := folds_yes r lv a1 (s + cnt x) (max d (lv + depX x - 1)) h1 (by omega) (by rw [e2 lv (Nat.le_refl _)]; exact hg.2) (by omega)
  refine ⟨a2, ?_, fun lv' hl => (e4 lv' hl).trans (e2 lv' hl)⟩
  rw [preoL, List.foldl_append, e1, e3, cntL, depXs, show s + cnt x + cntL r = s + (cnt x + cntL r) by omega, show max (max d (lv + depX x - 1)) (lv + depXs r - 1) = max d (lv + max (depX x) (depXs r) - 1) by omega]
end
mutual
theorem fold_no : ∀ (x : Ex) (lv a s d : Nat), 1 ≤ lv → s ≤ 512 → ¬ (goodB x lv (decide (0 < aggl a lv)) = true ∧ s + cnt x ≤ 512) → (preo x lv).foldl mstep (some (a, s, d)) = none
  | .mk h l, lv, a, s, d, h1, hs, hg => by
    rw [preo_mk, List.foldl_cons]
    by_cases hn : s = 512 ∨ 32 < lv ∨ ((Ex.mk h l).hd.k = 4 ∧ 0 < aggl a lv) ∨ fitsB (Ex.mk h l).hd (Ex.mk h l).kids.length = false
    · rw [mstep, if_pos hn, mstep_none]
    · rw [mstep_go hn]
      show List.foldl mstep (some (if h.k = 4 then lv else aggl a lv, s + 1, max d lv)) _ = none
      have n1 : ¬ s = 512 := fun e => hn (.inl e)
      have n2 : ¬ 32 < lv := fun e => hn (.inr (.inl e))
      have n3 : ¬ (h.k = 4 ∧ 0 < aggl a lv) := fun e => hn (.inr (.inr (.inl e)))
      have n4 : fitsB h l.length = true := by
        cases hf : fitsB h l.length with
        | true => rfl
        | false => exact absurd (.inr (.inr (.inr hf))) hn
      refine folds_no l (lv + 1) _ (s + 1) (max d lv) (by omega) (by omega) (by omega) fun ⟨e1, e2⟩ => hg ⟨?_, by rw [cnt_mk]; omega⟩
      rw [goodB_mk]
      have : (decide (0 < aggl a lv) || h.k == 4) = decide (0 < aggl (if h.k = 4 then lv else aggl a lv) (lv + 1)) := by
        by_cases hk : h.k = 4
        · rw [if_pos hk]
          have : 0 < aggl lv (lv + 1) := by unfold aggl; split <;> omega
          simp [hk, this]
        · rw [if_neg hk]
          have : aggl (aggl a lv) (lv + 1) = aggl a lv := by unfold aggl; repeat' split
                                                             all_goals omega
          rw [this]; simp [hk]
      rw [this, e1, n4]
      have h3 : (h.k == 4 && decide (0 < aggl a lv)) = false := by
        cases hk : (h.k == 4 && decide (0 < aggl a lv)) with
        | false => rfl
        | true => exact absurd (by simpa using hk) n3
      rw [h3]
      simp; omega
theorem folds_no : ∀ (l : List Ex) (lv a s d : Nat), 1 ≤ lv → lv ≤ d + 1 → s ≤ 512 → ¬ (goodBs l lv (decide (0 < aggl a lv)) = true ∧ s + cntL l ≤ 512) → (preoL l lv).foldl mstep (some (a, s, d)) = none
 | [], lv, a, s, d, h1, h2, hs, hg => by
  exfalso
  exact hg ⟨by rw [goodBs], by rw [cntL]; omega⟩
 | x :: r, lv, a, s, d, h1, h2, hs, hg => by
  rw [preoL, List.foldl_append]
  by_cases hx : goodB x lv (decide (0 < aggl a lv)) = true ∧ s + cnt x ≤ 512
  ·obtain ⟨a1, e1, e2⟩ := fold_yes x lv a s d h1 hx.1 hx.2
   rw [e1]
   refine folds_no r lv a1 (s + cnt x) (max d (lv + depX x - 1)) h1 (by omega) hx.2 fun ⟨g1, g2⟩ => hg ⟨?_, by rw [cntL]; omega⟩
   rw [e2 lv (Nat.le_refl _)] at g1
   rw [goodBs, hx.1, g1]; rfl
  ·rw [fold_no x lv a s d h1 hs hx, mstep_none]
end
def okX (x : Ex) : Bool := goodB x 1 false && decide (cnt x ≤ 512)
theorem meas_eq (x : Ex) : measO x = if okX x = true then some (cnt x, depX x) else none := by
 have ha : decide (0 < aggl 0 1) = false := by decide
 unfold measO msr
 cases ho : okX x with
 | true =>
  have : goodB x 1 false = true ∧ cnt x ≤ 512 := by simpa [okX] using ho
  obtain ⟨a2, e, _⟩ := fold_yes x 1 0 0 0 (Nat.le_refl _) (by rw [ha]; exact this.1) (by omega)
  rw [e, show 0 + cnt x = cnt x by omega, show max 0 (1 + depX x - 1) = depX x by omega]; rfl
 | false =>
  rw [fold_no x 1 0 0 0 (Nat.le_refl _) (by omega) (by
   rw [ha]
   rintro ⟨e1, e2⟩
   have : okX x = true := by rw [okX, e1]; simp; omega
   rw [ho] at this; cases this)]
  rfl
theorem meas_some (x : Ex) : (measO x).isSome = okX x := by rw [meas_eq]; cases okX x <;> rfl
theorem goodBs_take {l : List Ex} {k : Nat} {x : Ex} (h : l[k]? = some x) (d : Nat) (ag : Bool) : goodBs (l.take (k + 1)) d ag = (goodBs (l.take k) d ag && goodB x d ag) := by
 induction l generalizing k with
 | nil => simp at h
 | cons y r ih =>
  cases k with
  | zero =>
   obtain rfl : y = x := by simpa using h
   simp [goodBs]
  | succ k =>
   rw [List.take_succ_cons, List.take_succ_cons, goodBs, goodBs, ih (by simpa using h), Bool.and_assoc]
theorem goodBs_no {l : List Ex} {k : Nat} {d : Nat} {ag : Bool} (h : goodBs (l.take k) d ag = false) : goodBs l d ag = false := by
 induction l generalizing k with
 | nil => simp [goodBs] at h
 | cons y r ih =>
  cases k with
  | zero => simp [goodBs] at h
  | succ k =>
   rw [List.take_succ_cons, goodBs] at h
   rw [goodBs]
   cases hy : goodB y d ag with
   | false => rfl
   | true => rw [hy, Bool.true_and] at h; rw [ih h]; rfl
theorem cntL_take {l : List Ex} {k : Nat} {x : Ex} (h : l[k]? = some x) : cntL (l.take (k + 1)) = cntL (l.take k) + cnt x := by
 induction l generalizing k with
 | nil => simp at h
 | cons y r ih =>
  cases k with
  | zero =>
   obtain rfl : y = x := by simpa using h
   simp [cntL]
  | succ k => rw [List.take_succ_cons, List.take_succ_cons, cntL, cntL, ih (by simpa using h)]; omega
theorem cntL_take_le (l : List Ex) (k : Nat) : cntL (l.take k) ≤ cntL l := by
 induction l generalizing k with
 | nil => simp
 | cons y r ih =>
  cases k with
  | zero => simp [cntL]
  | succ k => rw [List.take_succ_cons, cntL, cntL]; have := ih k; omega
mutual
def kndX (k : Int) : Ex → List Ex
 | .mk h l => (if h.k = k then [.mk h l] else []) ++ kndXs k l
def kndXs (k : Int) : List Ex → List Ex
 | [] => []
 | x :: r => kndX k x ++ kndXs k r
end
mutual
theorem knd_preo (k : Int) : ∀ (x : Ex) (d : Nat), ((preo x d).map (·.1)).filter (fun y => y.hd.k == k) = kndX k x
 | .mk h l, d => by
  rw [preo_mk, List.map_cons, List.filter_cons, knd_preoL k l (d + 1), kndX]
  by_cases hk : h.k = k
  ·simp [Ex.hd, hk]
  ·simp [Ex.hd, hk]
theorem knd_preoL (k : Int) : ∀ (l : List Ex) (d : Nat), ((preoL l d).map (·.1)).filter (fun y => y.hd.k == k) = kndXs k l
 | [], d => by rw [preoL, kndXs]; rfl
 | x :: r, d => by rw [preoL, List.map_append, List.filter_append, knd_preo k x d, knd_preoL k r d, kndXs]
end
end Go.Proofs.YtfjimoccliejdaaGreatDoor
end
section
namespace Go.Proofs.YtfjimoccliejdaaGreatDoor
open Go.RowKit Go.Shelf

def IsC (W : World) (k : Nat) : Prop := ∃ o, W.heap[k]? = some o ∧ o.isCells = true
theorem isC_of_cell {W : World} {g o : Nat} {v : Value} (h : W.cell? ⟨g, o, none⟩ = some v) : IsC W g := by
 simp only [World.cell?] at h
 cases hg : W.heap[g]? with
 | none => rw [hg] at h; cases h
 | some x =>
  cases x with
  | cells cs t f => exact ⟨_, hg, rfl⟩
  | _ => rw [hg] at h; cases h
theorem IsC.of {W W' : World} {k : Nat} (h : IsC W k) (e : W'.heap[k]? = W.heap[k]?) : IsC W' k := by
 obtain ⟨o, ho, hc⟩ := h
 exact ⟨o, e.trans ho, hc⟩
theorem XsB.isC {B : Nat → Prop} {w : World} : ∀ {l : List Ex} {A : Option Addr}, XsB B w l A → XsB (fun k => B k ∧ IsC w k) w l A
 | [], _, _ => by rw [XsB]; trivial
 | .mk h l :: r, A, H => by
  rw [XsB] at H ⊢
  obtain ⟨g, o, e, hg, ⟨A', cap, hc, hl, h1⟩, h2⟩ := H
  exact ⟨g, o, e, ⟨hg, isC_of_cell hc.c0⟩, ⟨A', cap, hc, hl, XsB.isC h1⟩, XsB.isC h2⟩
termination_by l => SizeOf.sizeOf l
abbrev zcell : List Value := [.int .i64 0, .int .i64 0, .int .i64 0, .int .i64 0, .string ⟨#[]⟩, .string ⟨#[]⟩, .string ⟨#[]⟩, .slice none 0 0]
abbrev Op8 (b : Nat) (W : World) (v : Value) (k : Nat) : Prop := b ≤ k ∧ k < W.heap.size ∧ v.ownBlock ≠ some k ∧ IsC W k
structure PK (b u : Nat) (W : World) (v : Value) (q : List XQ) (L : List Ex) : Prop where
 box : Boxed W u 35 v
 kids : XRs (Op8 b W v) W L q
 own : W.ownsRow b 37 8 v L.length (xcells q)
 nil : L = [] → v = .slice none 0 0
 le : b ≤ W.heap.size
 ub : u < b
theorem PK.below {b u : Nat} {W W' : World} {v : Value} {q : List XQ} {L : List Ex} (h : PK b u W v q L) (hb : Below W.heap.size W W') : PK b u W' v q L := by
 refine ⟨boxed_below h.box hb, h.kids.go (fun k hk => hb.block k hk.2.1) (fun k hk => ⟨hk.1, Nat.lt_of_lt_of_le hk.2.1 hb.size, hk.2.2.1, hk.2.2.2.of (hb.block k hk.2.1)⟩), ⟨h.own.1, ?_⟩, h.nil, Nat.le_trans h.le hb.size, h.ub⟩
 rcases h.own.2 with hn | ⟨g, cap, cur, hv, hb1, hg, hc, hm, hsz, ht⟩
 ·exact .inl hn
 ·exact .inr ⟨g, cap, cur, hv, hb1, (hb.block g (Array.getElem?_eq_some_iff.1 hg).1).trans hg, hc, hm, hsz, ht⟩
theorem PK.other {b u : Nat} {W W' : World} {v : Value} {q : List XQ} {L : List Ex} (h : PK b u W v q L) {row : Option Nat} (hg : W.grownBy W' row) (hr : ∀ r, row = some r → ∃ o : Obj, W.heap[r]? = some o ∧ o.isCells = false) : PK b u W' v q L := by
 have keep : ∀ k, IsC W k → W'.heap[k]? = W.heap[k]? := fun k ⟨o, ho, hc⟩ => hg.block k (Array.getElem?_eq_some_iff.1 ho).1 (fun e => by
  obtain ⟨o', h1, h2⟩ := hr k e.symm
  rw [ho] at h1; cases h1; rw [hc] at h2; cases h2)
 refine ⟨(keep u ⟨_, h.box, rfl⟩).trans h.box, h.kids.go (fun k hk => keep k hk.2.2.2) (fun k hk => ⟨hk.1, Nat.lt_of_lt_of_le hk.2.1 hg.size, hk.2.2.1, hk.2.2.2.of (keep k hk.2.2.2)⟩), ⟨h.own.1, ?_⟩, h.nil, Nat.le_trans h.le hg.size, h.ub⟩
 rcases h.own.2 with hn | ⟨g, cap, cur, hv, hb1, hg, hc, hm, hsz, ht⟩
 ·exact .inl hn
 ·exact .inr ⟨g, cap, cur, hv, hb1, (keep g ⟨_, hg, rfl⟩).trans hg, hc, hm, hsz, ht⟩
def Big (o : Obj) : Prop := ∃ cs t f, o = .cells cs t f ∧ 8 < cs.size
theorem big_box (h : Hd) (A : Option Addr) (len cap : Nat) : ¬ Big (xbox h A len cap) := by
 rintro ⟨cs, t, f, e, hs⟩
 injection e with e1
 rw [← e1] at hs
 simp at hs
theorem append1 {b : Nat} {v : Value} {n : Nat} {xs : List Value} {W : World} (hown : W.ownsRow b 37 8 v n xs) (hnil : n = 0 → v = .slice none 0 0) (hb : b ≤ W.heap.size) (hn : n ≤ 1000000) (ad : Addr) (hnews : ∀ j u, zcell[j]? = some u → W.cell? (ad.add j) = some u) :
  ∃ g' cap' w', (Builtin.append_ #[35, 35] 35 #[v, .slice (some ad) 1 1]).run Tryz.prog W = .ok (.slice (some ⟨g', 0, none⟩) (n + 1) cap') w' ∧ w'.ownsRow b 37 8 (.slice (some ⟨g', 0, none⟩) (n + 1) cap') (n + 1) (xs ++ zcell) ∧
   W.grownBy w' (some g') ∧ b ≤ g' ∧ (g' < W.heap.size → v.ownBlock = some g' ∧ ∃ o, W.heap[g']? = some o ∧ Big o) := by
 obtain ⟨i0, hi, hz0, hz1, hz2⟩ := infoE_parts info_expr
 have h1 : ∀ u ∈ zcell, u.oneCell' = true := by intro u hu; simp at hu; rcases hu with rfl | rfl | rfl | rfl <;> rfl
 obtain ⟨v', w', hr, ho, hg, _, hat⟩ := run_append_own_at (P := Tryz.prog) W b 35 35 37 i0 _ 8 104 Tryz.underlying35 hi hz0 hz1 hz2 rfl (by decide) v n xs hown ad 1 1 zcell rfl hnews h1 (by unfold maxLen; omega) (by omega) hb
 rcases ho.2 with ⟨_, h0⟩ | ⟨g', cap', cur', rfl, hb', hg', hc', hm', hs', ht'⟩
 ·omega
 refine ⟨g', cap', w', hr, ho, ?_, hb', ?_⟩
 all_goals rcases hown.2 with ⟨rfl, rfl⟩ | ⟨g, cap, cur, rfl, hbg, hgg, hnc, hcm, hcs, htake⟩
 ·exact ⟨hg.os, hg.tape, hg.output, hg.size, fun k hk hne => hg.block k hk (by simp [Value.ownBlock])⟩
 ·by_cases hroom : n + 1 ≤ cap
  ·have hr2 := run_append_room (P := Tryz.prog) W 35 35 37 i0 Tryz.underlying35 hi g n cap cur hgg ad 1 1 zcell (by rw [hz1]; rfl) hnews h1 hroom (by rw [hz1, hcs]; show n * 8 + 8 ≤ _; omega)
   rw [hr] at hr2
   injection hr2 with e1 e2
   injection e1 with e3
   injection e3 with e4
   injection e4 with e5
   subst e5
   exact hg
  ·have holds : ∀ j u, xs[j]? = some u → W.cell? ((⟨g, 0, none⟩ : Addr).add j) = some u := hown.cells (g := g) rfl
   have hr2 := run_append_grow (P := Tryz.prog) W 35 35 37 i0 _ Tryz.underlying35 hi hz0 ⟨g, 0, none⟩ n cap xs (by rw [hz1]; exact hown.1) holds ad 1 1 zcell (by rw [hz1]; rfl) hnews (by omega) (by omega) (growslice_fits (by omega) (by rw [hz2]; omega))
   rw [hr] at hr2
   injection hr2 with e1 e2
   rw [e2]
   exact ⟨rfl, rfl, rfl, by simp, fun k hk _ => (Below.drew (Below.refl _ W) |>.alloc (Nat.le_refl _) _).block k hk⟩
 ·intro hlt
  rcases hat with h | h
  ·simp [Value.ownBlock] at h
  ·simp [Value.ownBlock] at h; omega
 ·intro hlt
  by_cases hroom : n + 1 ≤ cap
  ·rcases hat with h | h
   ·simp only [Value.ownBlock, Option.some.injEq] at h
    subst h
    refine ⟨rfl, _, hgg, _, _, _, rfl, ?_⟩
    have hn0 : n ≠ 0 := fun e => by have := hnil e; cases this
    rw [hcs]; omega
   ·simp [Value.ownBlock] at h; omega
  ·have holds : ∀ j u, xs[j]? = some u → W.cell? ((⟨g, 0, none⟩ : Addr).add j) = some u := hown.cells (g := g) rfl
   have hr2 := run_append_grow (P := Tryz.prog) W 35 35 37 i0 _ Tryz.underlying35 hi hz0 ⟨g, 0, none⟩ n cap xs (by rw [hz1]; exact hown.1) holds ad 1 1 zcell (by rw [hz1]; rfl) hnews (by omega) (by omega) (growslice_fits (by omega) (by rw [hz2]; omega))
   rw [hr] at hr2
   injection hr2 with e1 e2
   injection e1 with e3
   injection e3 with e4
   injection e4 with e5
   omega
def put8 (W : World) (g o : Nat) (x : XQ) : World := ((((((((W.setCell ⟨g, o, none⟩ (.int .i64 x.1.k)).setCell ⟨g, o + 1, none⟩ (.int .i64 x.1.n)).setCell ⟨g, o + 2, none⟩ (.int .i64 x.1.vk)).setCell ⟨g, o + 3, none⟩ (.int .i64 x.1.vn)).setCell ⟨g, o + 4, none⟩ (.string x.1.vs)).setCell ⟨g, o + 5, none⟩ (.string x.1.tab)).setCell ⟨g, o + 6, none⟩ (.string x.1.col)).setCell ⟨g, o + 7, none⟩ (.slice x.2.1 x.2.2.1 x.2.2.2))
theorem put8_other {W : World} {g o k : Nat} (hk : k ≠ g) (x : XQ) : (put8 W g o x).heap[k]? = W.heap[k]? := by
 simp only [put8, World.setCell, Array.getElem?_modify]
 simp [Ne.symm hk]
theorem put8_size (W : World) (g o : Nat) (x : XQ) : (put8 W g o x).heap.size = W.heap.size := by simp [put8, World.setCell]
theorem put8_box {W : World} {g o : Nat} {cs : Array Value} {T : TypeId} (h : W.heap[g]? = some (.cells cs T (0, 0))) (x : XQ) : (put8 W g o x).heap[g]? = some (.cells ((((((((cs.setIfInBounds o (.int .i64 x.1.k)).setIfInBounds (o + 1) (.int .i64 x.1.n)).setIfInBounds (o + 2) (.int .i64 x.1.vk)).setIfInBounds (o + 3) (.int .i64 x.1.vn)).setIfInBounds (o + 4) (.string x.1.vs)).setIfInBounds (o + 5) (.string x.1.tab)).setIfInBounds (o + 6) (.string x.1.col)).setIfInBounds (o + 7) (.slice x.2.1 x.2.2.1 x.2.2.2)) T (0, 0)) :=
 setc_box (setc_box (setc_box (setc_box (setc_box (setc_box (setc_box (setc_box h o _) (o + 1) _) (o + 2) _) (o + 3) _) (o + 4) _) (o + 5) _) (o + 6) _) (o + 7) _
theorem set8_list (xs : List Value) (rest : List Value) (z0 z1 z2 z3 z4 z5 z6 z7 a0 a1 a2 a3 a4 a5 a6 a7 : Value) (o : Nat) (ho : o = xs.length) :
  (((((((((xs ++ z0 :: z1 :: z2 :: z3 :: z4 :: z5 :: z6 :: z7 :: rest).set o a0).set (o + 1) a1).set (o + 2) a2).set (o + 3) a3).set (o + 4) a4).set (o + 5) a5).set (o + 6) a6).set (o + 7) a7) = xs ++ a0 :: a1 :: a2 :: a3 :: a4 :: a5 :: a6 :: a7 :: rest := by
 subst ho
 rw [List.set_append_right _ _ (by omega), List.set_append_right _ _ (by omega), List.set_append_right _ _ (by omega), List.set_append_right _ _ (by omega), List.set_append_right _ _ (by omega), List.set_append_right _ _ (by omega), List.set_append_right _ _ (by omega), List.set_append_right _ _ (by omega)]
 simp
theorem set8_take (cur xs : List Value) (n : Nat) (hx : xs.length = n * 8) (ht : cur.take ((n + 1) * 8) = xs ++ zcell) (a0 a1 a2 a3 a4 a5 a6 a7 : Value) :
  (((((((((cur.set (n * 8) a0).set (n * 8 + 1) a1).set (n * 8 + 2) a2).set (n * 8 + 3) a3).set (n * 8 + 4) a4).set (n * 8 + 5) a5).set (n * 8 + 6) a6).set (n * 8 + 7) a7).take ((n + 1) * 8)) = xs ++ [a0, a1, a2, a3, a4, a5, a6, a7] := by
 have hcur : cur = xs ++ zcell ++ cur.drop ((n + 1) * 8) := by rw [← ht]; exact (List.take_append_drop _ _).symm
 generalize cur.drop ((n + 1) * 8) = rest at hcur
 have e := set8_list xs rest (.int .i64 0) (.int .i64 0) (.int .i64 0) (.int .i64 0) (.string ⟨#[]⟩) (.string ⟨#[]⟩) (.string ⟨#[]⟩) (.slice none 0 0) a0 a1 a2 a3 a4 a5 a6 a7 (n * 8) hx.symm
 rw [show cur = xs ++ .int .i64 0 :: .int .i64 0 :: .int .i64 0 :: .int .i64 0 :: .string ⟨#[]⟩ :: .string ⟨#[]⟩ :: .string ⟨#[]⟩ :: .slice none 0 0 :: rest by rw [hcur, List.append_assoc]; rfl, e]
 rw [show xs ++ a0 :: a1 :: a2 :: a3 :: a4 :: a5 :: a6 :: a7 :: rest = (xs ++ [a0, a1, a2, a3, a4, a5, a6, a7]) ++ rest by rw [List.append_assoc]; rfl]
 refine List.take_left' ?_
 rw [List.length_append, hx]; show n * 8 + 8 = _; omega
theorem put8_own {b g n cap : Nat} {xs : List Value} {W : World} (h : W.ownsRow b 37 8 (.slice (some ⟨g, 0, none⟩) (n + 1) cap) (n + 1) (xs ++ zcell)) (hx : xs.length = n * 8) (x : XQ) :
  (put8 W g (n * 8) x).ownsRow b 37 8 (.slice (some ⟨g, 0, none⟩) (n + 1) cap) (n + 1) (xs ++ xcell x) := by
 rcases h.2 with ⟨hbad, _⟩ | ⟨g', cap', cur, hv, hb, hg, hc, hm, hs, ht⟩
 ·cases hbad
 have hg2 : g' = g := by injection hv with e1; injection e1 with e4; injection e4 with e5; exact e5.symm
 have hc2 : cap' = cap := by injection hv with _ _ e3; exact e3.symm
 subst hg2 hc2
 refine ⟨by rw [List.length_append, hx]; show n * 8 + 8 = _; omega, .inr ⟨g', cap', _, rfl, hb, put8_box hg x, hc, hm, ?_, ?_⟩⟩
 ·simp only [Array.size_setIfInBounds]; exact hs
 ·simp only [Array.toList_setIfInBounds]
  exact set8_take _ _ _ hx ht _ _ _ _ _ _ _ _
theorem PK.blk {b u : Nat} {W : World} {v : Value} {q : List XQ} {L : List Ex} (h : PK b u W v q L) : ∀ k, v.ownBlock = some k → k < W.heap.size := fun k e => (h.own.lt k e).2
theorem PK.grow {b u : Nat} {W : World} {v : Value} {q : List XQ} {L : List Ex} (h : PK b u W v q L) {x : Ex} {A3 : Option Addr} {cap3 : Nat} (hle : x.kids.length ≤ cap3) (hx : XsB (Op8 b W v) W x.kids A3) {g' cap' : Nat} {w1 F : World}
  (ho : w1.ownsRow b 37 8 (.slice (some ⟨g', 0, none⟩) (L.length + 1) cap') (L.length + 1) (xcells q ++ zcell)) (hg : W.grownBy w1 (some g')) (hbg : b ≤ g') (hold : g' < W.heap.size → v.ownBlock = some g' ∧ ∃ o, W.heap[g']? = some o ∧ Big o)
  (hsz : F.heap.size = w1.heap.size) (hu : Boxed F u 35 (.slice (some ⟨g', 0, none⟩) (L.length + 1) cap')) (hF : ∀ k, k ≠ u → F.heap[k]? = (put8 w1 g' (L.length * 8) (x.hd, A3, x.kids.length, cap3)).heap[k]?) :
  PK b u F (.slice (some ⟨g', 0, none⟩) (L.length + 1) cap') (q ++ [(x.hd, A3, x.kids.length, cap3)]) (L ++ [x]) := by
 have hub := h.ub
 have hlb := h.le
 have hgs := hg.size
 have keep : ∀ k, Op8 b W v k → F.heap[k]? = W.heap[k]? := fun k hk => by
  have h1 := hk.1
  have h2 := hk.2.1
  have hne : k ≠ g' := fun e => by
   subst e
   exact hk.2.2.1 (hold h2).1
  rw [hF k (by omega), put8_other hne, hg.block k h2 (fun e => hne (by cases e; rfl))]
 have hB : ∀ k, Op8 b W v k → Op8 b F (.slice (some ⟨g', 0, none⟩) (L.length + 1) cap') k := fun k hk => by
  have h1 := hk.1
  have h2 := hk.2.1
  refine ⟨h1, by omega, fun e => ?_, hk.2.2.2.of (keep k hk)⟩
  simp only [Value.ownBlock, Option.some.injEq] at e
  subst e
  exact hk.2.2.1 (hold h2).1
 have hq : (xcells q).length = L.length * 8 := by rw [xcells_len, h.kids.len]
 have hr := put8_own ho hq (x.hd, A3, x.kids.length, cap3)
 refine ⟨hu, (h.kids.go keep hB).snoc ⟨rfl, rfl, hle, XsB.go keep hB _ _ hx⟩, ?_, fun e => by simp at e, by omega, hub⟩
 have e1 : xcells (q ++ [(x.hd, A3, x.kids.length, cap3)]) = xcells q ++ xcell (x.hd, A3, x.kids.length, cap3) := by rw [xcells_app]; simp [xcells]
 rw [e1, List.length_append]
 refine ⟨hr.1, ?_⟩
 rcases hr.2 with ⟨hbad, _⟩ | ⟨g2, cap2, cur, hv, hb2, hg2, hrest⟩
 ·cases hbad
 have e2 : g' = g2 := by have := congrArg Value.ownBlock hv; simpa [Value.ownBlock] using this
 subst e2
 exact .inr ⟨g', cap2, cur, hv, hb2, (hF g' (by omega)).trans hg2, hrest⟩
theorem PK.kept {u : Nat} {W : World} {n : Nat} {x : XQ} {g' : Nat} {w1 F : World} (hg : W.grownBy w1 (some g')) {v : Value} (hold : g' < W.heap.size → v.ownBlock = some g' ∧ ∃ o, W.heap[g']? = some o ∧ Big o)
  (hF : ∀ k, k ≠ u → F.heap[k]? = (put8 w1 g' (n * 8) x).heap[k]?) (k : Nat) (hk : k < W.heap.size) (hu : k ≠ u) (hb : ∀ o, W.heap[k]? = some o → ¬ Big o) : F.heap[k]? = W.heap[k]? := by
 have hne : k ≠ g' := fun e => by
  subst e
  obtain ⟨_, o, ho, hbg⟩ := hold hk
  exact hb o ho hbg
 rw [hF k hu, put8_other hne, hg.block k hk (fun e => hne (by cases e; rfl))]
theorem PK.list {b u : Nat} {W : World} {v : Value} {q : List XQ} {L : List Ex} (h : PK b u W v q L) : ∃ A cap, v = .slice A L.length cap ∧ L.length ≤ cap ∧ XsAt W.heap.size W L A := by
 rcases h.own.2 with ⟨rfl, h0⟩ | ⟨g, cap, cur, hv, hb1, hg, hc, _⟩
 ·obtain rfl := List.eq_nil_of_length_eq_zero h0
  exact ⟨none, 0, rfl, Nat.le_refl _, by rw [XsAt, XsB]; trivial⟩
 ·have hgl := (Array.getElem?_eq_some_iff.1 hg).1
  refine ⟨_, cap, hv, hc, XRs.xsB (B := fun k => k < W.heap.size) hgl (h.kids.go (fun _ _ => rfl) (fun k hk => hk.2.1)) fun j u hj => ?_⟩
  have := h.own.cells (g := g) (by rw [hv]; rfl) j u hj
  rw [show (⟨g, 0, none⟩ : Addr).add j = ⟨g, j, none⟩ by simp only [Addr.add]; split <;> simp_all] at this
  rwa [Nat.zero_add]
end Go.Proofs.YtfjimoccliejdaaGreatDoor
end
section
namespace Go.Proofs.YtfjimoccliejdaaGreatDoor
open Go.RowKit Go.Shelf

def ListBack (w : World) (l : List Ex) (e : Ending) (w' : World) : Prop :=
 ∃ A cap, e = .returned (.slice A l.length cap) ∧ l.length ≤ cap ∧ XsAt w'.heap.size w' l A ∧ Below w.heap.size w w'
theorem XsB.rows {B : Nat → Prop} {w : World} : ∀ {l : List Ex} {g o : Nat}, XsB B w l (some ⟨g, o, none⟩) → ∃ q, XRs B w l q ∧ ∀ j u, (xcells q)[j]? = some u → w.cell? ⟨g, o + j, none⟩ = some u
 | [], g, o, _ => ⟨[], .nil, fun j u h => by simp [xcells] at h⟩
 | .mk h l :: r, g, o, H => by
  rw [XsB] at H
  obtain ⟨g', o', e, hg, ⟨A', cap, hc, hl, h1⟩, h2⟩ := H
  simp only [Option.some.injEq, Addr.mk.injEq] at e
  obtain ⟨rfl, rfl, _⟩ := e
  obtain ⟨q, hq, hn⟩ := XsB.rows h2
  refine ⟨(h, A', l.length, cap) :: q, .cons ⟨rfl, rfl, hl, h1⟩ hq, fun j u hj => ?_⟩
  have e : xcells ((h, A', l.length, cap) :: q) = xcell (h, A', l.length, cap) ++ xcells q := rfl
  have e8 : (xcell (h, A', l.length, cap)).length = 8 := rfl
  rw [e] at hj
  by_cases h8 : j < 8
  ·rw [List.getElem?_append_left (by omega)] at hj
   obtain ⟨c0, c1, c2, c3, c4, c5, c6, c7⟩ := hc
   rcases (show j = 0 ∨ j = 1 ∨ j = 2 ∨ j = 3 ∨ j = 4 ∨ j = 5 ∨ j = 6 ∨ j = 7 by omega) with rfl | rfl | rfl | rfl | rfl | rfl | rfl | rfl
   all_goals
    simp only [xcell, List.getElem?_cons_zero, List.getElem?_cons_succ, Option.some.injEq] at hj
    subst hj
    assumption
  ·rw [List.getElem?_append_right (by omega), e8] at hj
   have := hn (j - 8) u hj
   rwa [show o + 8 + (j - 8) = o + j by omega] at this
end Go.Proofs.YtfjimoccliejdaaGreatDoor
end
