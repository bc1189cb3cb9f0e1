/-
  Package tree: lists in order, merged; plain.
-/
import Derived.Test.YtjcinhlghlcknaaTrb
namespace Go.Proofs.Ytjcinhlghlcknaa
open Go.RowKit

def ltP (x y : Pr) : Prop := x.k < y.k ∨ (x.k = y.k ∧ x.t < y.t)
theorem ltP.trans {x y z : Pr} (h : ltP x y) (k : ltP y z) : ltP x z := by
  unfold ltP at h k ⊢; omega
/-- Lists in order, whose tags tell the list. -/
def GoodR (rs : List (List Pr)) : Prop := ∀ i, (rs.getD i []).Pairwise ltP ∧ ∀ p ∈ rs.getD i [], 100000 * (i : Int) ≤ p.t ∧ p.t < 100000 * ((i : Int) + 1)
theorem GoodR.set {rs : List (List Pr)} (h : GoodR rs) {k : Nat} {p : Pr} {ps : List Pr} (hp : rs.getD k [] = p :: ps) : GoodR (rs.set k ps) := fun i => by
  by_cases e : k = i
  · subst e
    have h2 := h k
    rw [hp] at h2
    by_cases hk : k < rs.length
    · rw [show (rs.set k ps).getD k [] = ps by simp [List.getD_eq_getElem?_getD, hk]]
      exact ⟨(List.pairwise_cons.1 h2.1).2, fun q hq => h2.2 q (by simp [hq])⟩
    · rw [List.getD_eq_getElem?_getD, List.getElem?_eq_none (by omega)] at hp
      simp at hp
  · rw [show (rs.set k ps).getD i [] = rs.getD i [] by simp [List.getD_eq_getElem?_getD, e]]
    exact h i
/-- What has come out stands before all that is left. -/
theorem mst_sorted (rs : List (List Pr)) (hg : GoodR rs) : ∀ m, (mst rs m).1.Pairwise ltP ∧ (∀ x ∈ (mst rs m).1, ∀ j, ∀ y ∈ (mst rs m).2.getD j [], ltP x y) ∧ GoodR (mst rs m).2
  | 0 => ⟨by simp [mst], by simp [mst], hg⟩
  | m + 1 => by
    obtain ⟨h1, h2, h3⟩ := mst_sorted rs hg m
    rw [mst]
    split
    · exact ⟨h1, h2, h3⟩
    · rename_i hneg
      generalize (mst rs m).1 = out at h1 h2 ⊢
      generalize (mst rs m).2 = cur at h2 h3 hneg ⊢
      have hw := wnr_is (hds cur)
      obtain ⟨k, hk2⟩ : ∃ k : Nat, wnr (hds cur) = k := ⟨_, (Int.toNat_of_nonneg (by omega)).symm⟩
      rw [hk2] at hw ⊢
      have hb := hw.get.2
      rw [hds_get] at hb
      obtain ⟨p, ps, hp⟩ := hdL_b hb
      simp only [Int.toNat_natCast, hp, List.tail_cons, List.headD_cons]
      have hmin : ∀ j, ∀ y ∈ (cur.set k ps).getD j [], ltP p y := fun j y hy => by
        by_cases e : k = j
        · subst e
          have hkl : k < cur.length := by have := hw.get.1; rwa [hds_len] at this
          rw [show (cur.set k ps).getD k [] = ps by simp [List.getD_eq_getElem?_getD, hkl]] at hy
          have := (h3 k).1
          rw [hp] at this
          exact (List.pairwise_cons.1 this).1 y hy
        · rw [show (cur.set k ps).getD j [] = cur.getD j [] by simp [List.getD_eq_getElem?_getD, e]] at hy
          cases hc : cur.getD j [] with
          | nil => rw [hc] at hy; cases hy
          | cons q qs =>
            have hjl : j < (hds cur).length := by
              rw [hds_len]
              rcases Nat.lt_or_ge j cur.length with hh | hh
              · exact hh
              · rw [List.getD_eq_getElem?_getD, List.getElem?_eq_none hh] at hc; simp at hc
            have hq : ltP p q := by
              rcases hw with ⟨ra, _⟩ | ⟨k', ra, _, _, _, hmn⟩
              · omega
              · have ek : k = k' := by omega
                subst ek
                have hm := hmn j (Nat.zero_le _) hjl (by rw [hds_get, hc]; rfl)
                rw [hds_get, hds_get, hp, hc] at hm
                simp only [hdL] at hm
                have t1 := (h3 k).2 p (by rw [hp]; simp)
                have t2 := (h3 j).2 q (by rw [hc]; simp)
                unfold ltP
                rcases Nat.lt_or_ge j k with hlt | hge
                · exact .inl (hm.2 hlt)
                · have := hm.1
                  omega
            rw [hc] at hy
            rcases List.mem_cons.1 hy with rfl | hy
            · exact hq
            · have := (h3 j).1
              rw [hc] at this
              exact hq.trans ((List.pairwise_cons.1 this).1 y hy)
      refine ⟨?_, ?_, h3.set hp⟩
      · rw [List.pairwise_append]
        refine ⟨h1, by simp, fun x hx y hy => ?_⟩
        obtain rfl : y = p := by simpa using hy
        exact h2 x hx k _ (by rw [hp]; simp)
      · intro x hx j y hy
        rcases List.mem_append.1 hx with hx | hx
        · refine h2 x hx j y ?_
          by_cases e : k = j
          · subst e
            have hkl : k < cur.length := by have := hw.get.1; rwa [hds_len] at this
            rw [show (cur.set k ps).getD k [] = ps by simp [List.getD_eq_getElem?_getD, hkl]] at hy
            rw [hp]; simp [hy]
          · rwa [show (cur.set k ps).getD j [] = cur.getD j [] by simp [List.getD_eq_getElem?_getD, e]] at hy
        · obtain rfl : x = p := by simpa using hx
          exact hmin j y hy
theorem Mgd.sorted {rs : List (List Pr)} {out : List Pr} (h : Mgd rs out) (hg : GoodR rs) : out.Pairwise ltP := by
  obtain ⟨cur, h1, _⟩ := h
  have := (mst_sorted rs hg out.length).1
  unfold MR at h1
  rwa [h1] at this
theorem sorted_at {out : List Pr} (h : out.Pairwise ltP) {i : Nat} (h1 : i + 1 < out.length) : ltP out[i] out[i + 1] :=
  List.pairwise_iff_getElem.1 h i (i + 1) (by omega) h1 (by omega)
/-- The keys, none lower than the one before. -/
def keyN (xs : List Pr) : Nat → Int
  | 0 => (xs.getD 0 default).k
  | k + 1 => if (xs.getD (k + 1) default).k < keyN xs k then keyN xs k else (xs.getD (k + 1) default).k
def rowI (i : Nat) (xs : List Pr) (k : Nat) : List Pr := (List.range k).map fun j => ⟨keyN xs j, 100000 * (i : Int) + j⟩
theorem rowI_succ (i : Nat) (xs : List Pr) (k : Nat) : rowI i xs (k + 1) = rowI i xs k ++ [⟨keyN xs k, 100000 * (i : Int) + k⟩] := by
  simp [rowI, List.range_succ]
theorem rowI_len (i : Nat) (xs : List Pr) (k : Nat) : (rowI i xs k).length = k := by simp [rowI]
theorem keyN_le (xs : List Pr) (k : Nat) : keyN xs k ≤ keyN xs (k + 1) := by
  rw [keyN]; split <;> omega
theorem keyN_mono (xs : List Pr) {j k : Nat} (h : j ≤ k) : keyN xs j ≤ keyN xs k := by
  induction h with
  | refl => exact Int.le_refl _
  | step _ ih => exact Int.le_trans ih (keyN_le xs _)
theorem rowI_good (i : Nat) (xs : List Pr) {k : Nat} (hk : k ≤ 2000) : (rowI i xs k).Pairwise ltP ∧ ∀ p ∈ rowI i xs k, 100000 * (i : Int) ≤ p.t ∧ p.t < 100000 * ((i : Int) + 1) := by
  constructor
  · unfold rowI
    rw [List.pairwise_map]
    refine List.Pairwise.imp (R := (· < ·)) (fun {a b} hab => ?_) List.pairwise_lt_range
    have := keyN_mono xs (Nat.le_of_lt hab)
    unfold ltP
    simp only
    omega
  · intro p hp
    simp only [rowI, List.mem_map, List.mem_range] at hp
    obtain ⟨j, hj, rfl⟩ := hp
    simp only
    omega
/-- The law's own lists, up to i. -/
def ownI (ls : List (List Pr)) (i : Nat) : List (List Pr) := (List.range i).map fun j => rowI j (ls.getD j []) (ls.getD j []).length
theorem ownI_succ (ls : List (List Pr)) (i : Nat) : ownI ls (i + 1) = ownI ls i ++ [rowI i (ls.getD i []) (ls.getD i []).length] := by simp [ownI, List.range_succ]
theorem ownI_len (ls : List (List Pr)) (i : Nat) : (ownI ls i).length = i := by simp [ownI]
theorem ownI_get (ls : List (List Pr)) {i j : Nat} (h : j < i) : (ownI ls i).getD j [] = rowI j (ls.getD j []) (ls.getD j []).length := by
  simp [ownI, List.getD_eq_getElem?_getD, h]
theorem ownI_good (ls : List (List Pr)) (i : Nat) (h : ∀ j, (ls.getD j []).length ≤ 2000) : GoodR (ownI ls i) := fun j => by
  rcases Nat.lt_or_ge j i with hj | hj
  · rw [ownI_get ls hj]
    exact rowI_good j _ (h j)
  · rw [List.getD_eq_getElem?_getD, List.getElem?_eq_none (by rw [ownI_len]; exact hj)]
    exact ⟨by simp, by simp⟩
theorem ownI_tot (ls : List (List Pr)) : ∀ i, i ≤ ls.length → tot (ownI ls i) = tot (ls.take i)
  | 0, _ => by simp [ownI, tot]
  | i + 1, h => by
    have ih := ownI_tot ls i (by omega)
    rw [ownI_succ]
    have e : ∀ (a : List (List Pr)) (r : List Pr), tot (a ++ [r]) = tot a + r.length := fun a r => by simp [tot]
    rw [e, ih, rowI_len, List.take_succ_eq_append_getElem (by omega), e, List.getD_eq_getElem?_getD, List.getElem?_eq_getElem (by omega), Option.getD_some]
end Go.Proofs.Ytjcinhlghlcknaa
