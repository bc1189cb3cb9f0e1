/-
  Plain: what is got has the bytes that it was got from.
-/
import Derived.Test.YtdjhoiamongdaaaRCod0
namespace Go.Proofs.Ytdjhoiamongdaaa
open Go.RowKit

theorem seven_num (l : List Int) (h7 : l.length = 7) (hb : ∀ x ∈ l, 0 ≤ x ∧ x < 256) : seven (num l) = l := by
  match l, h7 with
  | [a, b, c, d, e, f, g], _ =>
    have ha := hb a (by simp)
    have hb' := hb b (by simp)
    have hc := hb c (by simp)
    have hd := hb d (by simp)
    have he := hb e (by simp)
    have hf := hb f (by simp)
    have hg := hb g (by simp)
    simp only [num, List.foldl, seven, byteAt]
    simp
    omega
theorem strB_strOfNums (l : List Int) (hb : ∀ x ∈ l, 0 ≤ x ∧ x < 256) : strB (strOfNums l) = l := by
  unfold strB
  rw [strOfNums_data, List.map_map]
  conv => rhs; rw [← List.map_id l]
  apply List.map_congr_left
  intro x hx
  obtain ⟨h0, h1⟩ := hb x hx
  obtain ⟨n, rfl⟩ := Int.eq_ofNat_of_zero_le h0
  simp
  omega
theorem strOfNums_size (l : List Int) : (strOfNums l).size = l.length := by
  show (strOfNums l).data.size = _
  rw [← Array.length_toList, strOfNums_data]; simp

theorem putV_getV {bs : List Int} {v : Va} {n : Nat} (hb : ∀ x ∈ bs, 0 ≤ x ∧ x < 256) (h : getV bs = some (v, n)) : putV v = bs.take n := by
  cases bs with
  | nil => simp [getV] at h
  | cons k t =>
    by_cases e0 : k = 0
    · subst e0
      simp [getV] at h
      obtain ⟨rfl, rfl⟩ := h
      rfl
    by_cases e1 : k = 1
    · subst e1
      cases t with
      | nil => simp [getV] at h
      | cons x u =>
        simp [getV] at h
        obtain ⟨rfl, rfl, _⟩ := keep_some h
        simp [putV]
    by_cases e2 : k = 2
    · subst e2
      by_cases h7 : t.length < 7
      · simp [getV, h7] at h
      · simp only [getV, h7, if_false] at h
        simp at h
        obtain ⟨rfl, rfl, _⟩ := keep_some h
        have hs := seven_num (t.take 7) (by simp; omega) (fun x hx => hb x (by simp [List.mem_of_mem_take hx]))
        simp [putV, hs]
    by_cases e3 : k = 3
    · subst e3
      cases t with
      | nil => simp [getV] at h
      | cons x u =>
        obtain ⟨hx0, hx1⟩ := hb x (by simp)
        obtain ⟨X, rfl⟩ := Int.eq_ofNat_of_zero_le hx0
        by_cases hu : u.length < X
        · simp [getV, hu] at h
        · simp only [getV, Int.toNat_natCast, hu, if_false] at h
          simp at h
          obtain ⟨rfl, rfl, _⟩ := keep_some h
          have hs := strB_strOfNums (u.take X) (fun y hy => hb y (by simp [List.mem_of_mem_take hy]))
          have hz : (strOfNums (u.take X)).size = X := by rw [strOfNums_size]; simp; omega
          simp only [putV]
          simp [hs, hz]
          rw [show 2 + X = X + 2 by omega]
          simp
    simp [getV, e0, e1, e2, e3] at h

theorem getR_some : ∀ (k : Nat) (bs : List Int) (r : List Va) (S : Nat), (∀ x ∈ bs, 0 ≤ x ∧ x < 256) → getR k bs = some (r, S) → r.length = k ∧ bodyR r = bs.take S ∧ S ≤ bs.length ∧ ∀ v ∈ r, v.ok = true
  | 0, bs, r, S, _, h => by
    simp [getR] at h
    obtain ⟨rfl, rfl⟩ := h
    simp [bodyR]
  | k + 1, bs, r, S, hb, h => by
    rw [getR] at h
    cases hv : getV bs with
    | none => rw [hv] at h; cases h
    | some p =>
      obtain ⟨v, n⟩ := p
      rw [hv] at h
      simp only at h
      obtain ⟨hn1, hn2, hok⟩ := getV_some hv
      have hp := putV_getV hb hv
      cases hr : getR k (bs.drop n) with
      | none => rw [hr] at h; simp at h
      | some q =>
        obtain ⟨r', S'⟩ := q
        rw [hr] at h
        simp at h
        obtain ⟨rfl, rfl⟩ := h
        obtain ⟨h1, h2, h3, h4⟩ := getR_some k (bs.drop n) r' S' (fun x hx => hb x (List.mem_of_mem_drop hx)) hr
        simp at h3
        refine ⟨by simp [h1], ?_, by omega, ?_⟩
        · show putV v ++ bodyR r' = _
          rw [hp, h2, List.take_add]
        · intro u hu
          rcases List.mem_cons.1 hu with rfl | hu
          · exact hok
          · exact h4 u hu
theorem getRow_some {bs : List Int} {r : List Va} {n : Nat} (hb : ∀ x ∈ bs, 0 ≤ x ∧ x < 256) (h : getRow bs = some (r, n)) : okR r = true ∧ putR r = bs.take n ∧ n ≤ bs.length ∧ 1 ≤ n := by
  cases bs with
  | nil => simp [getRow] at h
  | cons k t =>
    obtain ⟨k0, k1⟩ := hb k (by simp)
    obtain ⟨K, rfl⟩ := Int.eq_ofNat_of_zero_le k0
    by_cases hk : (32 : Int) < K
    · simp [getRow, hk] at h
    · simp only [getRow, hk, if_false, Int.toNat_natCast] at h
      cases hr : getR K t with
      | none => rw [hr] at h; cases h
      | some q =>
        obtain ⟨r', S⟩ := q
        rw [hr] at h
        simp at h
        obtain ⟨rfl, rfl⟩ := h
        obtain ⟨h1, h2, h3, h4⟩ := getR_some K t r' S (fun x hx => hb x (by simp [hx])) hr
        refine ⟨?_, ?_, by simp; omega, by omega⟩
        · simp only [okR, Bool.and_eq_true, decide_eq_true_eq, Bool.not_eq_true']
          refine ⟨by omega, ?_⟩
          rw [List.any_eq_false]
          intro v hv
          simp [badA, h4 v hv]
        · rw [Nat.add_comm 1 S, List.take_succ_cons, putR, h1, h2]
end Go.Proofs.Ytdjhoiamongdaaa
