/-
  Package tree: what lists merged are; plain.
-/
import Derived.Test.YtjcinhlghlcknaaTra
namespace Go.Proofs.Ytjcinhlghlcknaa
open Go.RowKit

/-- The winner, told step by step. -/
def winN (L : List Lf) : Nat → Int
  | 0 => -1
  | i + 1 => if (L.getD i noLf).b && (decide (winN L i < 0) || decide ((L.getD i noLf).k < keyT L (winN L i))) then (i : Int) else winN L i
theorem winN_is (L : List Lf) : ∀ i, isW L 0 i (winN L i)
  | 0 => isW.nil L
  | i + 1 => (winN_is L i).snoc
def wnr (L : List Lf) : Int := winN L L.length
theorem wnr_is (L : List Lf) : isW L 0 L.length (wnr L) := winN_is L L.length
def hds (cur : List (List Pr)) : List Lf := cur.map hdL
theorem hds_len (cur : List (List Pr)) : (hds cur).length = cur.length := by simp [hds]
theorem hds_get (cur : List (List Pr)) (i : Nat) : (hds cur).getD i noLf = hdL (cur.getD i []) := by
  simp only [hds, List.getD_eq_getElem?_getD, List.getElem?_map]
  cases cur[i]? <;> rfl
theorem hds_set (cur : List (List Pr)) (i : Nat) (r : List Pr) : hds (cur.set i r) = (hds cur).set i (hdL r) := by simp [hds, List.map_set]
def tot (cur : List (List Pr)) : Nat := (cur.map List.length).sum
/-- So many steps of a merge: what has come out, what is left. -/
def mst (ls : List (List Pr)) : Nat → List Pr × List (List Pr)
  | 0 => ([], ls)
  | m + 1 =>
    if wnr (hds (mst ls m).2) < 0 then mst ls m
    else ((mst ls m).1 ++ [((mst ls m).2.getD (wnr (hds (mst ls m).2)).toNat []).headD default], (mst ls m).2.set (wnr (hds (mst ls m).2)).toNat ((mst ls m).2.getD (wnr (hds (mst ls m).2)).toNat []).tail)
def MR (ls : List (List Pr)) (out : List Pr) (cur : List (List Pr)) : Prop := mst ls out.length = (out, cur)
theorem MR.start (ls : List (List Pr)) : MR ls [] ls := rfl
theorem isW.get {L : List Lf} {k : Nat} (h : isW L 0 L.length (k : Int)) : k < L.length ∧ (L.getD k noLf).b = true := by
  rcases h with ⟨ra, _⟩ | ⟨j, ra, _, j2, jb, _⟩
  · omega
  · have : k = j := by omega
    subst this
    exact ⟨j2, jb⟩
theorem hdL_b {r : List Pr} (h : (hdL r).b = true) : ∃ p ps, r = p :: ps := by
  cases r with
  | nil => simp [hdL, noLf] at h
  | cons p ps => exact ⟨p, ps, rfl⟩
theorem MR.step {ls : List (List Pr)} {out : List Pr} {cur : List (List Pr)} (h : MR ls out cur) {k : Nat} (hk : isW (hds cur) 0 (hds cur).length (k : Int)) {p : Pr} {ps : List Pr} (hp : cur.getD k [] = p :: ps) :
    MR ls (out ++ [p]) (cur.set k ps) := by
  unfold MR at h ⊢
  rw [List.length_append, List.length_singleton, mst, h]
  have e : wnr (hds cur) = (k : Int) := (wnr_is _).one hk
  simp only [e, Int.toNat_natCast, hp]
  rw [if_neg (by omega)]
  rfl
theorem tot_set {cur : List (List Pr)} {k : Nat} {p : Pr} {ps : List Pr} (h : cur.getD k [] = p :: ps) : tot (cur.set k ps) + 1 = tot cur := by
  induction cur generalizing k with
  | nil => simp at h
  | cons c cs ih =>
    cases k with
    | zero =>
      simp only [List.getD_cons_zero] at h
      subst h
      simp [tot]; omega
    | succ k =>
      simp only [List.getD_cons_succ] at h
      have := ih h
      simp only [tot, List.set_cons_succ, List.map_cons, List.sum_cons] at this ⊢
      omega
theorem mst_tot (ls : List (List Pr)) : ∀ m, (mst ls m).1.length + tot (mst ls m).2 = tot ls
  | 0 => by simp [mst]
  | m + 1 => by
    have ih := mst_tot ls m
    rw [mst]
    split
    · exact ih
    · rename_i hk
      have hw := wnr_is (hds (mst ls m).2)
      obtain ⟨k, hk2⟩ : ∃ k : Nat, wnr (hds (mst ls m).2) = k := ⟨_, (Int.toNat_of_nonneg (by omega)).symm⟩
      rw [hk2] at hw ⊢
      have hb := hw.get.2
      rw [hds_get] at hb
      obtain ⟨p, ps, hp⟩ := hdL_b hb
      simp only [Int.toNat_natCast, hp, List.tail_cons]
      have := tot_set hp
      simp only [List.length_append, List.length_singleton]
      omega
theorem MR.tot {ls : List (List Pr)} {out : List Pr} {cur : List (List Pr)} (h : MR ls out cur) : out.length + Go.Proofs.Ytjcinhlghlcknaa.tot cur = Go.Proofs.Ytjcinhlghlcknaa.tot ls := by
  have := mst_tot ls out.length
  unfold MR at h
  rwa [h] at this
theorem tot_nil {cur : List (List Pr)} (h : isW (hds cur) 0 (hds cur).length (-1)) : tot cur = 0 := by
  rcases h with ⟨_, ha⟩ | ⟨j, ra, _⟩
  · have hz : ∀ r ∈ cur, r.length = 0 := fun r hr => by
      obtain ⟨i, hi, rfl⟩ := List.getElem_of_mem hr
      have := ha i (Nat.zero_le _) (by rw [hds_len]; exact hi)
      rw [hds_get, List.getD_eq_getElem?_getD, List.getElem?_eq_getElem hi] at this
      cases hc : cur[i] with
      | nil => rfl
      | cons p ps => rw [hc] at this; simp [hdL] at this
    clear ha
    unfold tot
    induction cur with
    | nil => rfl
    | cons c cs ih => simp only [List.map_cons, List.sum_cons]; rw [ih (fun r hr => hz r (by simp [hr])), hz c (by simp)]
  · omega
/-- What lists merged are. -/
def Mgd (ls : List (List Pr)) (out : List Pr) : Prop := ∃ cur, MR ls out cur ∧ tot cur = 0
theorem Mgd.len {ls : List (List Pr)} {out : List Pr} (h : Mgd ls out) : out.length = tot ls := by
  obtain ⟨cur, h1, h2⟩ := h
  have := h1.tot
  omega
theorem Mgd.one {ls : List (List Pr)} {out out' : List Pr} (h : Mgd ls out) (h' : Mgd ls out') : out = out' := by
  have e1 := h.len
  have e2 := h'.len
  obtain ⟨cur, h1, _⟩ := h
  obtain ⟨cur', h1', _⟩ := h'
  unfold MR at h1 h1'
  rw [e1] at h1
  rw [e2] at h1'
  rw [h1] at h1'
  injection h1'
theorem MR.len {ls : List (List Pr)} {out : List Pr} {cur : List (List Pr)} (h : MR ls out cur) : cur.length = ls.length := by
  have : ∀ m, (mst ls m).2.length = ls.length := fun m => by
    induction m with
    | zero => rfl
    | succ m ih =>
      rw [mst]
      split
      · exact ih
      · rw [List.length_set]; exact ih
  have h2 := this out.length
  unfold MR at h
  rwa [h] at h2
end Go.Proofs.Ytjcinhlghlcknaa
