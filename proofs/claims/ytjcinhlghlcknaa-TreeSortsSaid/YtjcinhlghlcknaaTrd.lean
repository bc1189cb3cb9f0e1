/-
  Package tree: Merge.
-/
import Derived.Test.YtjcinhlghlcknaaTrc
import Derived.Deep.LoopGhost
namespace Go.Proofs.Ytjcinhlghlcknaa
open Go.RowKit

def wkT (L : List Lf) (r : Int) : Int := if 0 ≤ r then (L.getD r.toNat noLf).k else 0
def wtT (L : List Lf) (r : Int) : Int := if 0 ≤ r then (L.getD r.toNat noLf).t else 0
theorem win_any {O : Ord8} {B : Nat} {w : World} {t a b : Nat} {L : List Lf} {M s : Nat} {c : Int} (h : T8 O B w t a b L M s c) {r : Int} (hr : isW L 0 L.length r) :
    Calls Try.prog 21 #[.pointer (some ⟨t, 0, none⟩)] w fun e w' => e = .returned (.tuple #[.int .i64 r, .agg #[.int .i64 (wkT L r), .int .i64 (wtT L r)], .bool (decide (0 ≤ r))]) ∧ Below w.heap.size w w' := by
  rcases Int.lt_or_le r 0 with h0 | h0
  · have e : r = -1 := by
      rcases hr with ⟨ra, _⟩ | ⟨j, ra, _⟩
      · exact ra
      · omega
    subst e
    exact win_none h hr
  · obtain ⟨i, rfl⟩ : ∃ i : Nat, r = i := ⟨_, (Int.toNat_of_nonneg h0).symm⟩
    have := win_some h hr
    refine this.mono fun e w' hh => ⟨?_, hh.2⟩
    rw [hh.1]
    simp [wkT, wtT]
theorem own_set {w : World} {base n cap g : Nat} {e : TypeId} {xs : List Value} (h : w.ownsRow base e 1 (.slice (some ⟨g, 0, none⟩) n cap) n xs) (i : Nat) (u : Value) :
    (w.setCell ⟨g, i, none⟩ u).ownsRow base e 1 (.slice (some ⟨g, 0, none⟩) n cap) n (xs.set i u) := by
  refine ⟨by rw [List.length_set]; exact h.1, ?_⟩
  rcases h.2 with ⟨hv, _⟩ | ⟨g', cap', cur, hv, hb, hg, h1, h2, h3, h4⟩
  · cases hv
  · simp only [Value.slice.injEq, Option.some.injEq, Addr.mk.injEq] at hv
    obtain ⟨⟨rfl, _⟩, _, rfl⟩ := hv
    refine .inr ⟨g, cap, cur.setIfInBounds i u, rfl, hb, ?_, h1, h2, by simpa using h3, ?_⟩
    · simp only [World.setCell, Array.getElem?_modify, if_true, hg]
      rfl
    · rw [← h4, Array.toList_setIfInBounds, List.take_set]
theorem own_block {w : World} {base n cap g sz : Nat} {e : TypeId} {xs : List Value} (h : w.ownsRow base e sz (.slice (some ⟨g, 0, none⟩) n cap) n xs) : base ≤ g ∧ ∃ cur, w.heap[g]? = some (.cells cur e (0, 0)) := by
  rcases h.2 with ⟨hv, _⟩ | ⟨g', cap', cur, hv, hb, hg, _⟩
  · cases hv
  · simp only [Value.slice.injEq, Option.some.injEq, Addr.mk.injEq] at hv
    obtain ⟨⟨rfl, _⟩, _, rfl⟩ := hv
    exact ⟨hb, cur, hg⟩
theorem own_sameT {w w' : World} {B : Nat} {e : TypeId} {v : Value} {n : Nat} {xs : List Value} {size : Nat} (h : w.ownsRow B e size v n xs) (hb : ∀ k, v.ownBlock = some k → w'.heap[k]? = w.heap[k]?) : w'.ownsRow B e size v n xs := by
  refine ⟨h.1, ?_⟩
  rcases h.2 with hn | ⟨g, cap, cur, rfl, hbb, hgg, rest⟩
  · exact .inl hn
  · exact .inr ⟨g, cap, cur, rfl, hbb, (hb g rfl).trans hgg, rest⟩
theorem own_cell1 {w : World} {base n cap g : Nat} {e : TypeId} {xs : List Value} (h : w.ownsRow base e 1 (.slice (some ⟨g, 0, none⟩) n cap) n xs) {i : Nat} {u : Value} (hu : xs[i]? = some u) : w.cell? ⟨g, i, none⟩ = some u ∧ w.frozen? ⟨g, i, none⟩ = false := by
  obtain ⟨_, cur, hg⟩ := own_block h
  refine ⟨?_, by simp [World.frozen?, hg]⟩
  have := h.cells (g := g) rfl i u hu
  by_cases h0 : i = 0
  · subst h0; simpa [Addr.add] using this
  · simpa [Addr.add, h0] using this
/-- A merge in memory: the tree, what is left of each list. -/
structure MgS (U : Nat) (w0 w : World) (t a b g cap n M s : Nat) (L : List Lf) (rs : List (List Pr)) : Prop where
  tr : T8 plainO U w t a b L M s 0
  rest : ∃ vs, w.ownsRow U 42 1 (.slice (some ⟨g, 0, none⟩) n cap) n vs ∧ PVs U w vs rs
  below : Below U w0 w
  ll : L.length = n
  rl : rs.length = n
section
variable {U : Nat} {w0 w w' : World} {t a b g cap n M s : Nat} {L : List Lf} {rs : List (List Pr)}
theorem MgS.ne (h : MgS U w0 w t a b g cap n M s L rs) : g ≠ t ∧ g ≠ a ∧ g ≠ b ∧ g < w.heap.size ∧ t < w.heap.size ∧ a < w.heap.size ∧ b < w.heap.size := by
  obtain ⟨vs, ho, _⟩ := h.rest
  obtain ⟨_, cur, hg⟩ := own_block ho
  obtain ⟨W, hT, _⟩ := h.tr.at'
  refine ⟨fun e => ?_, fun e => ?_, fun e => ?_, block_ltT hg, block_ltT hT.box, block_ltT hT.things, block_ltT hT.wins⟩
  · rw [e, hT.box] at hg; simp at hg
  · rw [e, hT.things] at hg; simp at hg
  · rw [e, hT.wins] at hg; simp at hg
/-- All four blocks of a merge are as they were. -/
theorem MgS.same (h : MgS U w0 w t a b g cap n M s L rs) (hb : Below U w w') (hs : ∀ k, k = t ∨ k = a ∨ k = b ∨ k = g → w'.heap[k]? = w.heap[k]?) : MgS U w0 w' t a b g cap n M s L rs := by
  obtain ⟨vs, ho, hp⟩ := h.rest
  obtain ⟨W, hT, hw⟩ := h.tr.at'
  refine ⟨⟨⟨W, hT.same (hs t (.inl rfl)) (hs a (.inr (.inl rfl))) (hs b (.inr (.inr (.inl rfl)))), hw⟩, Int.le_refl _, h.tr.z, h.tr.m, h.tr.s6⟩, ⟨vs, own_sameT ho (fun k hk => ?_), hp.kept hb⟩, h.below.trans hb, h.ll, h.rl⟩
  simp only [Value.ownBlock, Option.some.injEq] at hk
  exact hs k (.inr (.inr (.inr hk.symm)))
theorem MgS.lo (h : MgS U w0 w t a b g cap n M s L rs) : U ≤ w.heap.size := h.tr.lt
theorem MgS.kept (h : MgS U w0 w t a b g cap n M s L rs) (hb : Below w.heap.size w w') : MgS U w0 w' t a b g cap n M s L rs := by
  obtain ⟨_, _, _, l1, l2, l3, l4⟩ := h.ne
  refine h.same (hb.mono h.lo) (fun k hk => hb.block k ?_)
  rcases hk with rfl | rfl | rfl | rfl <;> assumption
theorem MgS.cell (h : MgS U w0 w t a b g cap n M s L rs) {i : Nat} (hi : i < n) : ∃ v, w.cell? ⟨g, i, none⟩ = some v ∧ w.frozen? ⟨g, i, none⟩ = false ∧ PV U w v (rs.getD i []) := by
  obtain ⟨vs, ho, hp⟩ := h.rest
  have h1 := hp.1
  have h2 := h.rl
  have hiv : i < vs.length := by omega
  obtain ⟨c1, c2⟩ := own_cell1 ho (List.getElem?_eq_getElem hiv)
  refine ⟨vs[i], c1, c2, ?_⟩
  rw [List.getD_eq_getElem?_getD, List.getElem?_eq_getElem (by omega)]
  exact hp.2 i _ _ (List.getElem?_eq_getElem hiv) (List.getElem?_eq_getElem (by omega))
/-- hand has been called, and what is left of the list stored. -/
theorem MgS.hand (h : MgS U w0 w t a b g cap n M s L rs) {i : Nat} (hi : i < n) {w1 : World} {v : Value} {r : List Pr} (hv : PV U w1 v r.tail) (ht : T8 plainO U w1 t a b (L.set i (hdL r)) M s 0) (ho : Ofs (TS plainO a b) w w1) :
    (w1.frozen? ⟨g, i, none⟩ = false ∧ ∃ u, w1.cell? ⟨g, i, none⟩ = some u) ∧ MgS U w0 (w1.setCell ⟨g, i, none⟩ v) t a b g cap n M s (L.set i (hdL r)) (rs.set i r.tail) := by
  obtain ⟨n1, n2, n3, l1, l2, l3, l4⟩ := h.ne
  obtain ⟨vs, hw, hp⟩ := h.rest
  have hlo := h.tr.lo
  have hgU := (own_block hw).1
  have hb1 : Below U w w1 := ho.belowT hlo.2.1 hlo.2.2 h.lo
  have hg1 : w1.heap[g]? = w.heap[g]? := ho.block g l1 (fun hk => by
    rcases hk with hk | hk | hk
    · exact n2 hk
    · exact n3 hk
    · exact hk)
  have hw1 : w1.ownsRow U 42 1 (.slice (some ⟨g, 0, none⟩) n cap) n vs := own_sameT hw (fun k hk => by
    simp only [Value.ownBlock, Option.some.injEq] at hk
    rw [← hk]; exact hg1)
  have hvl : i < vs.length := by have := hp.1; have := h.rl; omega
  have hbs : Below U w1 (w1.setCell ⟨g, i, none⟩ v) := (Below.refl U w1).setCell hgU _
  have hso : ∀ k, k ≠ g → (w1.setCell ⟨g, i, none⟩ v).heap[k]? = w1.heap[k]? := fun k hk => by simp [World.setCell, Array.getElem?_modify, Ne.symm hk]
  obtain ⟨W, hT, hwn⟩ := ht.at'
  obtain ⟨c1, c2⟩ := own_cell1 hw1 (List.getElem?_eq_getElem hvl)
  exact ⟨⟨c2, _, c1⟩, ⟨⟨⟨W, hT.same (hso t (Ne.symm n1)) (hso a (Ne.symm n2)) (hso b (Ne.symm n3)), hwn⟩, Int.le_refl _, ht.z, ht.m, ht.s6⟩, ⟨_, own_set hw1 i v, ((hp.kept hb1).kept hbs).set i (hv.kept hbs)⟩, (h.below.trans hb1).trans hbs, by rw [List.length_set]; exact h.ll, by rw [List.length_set]; exact h.rl⟩⟩
end
/-- The lists whose firsts have been handed over, up to i. -/
def l1 (ls : List (List Pr)) (i : Nat) : List Lf := hds (ls.take i ++ List.replicate (ls.length - i) [])
def r1 (ls : List (List Pr)) (i : Nat) : List (List Pr) := (ls.take i).map List.tail ++ ls.drop i
theorem l1_zero (ls : List (List Pr)) : l1 ls 0 = List.replicate ls.length noLf := by simp [l1, hds, hdL]
theorem l1_all (ls : List (List Pr)) : l1 ls ls.length = hds ls := by simp [l1]
theorem r1_all (ls : List (List Pr)) : r1 ls ls.length = ls.map List.tail := by simp [r1]
theorem l1_step {ls : List (List Pr)} {i : Nat} (hi : i < ls.length) : (l1 ls i).set i (hdL (ls.getD i [])) = l1 ls (i + 1) := by
  unfold l1
  rw [← hds_set, List.getD_eq_getElem?_getD, List.getElem?_eq_getElem hi, Option.getD_some]
  obtain ⟨q, hq⟩ : ∃ q, ls.length - i = q + 1 := ⟨ls.length - i - 1, by omega⟩
  rw [hq, show ls.length - (i + 1) = q by omega, List.set_append_right _ _ (by simp; omega), show i - (ls.take i).length = 0 by simp; omega, List.replicate_succ, List.set_cons_zero, List.take_succ_eq_append_getElem hi, List.append_assoc]
  rfl
theorem r1_get {ls : List (List Pr)} {i : Nat} (hi : i < ls.length) : (r1 ls i).getD i [] = ls.getD i [] := by
  unfold r1
  have e : min i ls.length = i := by omega
  simp [List.getD_eq_getElem?_getD, List.getElem?_append_right, e]
theorem r1_step {ls : List (List Pr)} {i : Nat} (hi : i < ls.length) : (r1 ls i).set i (ls.getD i []).tail = r1 ls (i + 1) := by
  unfold r1
  rw [List.getD_eq_getElem?_getD, List.getElem?_eq_getElem hi, Option.getD_some, List.set_append_right _ _ (by simp; omega), show i - ((ls.take i).map List.tail).length = 0 by simp; omega, List.drop_eq_getElem_cons hi, List.set_cons_zero, List.take_succ_eq_append_getElem hi, List.map_append, List.append_assoc]
  rfl
end Go.Proofs.Ytjcinhlghlcknaa
