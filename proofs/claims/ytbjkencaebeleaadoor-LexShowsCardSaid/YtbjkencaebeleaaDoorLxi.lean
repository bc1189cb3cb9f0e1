/-
  What the two laws want of tokens, plainly.
-/
import Derived.Test.YtbjkencaebeleaaDoorLxh
namespace Go.Proofs.YtbjkencaebeleaaDoor
open Go.RowKit Go.Shelf

theorem lx_bad : ∀ (f : Nat) (l : Lx.B) (c a n e : Nat), l.length < f → Lx.lx f l c a = .bad n e → e ≠ 0
  | 0, l, c, a, n, e, hl, _ => by omega
  | f + 1, l, c, a, n, e, hl, h => by
    cases hc : Lx.cut (l.drop (Lx.sk false l)) with
    | none =>
      rw [lx_none hc] at h
      simp only [Lx.Res.bad.injEq] at h
      omega
    | some x =>
      obtain ⟨t, z⟩ := x
      by_cases h4 : c = 4096
      · subst h4
        rw [lx_long hc] at h
        simp only [Lx.Res.bad.injEq] at h
        omega
      · by_cases h6 : t.k = 6
        · rw [lx_fin hc h4 h6] at h; cases h
        · have hz := (cut_kind hc).2 h6
          have hlz : z ≤ (l.drop (Lx.sk false l)).length := by
            refine (Lx.cut_inv ?_ hc).1
            intro h0
            rw [h0] at hc
            simp only [Lx.cut, Option.some.injEq, Prod.mk.injEq] at hc
            exact h6 (by rw [← hc.1])
          have ih := lx_bad f ((l.drop (Lx.sk false l)).drop z) (c + 1) (a + Lx.sk false l + z)
          have hm := lx_more (f := f) (a := a) hc h4 h6 []
          rw [h] at hm
          cases hr : Lx.lx f ((l.drop (Lx.sk false l)).drop z) (c + 1) (a + Lx.sk false l + z) with
          | ok us m => rw [hr] at hm; simp [Lx.pre] at hm
          | bad m e' =>
            rw [hr] at hm
            simp only [Lx.pre, Lx.Res.bad.injEq] at hm
            have := ih m e' (by rw [List.length_drop]; rw [List.length_drop] at hlz ⊢; omega) hr
            omega
theorem joins_plain {s t u : ByteArray} {a b : List TkA} {n m : Nat} (hu : bs u = bs s ++ 10 :: bs t) (h1 : Lx.lx (s.size + 1) (bs s) 0 0 = .ok a n) (h2 : Lx.lx (t.size + 1) (bs t) 0 0 = .ok b m) (hl : a.length + b.length ≤ 4096) :
    Lx.lx (u.size + 1) (bs u) 0 0 = .ok (a.dropLast ++ b.map fun x => (x.1, x.2 + (n + 1))) (n + 1 + m) := by
  obtain ⟨t1, _⟩ := Lx.toks_of _ _ _ _ _ _ (Nat.zero_le _) h1
  obtain ⟨t2, _⟩ := Lx.toks_of _ _ _ _ _ _ (Nat.zero_le _) h2
  rw [hu]
  refine Lx.toks_lx (t1.join t2) _ 0 ?_ (by rw [← bs_len, hu]; omega)
  simp only [List.length_append, List.length_dropLast, List.length_map]
  omega
theorem AllV.form {base : Nat} {w' : World} {r : Lx.Res} {v : Value} (h : AllV base w' r v) : ∃ l n e, v = .tuple #[l, .int .i64 n, .int .i64 e] := by
  cases r with
  | ok ts n => obtain ⟨l, hv, _⟩ := h; exact ⟨l, _, _, hv⟩
  | bad n e => exact ⟨_, _, _, h⟩
theorem ok_ne {s : ByteArray} {a : List TkA} {n : Nat} (h1 : Lx.lx (s.size + 1) (bs s) 0 0 = .ok a n) : a ≠ [] ∧ a.length ≤ 4096 := by
  obtain ⟨t1, h⟩ := Lx.toks_of _ _ _ _ _ _ (Nat.zero_le _) h1
  exact ⟨t1.ne, by omega⟩
/-- A part of tokens that can be read. -/
theorem tks_drop (l : List TkA) (k : Nat) : tks (l.drop k) = (tks l).drop (k * 4) := by
  induction l generalizing k with
  | nil => simp [tks]
  | cons x l ih =>
    cases k with
    | zero => simp
    | succ k =>
      rw [List.drop_succ_cons, ih, show tks (x :: l) = tkc x ++ tks l from rfl, show (k + 1) * 4 = 4 + k * 4 by omega, ← List.drop_drop]
      rfl
theorem TkAt.part {w : World} {g : Nat} {l : List TkA} (h : TkAt w (some ⟨g, 0, none⟩) l) (k : Nat) : TkAt w (some ⟨g, k * 4, none⟩) (l.drop k) := by
  rcases h with rfl | ⟨g', off, e, h⟩
  · exact .inl (by simp)
  · simp only [Option.some.injEq, Addr.mk.injEq] at e
    obtain ⟨rfl, rfl, _⟩ := e
    refine .inr ⟨g, k * 4, rfl, fun j u hj => ?_⟩
    rw [tks_drop, List.getElem?_drop] at hj
    have := h _ _ hj
    rwa [Nat.zero_add] at this
theorem TkAt.take {w : World} {A : Option Addr} {l r : List TkA} (h : TkAt w A (l ++ r)) : TkAt w A l := by
  rcases h with h | ⟨g, off, e, h⟩
  · exact .inl (List.append_eq_nil_iff.1 h).1
  · refine .inr ⟨g, off, e, fun j u hj => h j u ?_⟩
    rw [tks_app, List.getElem?_append_left (List.getElem?_eq_some_iff.1 hj).1]; exact hj
theorem place_eq {l : Lx.B} {a : Nat} {ts : List TkA} {n : Nat} (h : Lx.Toks l a ts n) : n = a + l.length := by
  induction h with
  | fin _ => rfl
  | @tok l w r a t ts n hd ht hf hr ih =>
    have := congrArg List.length hd
    obtain ⟨x, w', hw, _, _⟩ := Lx.tok_ne ht
    have hw0 : 0 < w.length := by rw [hw]; simp
    rw [List.length_drop, List.length_append] at this
    omega
theorem lx_place {s : ByteArray} {a : List TkA} {n : Nat} (h1 : Lx.lx (s.size + 1) (bs s) 0 0 = .ok a n) : n = s.size := by
  obtain ⟨t1, h⟩ := Lx.toks_of _ _ _ _ _ _ (Nat.zero_le _) h1
  rw [place_eq t1, bs_len]; omega
/-- What LexJoins' last region keeps. -/
def JI (w : World) (g1 g2 g3 : Nat) (a b q : List TkA) (w' : World) : Prop :=
  TkAt w' (some ⟨g1, 0, none⟩) a ∧ TkAt w' (some ⟨g2, 0, none⟩) b ∧ TkAt w' (some ⟨g3, 0, none⟩) q ∧ Below w.heap.size w w'
theorem JI.kept {w : World} {g1 g2 g3 : Nat} {a b q : List TkA} {w1 w2 : World} (h : JI w g1 g2 g3 a b q w1) (hb : Below w1.heap.size w1 w2) : JI w g1 g2 g3 a b q w2 :=
  ⟨h.1.kept hb, h.2.1.kept hb, h.2.2.1.kept hb, bt h.2.2.2 hb⟩
theorem JI.drew {w : World} {g1 g2 g3 : Nat} {a b q : List TkA} {w1 : World} (h : JI w g1 g2 g3 a b q w1) : JI w g1 g2 g3 a b q w1.drew :=
  h.kept (Below.drew (Below.refl _ w1))
theorem Told.reads2 {base : Nat} {W : World} {v : Value} {l : List TkA} (h : W.ownsRow base 32 4 v l.length (tks l)) (hl : l ≠ []) : ∃ g cap, v = .slice (some ⟨g, 0, none⟩) l.length cap ∧ TkAt W (some ⟨g, 0, none⟩) l ∧ l.length ≤ cap := by
  obtain ⟨g, cap, rfl, hat⟩ := Told.reads h hl
  rcases h.2 with ⟨hv, _⟩ | ⟨g', cap', cur, hv, _, _, hc, _⟩
  · cases hv
  · simp only [Value.slice.injEq] at hv
    exact ⟨g, cap, rfl, hat, by omega⟩
end Go.Proofs.YtbjkencaebeleaaDoor
