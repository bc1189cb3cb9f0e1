/-
  The tokens of a text, plainly; of two texts with a line's end between; of tokens that are shown.
-/
import Derived.Test.YteckhaicodmakaaGreatDoorLx1
namespace Go.Proofs.YteckhaicodmakaaGreatDoor.Lx

theorem sk_le : ∀ (q : Bool) (l : B), sk q l ≤ l.length
  | true, [] => by simp [sk]
  | false, [] => by simp [sk]
  | true, c :: r => by
    have h1 := sk_le true r
    have h2 := sk_le false r
    rw [sk]; split <;> simp only [List.length_cons] <;> omega
  | false, c :: r => by
    have h1 := sk_le true r
    have h2 := sk_le false r
    rw [sk]; split
    · simp only [List.length_cons]; omega
    · split <;> simp only [List.length_cons] <;> omega

theorem sk_join (t : B) : ∀ (q : Bool) (l : B), sk q l = l.length → sk q (l ++ 10 :: t) = l.length + 1 + sk false t
  | true, [], _ => by simp only [List.nil_append, sk, if_true, List.length_nil]; omega
  | false, [], _ => by
    simp only [List.nil_append, List.length_nil]
    rw [sk, if_pos (by decide)]; omega
  | true, c :: r, h => by
    rw [List.cons_append, sk]
    rw [sk] at h
    split at h
    · rename_i hc
      rw [if_pos hc, sk_join t false r (by simpa using h)]; simp only [List.length_cons]; omega
    · rename_i hc
      rw [if_neg hc, sk_join t true r (by simpa using h)]; simp only [List.length_cons]; omega
  | false, c :: r, h => by
    rw [List.cons_append, sk]
    rw [sk] at h
    split at h
    · rename_i hc
      rw [if_pos hc, sk_join t false r (by simpa using h)]; simp only [List.length_cons]; omega
    · rename_i hc
      rw [if_neg hc]
      split at h
      · rename_i hd
        rw [if_pos ⟨hd.1, by cases r with | nil => simp at hd | cons x r => simpa using hd.2⟩, sk_join t true r (by simpa using h)]; simp only [List.length_cons]; omega
      · simp at h

theorem sk_stop (t : B) : ∀ (q : Bool) (l : B), sk q l < l.length → sk q (l ++ 10 :: t) = sk q l
  | true, [], h => by simp at h
  | false, [], h => by simp at h
  | true, c :: r, h => by
    rw [sk] at h
    rw [List.cons_append, sk, sk]
    split at h
    · rename_i hc
      rw [if_pos hc, if_pos hc, sk_stop t false r (by simpa using h)]
    · rename_i hc
      rw [if_neg hc, if_neg hc, sk_stop t true r (by simpa using h)]
  | false, c :: r, h => by
    rw [sk] at h
    rw [List.cons_append, sk, sk]
    split at h
    · rename_i hc
      rw [if_pos hc, if_pos hc, sk_stop t false r (by simpa using h)]
    · rename_i hc
      rw [if_neg hc, if_neg hc]
      have hh : (c = 45 ∧ (r ++ 10 :: t).head? = some 45) ↔ (c = 45 ∧ r.head? = some 45) := by
        cases r with
        | nil => simp
        | cons x r => simp
      split at h
      · rename_i hd
        rw [if_pos (hh.2 hd), if_pos hd, sk_stop t true r (by simpa using h)]
      · rename_i hd
        rw [if_neg (fun x => hd (hh.1 x)), if_neg hd]

theorem tok_ne {w : B} {t : Tok} (h : TokOf w t) : ∃ c r, w = c :: r ∧ blank c = false ∧ (c = 45 → w = [45]) := by
  cases h with
  | @word _ c r hw hl ha hn =>
    have := wordy_nblank (ha c (by simp [hw]))
    exact ⟨c, r, hw, this.1, fun e => absurd e this.2⟩
  | @num _ c r hw ha hn =>
    have := wordy_nblank (c := c) (by simp [wordy, ha c (by simp [hw])])
    exact ⟨c, r, hw, this.1, fun e => absurd e this.2⟩
  | text hs => exact ⟨39, _, rfl, by decide, fun e => by simp at e⟩
  | sign hs =>
    obtain ⟨c, r, hw, _, _, _, h4⟩ := sign_head hs
    refine ⟨c, r, hw, h4, ?_⟩
    rintro rfl
    simp only [signs, List.mem_cons, List.mem_nil_iff, or_false] at hs
    rcases hs with rfl | rfl | rfl | rfl | rfl | rfl | rfl | rfl | rfl | rfl | rfl | rfl | rfl | rfl | rfl <;> simp at hw ⊢

theorem sk_tok {w r : B} {t : Tok} (h : TokOf w t) : sk false (w ++ 32 :: r) = 0 := by
  obtain ⟨c, w', rfl, hb, hc⟩ := tok_ne h
  rw [List.cons_append, sk, if_neg (by simp [hb]), if_neg]
  rintro ⟨rfl, hd⟩
  obtain rfl : w' = [] := by simpa using hc rfl
  simp at hd

theorem tok_k {w : B} {t : Tok} (h : TokOf w t) : t.k ≠ 6 ∧ t.k ≠ 0 := by
  cases h with
  | word => simp only; split <;> decide
  | num => exact ⟨by simp, by simp⟩
  | text => exact ⟨by simp, by simp⟩
  | sign => exact ⟨by simp, by simp⟩

inductive Toks : B → Nat → List (Tok × Nat) → Nat → Prop
  | fin {l : B} {a : Nat} : sk false l = l.length → Toks l a [(⟨6, [], 0⟩, a + l.length)] (a + l.length)
  | tok {l w r : B} {a : Nat} {t : Tok} {ts : List (Tok × Nat)} {n : Nat} : l.drop (sk false l) = w ++ r → TokOf w t → Foll w r.head? → Toks r (a + sk false l + w.length) ts n → Toks l a ((t, a + sk false l) :: ts) n

inductive Res
  | ok (ts : List (Tok × Nat)) (n : Nat)
  | bad (n e : Nat)

def lx : Nat → B → Nat → Nat → Res
  | 0, _, _, a => .bad a 0
  | f + 1, l, c, a =>
    match cut (l.drop (sk false l)) with
    | none => .bad (a + sk false l) 90
    | some (t, z) =>
      if c = 4096 then .bad (a + sk false l) 3 else if t.k = 6 then .ok [(t, a + sk false l)] (a + sk false l) else
        match lx f ((l.drop (sk false l)).drop z) (c + 1) (a + sk false l + z) with
        | .ok ts n => .ok ((t, a + sk false l) :: ts) n
        | .bad n e => .bad n e

theorem toks_of : ∀ (f : Nat) (l : B) (c a : Nat) (ts : List (Tok × Nat)) (n : Nat), c ≤ 4096 → lx f l c a = .ok ts n → Toks l a ts n ∧ c + ts.length ≤ 4096
  | 0, l, c, a, ts, n, _, h => by simp [lx] at h
  | f + 1, l, c, a, ts, n, hc, h => by
    rw [lx] at h
    split at h
    · cases h
    rename_i t z hcut
    split at h
    · cases h
    rename_i hc'
    by_cases hn : l.drop (sk false l) = []
    · rw [hn, cut] at hcut
      simp only [Option.some.injEq, Prod.mk.injEq] at hcut
      obtain ⟨rfl, rfl⟩ := hcut
      rw [if_pos rfl] at h
      simp only [Res.ok.injEq] at h
      obtain ⟨rfl, rfl⟩ := h
      have h1 := sk_le false l
      have h2 : sk false l = l.length := by have := List.drop_eq_nil_iff.1 hn; omega
      rw [h2]
      exact ⟨.fin h2, by simp only [List.length_cons, List.length_nil]; omega⟩
    · obtain ⟨h1, h2, h3⟩ := cut_inv hn hcut
      rw [if_neg (tok_k h2).1] at h
      split at h
      · rename_i ts' n' hx
        simp only [Res.ok.injEq] at h
        obtain ⟨rfl, rfl⟩ := h
        obtain ⟨i1, i2⟩ := toks_of f _ _ _ _ _ (by omega) hx
        refine ⟨.tok (w := (l.drop (sk false l)).take z) (r := (l.drop (sk false l)).drop z) (List.take_append_drop _ _).symm h2 h3 ?_, by simp only [List.length_cons]; omega⟩
        rw [List.length_take, Nat.min_eq_left h1]
        exact i1
      · cases h

theorem toks_lx {l : B} {a : Nat} {ts : List (Tok × Nat)} {n : Nat} (h : Toks l a ts n) : ∀ (f c : Nat), c + ts.length ≤ 4096 → l.length < f → lx f l c a = .ok ts n := by
  induction h with
  | @fin l a hs =>
    intro f c hc hf
    obtain ⟨f, rfl⟩ : ∃ g, f = g + 1 := ⟨f - 1, by omega⟩
    simp only [List.length_cons, List.length_nil] at hc
    rw [lx, hs, List.drop_length, cut]
    simp only
    rw [if_neg (by omega), if_pos trivial]
  | @tok l w r a t ts n hd ht hf hr ih =>
    intro f c hc hl
    obtain ⟨f, rfl⟩ : ∃ g, f = g + 1 := ⟨f - 1, by omega⟩
    simp only [List.length_cons] at hc
    rw [lx, hd, cut_of ht hf]
    simp only
    rw [if_neg (by omega), if_neg (tok_k ht).1, List.drop_left]
    have hlen : (w ++ r).length ≤ l.length := by rw [← hd, List.length_drop]; omega
    obtain ⟨x, w', hw, _, _⟩ := tok_ne ht
    have hw0 : 0 < w.length := by rw [hw]; simp
    rw [List.length_append] at hlen
    rw [ih f (c + 1) (by omega) (by omega)]

theorem Toks.shift {l : B} {a : Nat} {ts : List (Tok × Nat)} {n : Nat} (h : Toks l a ts n) (d : Nat) : Toks l (a + d) (ts.map fun x => (x.1, x.2 + d)) (n + d) := by
  induction h with
  | @fin l a hs =>
    have := Toks.fin (a := a + d) hs
    rw [show a + d + l.length = a + l.length + d by omega] at this
    exact this
  | @tok l w r a t ts n hd ht hf hr ih =>
    rw [show a + sk false l + w.length + d = a + d + sk false l + w.length by omega] at ih
    have := Toks.tok hd ht hf ih
    rw [show a + d + sk false l = a + sk false l + d by omega] at this
    exact this

theorem Toks.ne {l : B} {a : Nat} {ts : List (Tok × Nat)} {n : Nat} (h : Toks l a ts n) : ts ≠ [] := by cases h <;> simp

/-- More that is skipped before a text. -/
theorem Toks.skip {l l' : B} {a k : Nat} {ts : List (Tok × Nat)} {n : Nat} (h : Toks l (a + k) ts n) (hs : sk false l' = k + sk false l) (hd : l'.drop k = l) (hl : l'.length = k + l.length) : Toks l' a ts n := by
  cases h with
  | fin h =>
    have := Toks.fin (l := l') (a := a) (by omega)
    rw [hl, ← Nat.add_assoc] at this
    exact this
  | tok hd' ht hf hr =>
    rw [Nat.add_assoc, ← hs]
    refine .tok ?_ ht hf (by rw [hs, ← Nat.add_assoc]; exact hr)
    rw [hs, ← List.drop_drop, hd, hd']

theorem Toks.join {l : B} {a : Nat} {ts : List (Tok × Nat)} {n : Nat} (h : Toks l a ts n) {t : B} {us : List (Tok × Nat)} {m : Nat} (g : Toks t 0 us m) :
    Toks (l ++ 10 :: t) a (ts.dropLast ++ us.map fun x => (x.1, x.2 + (n + 1))) (n + 1 + m) := by
  induction h with
  | @fin l a hs =>
    have := g.shift (a + l.length + 1)
    rw [Nat.zero_add, Nat.add_comm m] at this
    simp only [List.dropLast_singleton, List.nil_append]
    refine Toks.skip (l := t) (k := l.length + 1) this (sk_join t false l hs) ?_ ?_
    · rw [show l ++ 10 :: t = (l ++ [10]) ++ t by simp]
      exact List.drop_left' (by simp)
    · simp only [List.length_append, List.length_cons]; omega
  | @tok l w r a t' ts n hd ht hf hr ih =>
    have hlt : sk false l < l.length := by
      obtain ⟨x, w', hw, _, _⟩ := tok_ne ht
      have := congrArg List.length hd
      rw [List.length_drop, hw] at this
      simp only [List.length_append, List.length_cons] at this
      omega
    have hs := sk_stop t false l hlt
    rw [List.dropLast_cons_of_ne_nil hr.ne, List.cons_append, ← hs]
    refine .tok (w := w) (r := r ++ 10 :: t) ?_ ht ?_ (by rw [hs]; exact ih)
    · rw [hs, List.drop_append_of_le_length (by omega), hd, List.append_assoc]
    · cases r with
      | nil => exact foll_blank (.inl rfl)
      | cons x r => exact hf

/-- Tokens shown: a blank between. -/
def shw : List Tok → B
  | [] => []
  | [t] => show1 t
  | t :: u :: r => show1 t ++ 32 :: shw (u :: r)

theorem Toks.shown {l : B} {a : Nat} {ts : List (Tok × Nat)} {n : Nat} (h : Toks l a ts n) :
    (shw (ts.map (·.1))).length ≤ 2 * l.length ∧ ∀ a', ∃ us m, Toks (shw (ts.map (·.1))) a' us m ∧ us.map (·.1) = ts.map (·.1) := by
  induction h with
  | @fin l a hs =>
    simp only [List.map_cons, List.map_nil, shw, show1]
    refine ⟨by simp, fun a' => ⟨_, _, .fin (l := []) (a := a') (by simp [sk]), by simp⟩⟩
  | @tok l w r a t ts n hd ht hf hr ih =>
    obtain ⟨ih1, ih2⟩ := ih
    obtain ⟨u, us, rfl⟩ : ∃ u us, ts = u :: us := by cases ts with | nil => exact absurd rfl hr.ne | cons u us => exact ⟨u, us, rfl⟩
    have e : shw (((t, a + sk false l) :: u :: us).map (·.1)) = w ++ 32 :: shw ((u :: us).map (·.1)) := by
      simp only [List.map_cons, shw, show_tok ht]
    rw [e]
    have hlen := congrArg List.length hd
    rw [List.length_drop, List.length_append] at hlen
    obtain ⟨x, w', hw, _, _⟩ := tok_ne ht
    have hw0 : 0 < w.length := by rw [hw]; simp
    refine ⟨by simp only [List.length_append, List.length_cons]; omega, fun a' => ?_⟩
    obtain ⟨vs, m, h1, h2⟩ := ih2 (a' + w.length + 1)
    have hs := sk_tok (r := shw ((u :: us).map (·.1))) ht
    refine ⟨(t, a') :: vs, m, ?_, by rw [List.map_cons, List.map_cons, h2]⟩
    have := Toks.tok (l := w ++ 32 :: shw ((u :: us).map (·.1))) (w := w) (r := 32 :: shw ((u :: us).map (·.1))) (a := a') (t := t) (ts := vs) (n := m) (by rw [hs]; rfl) ht (foll_blank (.inr rfl)) (by
      rw [hs]
      refine Toks.skip (k := 1) h1 ?_ rfl (by simp only [List.length_cons]; omega)
      rw [sk, if_pos (by decide)]; omega)
    rw [hs] at this
    exact this

end Go.Proofs.YteckhaicodmakaaGreatDoor.Lx
