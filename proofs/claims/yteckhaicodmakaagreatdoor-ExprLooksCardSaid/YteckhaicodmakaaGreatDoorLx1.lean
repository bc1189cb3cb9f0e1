/-
  Tokens, plainly: blanks and remarks, cuts of texts, what a token's text is and what may follow it.
-/
import Derived.Lib.Hide
namespace Go.Proofs.YteckhaicodmakaaGreatDoor.Lx
abbrev B := List UInt8

def blank (c : UInt8) : Bool := decide (c = 32 ∨ c = 9 ∨ c = 10 ∨ c = 13)
def letter (c : UInt8) : Bool := decide (c = 95 ∨ (97 ≤ c.toNat ∧ c.toNat ≤ 122) ∨ (65 ≤ c.toNat ∧ c.toNat ≤ 90))
def digit (c : UInt8) : Bool := decide (48 ≤ c.toNat ∧ c.toNat ≤ 57)
def wordy (c : UInt8) : Bool := letter c || digit c

/-- Where blanks and remarks end; true: within a remark. -/
def sk : Bool → B → Nat
  | _, [] => 0
  | true, c :: r => if c = 10 then sk false r + 1 else sk true r + 1
  | false, c :: r => if blank c then sk false r + 1 else if c = 45 ∧ r.head? = some 45 then sk true r + 1 else 0

structure Tok where
  k : Nat
  s : B
  n : Nat
  deriving DecidableEq

def keys : List B := ["ALL", "AND", "ANTI", "AS", "BY", "COUNT", "DESC", "DISTINCT", "FALSE", "FROM", "GROUP", "IS", "JOIN", "LEFT", "LIMIT", "MAX", "MIN", "NOT", "NULL", "ON", "OR", "ORDER", "SELECT", "SEMI", "SUM", "TRUE", "UNION", "WHERE"].map fun s => s.toUTF8.data.toList
def signs : List B := [[60, 61], [62, 61], [60, 62], [40], [41], [44], [46], [42], [43], [45], [47], [37], [61], [60], [62]]
def key (w : B) : Bool := keys.contains w
def val (w : B) : Nat := w.foldl (fun n c => 10 * n + (c.toNat - 48)) 0

def cutWord (l : B) : Option (Tok × Nat) :=
  let w := l.takeWhile wordy
  if 24 < w.length then none else some (⟨if key w then 2 else 1, w, 0⟩, w.length)
def cutNum (l : B) : Option (Tok × Nat) :=
  let w := l.takeWhile digit
  if ((l.drop w.length).head?.any letter) = true then none else if 9007199254740991 < val w then none else some (⟨3, w, val w⟩, w.length)
/-- What a text says from a place on, and what is left; true: a quote has just been read. -/
def txq : Bool → B → B → Option (B × B)
  | true, [], s => some (s, [])
  | true, c :: r, s => if c = 39 then txq false r (s ++ [39]) else some (s, c :: r)
  | false, [], _ => none
  | false, c :: r, s => if 64 < s.length then none else if c = 39 then txq true r s else txq false r (s ++ [c])
def cutText (l : B) : Option (Tok × Nat) := (txq false (l.drop 1) []).map fun x => (⟨4, x.1, 0⟩, l.length - x.2.length)
def cutSign (l : B) : Option (Tok × Nat) := (signs.find? (·.isPrefixOf l)).map fun w => (⟨5, w, 0⟩, w.length)
def cut (l : B) : Option (Tok × Nat) :=
  match l with
  | [] => some (⟨6, [], 0⟩, 0)
  | c :: r => if letter c then cutWord (c :: r) else if digit c then cutNum (c :: r) else if c = 39 then cutText (c :: r) else cutSign (c :: r)

def dbl (s : B) : B := s.flatMap fun c => if c = 39 then [39, 39] else [c]
/-- A token's text. -/
inductive TokOf : B → Tok → Prop
  | word {w : B} {c : UInt8} {r : B} : w = c :: r → letter c = true → (∀ x ∈ w, wordy x = true) → w.length ≤ 24 → TokOf w ⟨if key w then 2 else 1, w, 0⟩
  | num {w : B} {c : UInt8} {r : B} : w = c :: r → (∀ x ∈ w, digit x = true) → val w ≤ 9007199254740991 → TokOf w ⟨3, w, val w⟩
  | text {s : B} : s.length ≤ 64 → TokOf (39 :: (dbl s ++ [39])) ⟨4, s, 0⟩
  | sign {w : B} : w ∈ signs → TokOf w ⟨5, w, 0⟩
/-- What may follow a token's text. -/
def Foll (w : B) (o : Option UInt8) : Prop :=
  ∀ x, o = some x → ((∃ c r, w = c :: r ∧ wordy c = true) → wordy x = false) ∧ ((∃ r, w = 39 :: r) → x ≠ 39) ∧ (w = [60] → x ≠ 61 ∧ x ≠ 62) ∧ (w = [62] → x ≠ 61)

def show1 (t : Tok) : B := if t.k = 4 then 39 :: (dbl t.s ++ [39]) else if t.k = 6 then [] else t.s

theorem foll_blank {w : B} {x : UInt8} (h : x = 10 ∨ x = 32) : Foll w (some x) := by
  intro y hy
  obtain rfl : x = y := by simpa using hy
  rcases h with rfl | rfl <;> exact ⟨fun _ => by decide, fun _ => by decide, fun _ => by decide, fun _ => by decide⟩

theorem show_tok {w : B} {t : Tok} (h : TokOf w t) : show1 t = w := by
  cases h with
  | word hw hl ha hn => simp only [show1]; split <;> rfl
  | num hw ha hn => rfl
  | text hs => rfl
  | sign hs => rfl

theorem digit_letter {c : UInt8} (h : digit c = true) : letter c = false := by
  simp only [digit, letter, decide_eq_true_eq, decide_eq_false_iff_not] at *
  rintro (rfl | h' | h')
  · simp at h
  · omega
  · omega

theorem sign_head {w : B} (h : w ∈ signs) : ∃ c r, w = c :: r ∧ letter c = false ∧ digit c = false ∧ c ≠ 39 ∧ blank c = false := by
  simp only [signs, List.mem_cons, List.mem_nil_iff, or_false] at h
  rcases h with rfl | rfl | rfl | rfl | rfl | rfl | rfl | rfl | rfl | rfl | rfl | rfl | rfl | rfl | rfl <;> exact ⟨_, _, rfl, by decide, by decide, by decide, by decide⟩

theorem wordy_nblank {c : UInt8} (h : wordy c = true) : blank c = false ∧ c ≠ 45 := by
  simp only [wordy, letter, digit, blank, Bool.or_eq_true, decide_eq_true_eq, decide_eq_false_iff_not] at *
  constructor
  · rintro (rfl | rfl | rfl | rfl) <;> simp at h
  · rintro rfl; simp at h

theorem takeWhile_all {p : UInt8 → Bool} {w r : B} (ha : ∀ x ∈ w, p x = true) (hr : ∀ x, r.head? = some x → p x = false) : (w ++ r).takeWhile p = w := by
  induction w with
  | nil =>
    cases r with
    | nil => rfl
    | cons c r => simp [hr c rfl]
  | cons c w ih => simp [ha c (by simp), ih fun x hx => ha x (by simp [hx])]

theorem takeWhile_take (p : UInt8 → Bool) (l : B) : l.take (l.takeWhile p).length = l.takeWhile p := by
  induction l with
  | nil => rfl
  | cons c l ih => by_cases h : p c = true <;> simp [h, ih]
theorem takeWhile_next (p : UInt8 → Bool) (l : B) (x : UInt8) (h : (l.drop (l.takeWhile p).length).head? = some x) : p x = false := by
  induction l with
  | nil => simp at h
  | cons c l ih =>
    by_cases hc : p c = true
    · simp only [List.takeWhile_cons, hc, if_true, List.length_cons, List.drop_succ_cons] at h; exact ih h
    · simp only [List.takeWhile_cons, hc, Bool.false_eq_true, if_false, List.length_nil, List.drop_zero, List.head?_cons, Option.some.injEq] at h
      subst h; simpa using hc
theorem takeWhile_mem (p : UInt8 → Bool) (l : B) : ∀ x ∈ l.takeWhile p, p x = true := by
  induction l with
  | nil => simp
  | cons c l ih =>
    by_cases hc : p c = true
    · simp only [List.takeWhile_cons, hc, if_true, List.mem_cons]; rintro x (rfl | hx); exact hc; exact ih x hx
    · simp [hc]
theorem takeWhile_le (p : UInt8 → Bool) (l : B) : (l.takeWhile p).length ≤ l.length := by
  induction l with
  | nil => simp
  | cons c l ih =>
    by_cases hc : p c = true
    · simp only [List.takeWhile_cons, hc, if_true, List.length_cons]; omega
    · simp [hc]

/-! The texts of texts -/
theorem txq_done (body s left : B) (h : (s ++ body).length ≤ 64) (hl : left.head? ≠ some 39) : txq false (dbl body ++ 39 :: left) s = some (s ++ body, left) := by
  induction body generalizing s with
  | nil =>
    simp only [dbl, List.flatMap_nil, List.nil_append, List.append_nil] at *
    rw [txq, if_neg (by omega), if_pos rfl]
    cases left with
    | nil => rfl
    | cons c l => rw [txq, if_neg (by simpa using hl)]
  | cons c b ih =>
    have hn : ¬ 64 < s.length := by simp only [List.length_append, List.length_cons] at h; omega
    by_cases hc : c = 39
    · subst hc
      simp only [dbl, List.flatMap_cons, if_true, List.cons_append, List.nil_append] at *
      rw [txq, if_neg hn, if_pos rfl, txq, if_pos rfl, ih (s ++ [39]) (by simpa using h)]
      simp
    · simp only [dbl, List.flatMap_cons, if_neg hc, List.cons_append, List.nil_append] at *
      rw [txq, if_neg hn, if_neg hc, ih (s ++ [c]) (by simpa using h)]
      simp

theorem txq_inv : ∀ (l : B) (q : Bool) (s S left : B), (q = true → s.length ≤ 64) → txq q l s = some (S, left) →
    left.head? ≠ some 39 ∧ S.length ≤ 64 ∧ (q = false → ∃ body, S = s ++ body ∧ l = dbl body ++ 39 :: left) ∧ (q = true → (S = s ∧ left = l) ∨ ∃ body r, l = 39 :: r ∧ S = s ++ 39 :: body ∧ r = dbl body ++ 39 :: left)
  | [], true, s, S, left, hq, h => by
    simp only [txq, Option.some.injEq, Prod.mk.injEq] at h
    obtain ⟨rfl, rfl⟩ := h
    exact ⟨by simp, hq rfl, by simp, fun _ => .inl ⟨rfl, rfl⟩⟩
  | c :: r, true, s, S, left, hq, h => by
    rw [txq] at h
    by_cases hc : c = 39
    · rw [if_pos hc] at h
      obtain ⟨h1, h2, h3, _⟩ := txq_inv r false _ S left (by simp) h
      obtain ⟨body, e1, e2⟩ := h3 rfl
      exact ⟨h1, h2, by simp, fun _ => .inr ⟨body, r, by rw [hc], by simpa using e1, e2⟩⟩
    · rw [if_neg hc] at h
      simp only [Option.some.injEq, Prod.mk.injEq] at h
      obtain ⟨rfl, rfl⟩ := h
      exact ⟨by simpa using hc, hq rfl, by simp, fun _ => .inl ⟨rfl, rfl⟩⟩
  | [], false, s, S, left, hq, h => by simp [txq] at h
  | c :: r, false, s, S, left, hq, h => by
    rw [txq] at h
    by_cases hn : 64 < s.length
    · rw [if_pos hn] at h; cases h
    rw [if_neg hn] at h
    by_cases hc : c = 39
    · rw [if_pos hc] at h
      obtain ⟨h1, h2, _, h4⟩ := txq_inv r true s S left (fun _ => by omega) h
      refine ⟨h1, h2, fun _ => ?_, by simp⟩
      rcases h4 rfl with ⟨rfl, rfl⟩ | ⟨body, r', rfl, rfl, rfl⟩
      · exact ⟨[], by simp, by simp [dbl, hc]⟩
      · exact ⟨39 :: body, rfl, by simp [dbl, hc]⟩
    · rw [if_neg hc] at h
      obtain ⟨h1, h2, h3, _⟩ := txq_inv r false (s ++ [c]) S left (by simp) h
      obtain ⟨body, rfl, rfl⟩ := h3 rfl
      exact ⟨h1, h2, fun _ => ⟨c :: body, by simp, by simp [dbl, hc]⟩, by simp⟩

/-! A cut, both ways -/
theorem cut_of {w r : B} {t : Tok} (h : TokOf w t) (hf : Foll w r.head?) : cut (w ++ r) = some (t, w.length) := by
  cases h with
  | @word w c r' hw hl ha hn =>
    have hx : (w ++ r).takeWhile wordy = w := takeWhile_all ha fun x hx => (hf x hx).1 ⟨c, r', hw, ha c (by simp [hw])⟩
    have : cut (w ++ r) = cutWord (w ++ r) := by rw [hw]; simp [cut, hl]
    rw [this, cutWord, hx]
    rw [if_neg (by omega)]
  | @num w c r' hw ha hn =>
    have hwy : wordy c = true := by simp [wordy, ha c (by simp [hw])]
    have hnx : ∀ x, r.head? = some x → wordy x = false := fun x hx => (hf x hx).1 ⟨c, r', hw, hwy⟩
    have hx : (w ++ r).takeWhile digit = w := takeWhile_all ha fun x hx => by have := hnx x hx; simp only [wordy, Bool.or_eq_false_iff] at this; exact this.2
    have hl : letter c = false := digit_letter (ha c (by simp [hw]))
    have : cut (w ++ r) = cutNum (w ++ r) := by rw [hw]; simp [cut, hl, ha c (by simp [hw])]
    rw [this, cutNum, hx]
    simp only [List.drop_left]
    rw [if_neg (by
      intro h
      cases hr : r.head? with
      | none => simp [hr] at h
      | some x => have := hnx x hr; simp only [hr, Option.any_some] at h; simp [wordy, h] at this), if_neg (by omega)]
  | @text s hs =>
    have : cut (39 :: (dbl s ++ [39]) ++ r) = cutText (39 :: (dbl s ++ [39]) ++ r) := by
      rw [List.cons_append, cut, if_neg (by decide), if_neg (by decide), if_pos rfl]
    rw [this, cutText]
    have hq : txq false (dbl s ++ 39 :: r) [] = some ([] ++ s, r) := txq_done s [] r (by simpa using hs) (by
      intro hh
      exact (hf 39 hh).2.1 ⟨_, rfl⟩ rfl)
    simp only [List.cons_append, List.drop_succ_cons, List.drop_zero, List.append_assoc, List.nil_append] at hq ⊢
    rw [hq]
    simp
    omega
  | @sign w hs =>
    obtain ⟨c, r', hw, h1, h2, h3, h4⟩ := sign_head hs
    have : cut (w ++ r) = cutSign (w ++ r) := by rw [hw]; simp [cut, h1, h2, h3]
    rw [this]
    clear this h1 h2 h3 h4 hw
    simp only [signs, List.mem_cons, List.mem_nil_iff, or_false] at hs
    cases r with
    | nil => rcases hs with rfl | rfl | rfl | rfl | rfl | rfl | rfl | rfl | rfl | rfl | rfl | rfl | rfl | rfl | rfl <;> rfl
    | cons x r =>
      have hf := hf x rfl
      rcases hs with rfl | rfl | rfl | rfl | rfl | rfl | rfl | rfl | rfl | rfl | rfl | rfl | rfl | rfl | rfl
      case inr.inr.inr.inr.inr.inr.inr.inr.inr.inr.inr.inr.inr.inl =>
        have := hf.2.2.1 rfl
        simp [cutSign, signs, List.isPrefixOf, Ne.symm this.1, Ne.symm this.2]
      case inr.inr.inr.inr.inr.inr.inr.inr.inr.inr.inr.inr.inr.inr =>
        have := hf.2.2.2 rfl
        simp [cutSign, signs, List.isPrefixOf, Ne.symm this]
      all_goals simp [cutSign, signs, List.isPrefixOf]

theorem cut_inv {l : B} {t : Tok} {n : Nat} (hl : l ≠ []) (h : cut l = some (t, n)) : n ≤ l.length ∧ TokOf (l.take n) t ∧ Foll (l.take n) (l.drop n).head? := by
  cases l with
  | nil => exact absurd rfl hl
  | cons c r =>
    rw [cut] at h
    by_cases h1 : letter c = true
    · rw [if_pos h1, cutWord] at h
      by_cases h2 : 24 < ((c :: r).takeWhile wordy).length
      · rw [if_pos h2] at h; cases h
      rw [if_neg h2] at h
      simp only [Option.some.injEq, Prod.mk.injEq] at h
      obtain ⟨rfl, rfl⟩ := h
      have hc : wordy c = true := by simp [wordy, h1]
      refine ⟨takeWhile_le _ _, ?_, ?_⟩
      · rw [takeWhile_take]
        exact .word (c := c) (r := r.takeWhile wordy) (by simp [hc]) h1 (takeWhile_mem _ _) (by omega)
      · intro x hx
        have hx' := takeWhile_next _ _ _ hx
        have e : (c :: r).takeWhile wordy = c :: r.takeWhile wordy := by simp [hc]
        rw [takeWhile_take, e]
        refine ⟨fun _ => hx', ?_, ?_, ?_⟩
        · rintro ⟨r', h'⟩; obtain rfl : c = 39 := by simp at h'; exact h'.1
          simp [letter] at h1
        · intro h'; obtain rfl : c = 60 := by simp at h'; exact h'.1
          simp [letter] at h1
        · intro h'; obtain rfl : c = 62 := by simp at h'; exact h'.1
          simp [letter] at h1
    rw [if_neg h1] at h
    by_cases h2 : digit c = true
    · rw [if_pos h2, cutNum] at h
      split at h
      · cases h
      rename_i h3
      split at h
      · cases h
      rename_i h4
      simp only [Option.some.injEq, Prod.mk.injEq] at h
      obtain ⟨rfl, rfl⟩ := h
      have e : (c :: r).takeWhile digit = c :: r.takeWhile digit := by simp [h2]
      refine ⟨takeWhile_le _ _, ?_, ?_⟩
      · rw [takeWhile_take]
        exact .num (c := c) (r := r.takeWhile digit) e (takeWhile_mem _ _) (by omega)
      · intro x hx
        have hx' := takeWhile_next _ _ _ hx
        rw [takeWhile_take, e]
        rw [hx] at h3
        refine ⟨fun _ => by simp only [Option.any_some, Bool.not_eq_true] at h3; simp [wordy, h3, hx'], ?_, ?_, ?_⟩
        · rintro ⟨r', h'⟩; obtain rfl : c = 39 := by simp at h'; exact h'.1
          simp [digit] at h2
        · intro h'; obtain rfl : c = 60 := by simp at h'; exact h'.1
          simp [digit] at h2
        · intro h'; obtain rfl : c = 62 := by simp at h'; exact h'.1
          simp [digit] at h2
    rw [if_neg h2] at h
    by_cases h3 : c = 39
    · subst h3
      rw [if_pos rfl, cutText] at h
      simp only [List.drop_succ_cons, List.drop_zero, Option.map_eq_some_iff] at h
      obtain ⟨⟨S, left⟩, hq, he⟩ := h
      simp only [Prod.mk.injEq] at he
      obtain ⟨rfl, rfl⟩ := he
      obtain ⟨q1, q2, q3, _⟩ := txq_inv r false [] S left (by simp) hq
      obtain ⟨body, hb, hr⟩ := q3 rfl
      rw [show body = S by simpa using hb.symm] at hr
      subst hr
      have e1 : (39 :: (dbl S ++ 39 :: left)).length - left.length = (39 :: (dbl S ++ [39])).length := by simp only [List.length_cons, List.length_append, List.length_nil]; omega
      have e2 : (39 :: (dbl S ++ 39 :: left)) = (39 :: (dbl S ++ [39])) ++ left := by simp
      rw [e1, e2, List.take_left, List.drop_left]
      refine ⟨by simp only [List.length_append]; omega, .text q2, ?_⟩
      intro x hx
      refine ⟨?_, fun _ => ?_, ?_, ?_⟩
      · rintro ⟨c, r, h', hw⟩
        obtain rfl : 39 = c := by simp at h'; exact h'.1
        exact absurd hw (by decide)
      · rintro rfl; exact q1 hx
      · intro h'; simp at h'
      · intro h'; simp at h'
    · rw [if_neg h3, cutSign] at h
      simp only [Option.map_eq_some_iff, Prod.mk.injEq] at h
      obtain ⟨w, hfd, rfl, rfl⟩ := h
      have hp := List.find?_some hfd
      have hm := List.mem_of_find?_eq_some hfd
      obtain ⟨left, hl'⟩ := List.isPrefixOf_iff_prefix.1 hp
      rw [← hl', List.take_left, List.drop_left]
      rw [← hl'] at hfd
      refine ⟨by simp, .sign hm, ?_⟩
      intro x hx
      obtain ⟨c', r', hw, g1, g2, g3, g4⟩ := sign_head hm
      refine ⟨?_, ?_, ?_, ?_⟩
      · rintro ⟨c, r, h', hw'⟩
        rw [hw] at h'
        obtain rfl : c' = c := by simp at h'; exact h'.1
        simp [wordy, g1, g2] at hw'
      · rintro ⟨r, h'⟩
        rw [hw] at h'
        obtain rfl : c' = 39 := by simp at h'; exact h'.1
        exact absurd rfl g3
      · rintro rfl
        cases left with
        | nil => simp at hx
        | cons y left =>
          obtain rfl : y = x := by simpa using hx
          constructor <;> (rintro rfl; simp [signs, List.isPrefixOf] at hfd)
      · rintro rfl
        cases left with
        | nil => simp at hx
        | cons y left =>
          obtain rfl : y = x := by simpa using hx
          rintro rfl; simp [signs, List.isPrefixOf] at hfd

end Go.Proofs.YteckhaicodmakaaGreatDoor.Lx
