/-
  Tokens, plainly: blanks and remarks, cuts of texts, what a token's text is and what may follow it.
The tokens of a text, plainly; of two texts with a line's end between; of tokens that are shown.
Bytes: which are blanks, letters, digits; how far a text runs.
How far a text runs; where blanks and remarks end; texts cut.
Where blanks and remarks end.
The tables of reserved words and signs; which words are reserved; cuts of words, of signs.
Cuts of signs, of numbers.
-/
import Derived.Test.YtpokpiphnggfpaaGreatDoorZ1
import Derived.Lib.Hide
import Derived.Test.YtpokpiphnggfpaaGreatDoorProg
import Derived.WalkKit
import Derived.WalkSpells
import Derived.WalkLawsBesides
import Derived.WalkMore
section
namespace Go.Proofs.YtpokpiphnggfpaaGreatDoor.Lx
abbrev B := List UInt8

def blank (c : UInt8) : Bool := decide (c = 32 ∨ c = 9 ∨ c = 10 ∨ c = 13)
def letter (c : UInt8) : Bool := decide (c = 95 ∨ (97 ≤ c.toNat ∧ c.toNat ≤ 122) ∨ (65 ≤ c.toNat ∧ c.toNat ≤ 90))
def digit (c : UInt8) : Bool := decide (48 ≤ c.toNat ∧ c.toNat ≤ 57)
def wordy (c : UInt8) : Bool := letter c || digit c

/-- Where blanks and remarks end; true: within a remark. -/
def sk : Bool → B → Nat
  | _, [] => 0
  | true, c :: r => if c = 10 then sk false r + 1 else sk true r + 1
  | false, c :: r => if blank c then sk false r + 1 else if c = 45 ∧ r.head? = some 45 then sk true r + 1 else 0

structure Tok where
  k : Nat
  s : B
  n : Nat
  deriving DecidableEq

def keys : List B := ["ALL", "AND", "ANTI", "AS", "BY", "COUNT", "DESC", "DISTINCT", "FALSE", "FROM", "GROUP", "IS", "JOIN", "LEFT", "LIMIT", "MAX", "MIN", "NOT", "NULL", "ON", "OR", "ORDER", "SELECT", "SEMI", "SUM", "TRUE", "UNION", "WHERE"].map fun s => s.toUTF8.data.toList
def signs : List B := [[60, 61], [62, 61], [60, 62], [40], [41], [44], [46], [42], [43], [45], [47], [37], [61], [60], [62]]
def key (w : B) : Bool := keys.contains w
def val (w : B) : Nat := w.foldl (fun n c => 10 * n + (c.toNat - 48)) 0

def cutWord (l : B) : Option (Tok × Nat) :=
  let w := l.takeWhile wordy
  if 24 < w.length then none else some (⟨if key w then 2 else 1, w, 0⟩, w.length)
def cutNum (l : B) : Option (Tok × Nat) :=
  let w := l.takeWhile digit
  if ((l.drop w.length).head?.any letter) = true then none else if 9007199254740991 < val w then none else some (⟨3, w, val w⟩, w.length)
/-- What a text says from a place on, and what is left; true: a quote has just been read. -/
def txq : Bool → B → B → Option (B × B)
  | true, [], s => some (s, [])
  | true, c :: r, s => if c = 39 then txq false r (s ++ [39]) else some (s, c :: r)
  | false, [], _ => none
  | false, c :: r, s => if 64 < s.length then none else if c = 39 then txq true r s else txq false r (s ++ [c])
def cutText (l : B) : Option (Tok × Nat) := (txq false (l.drop 1) []).map fun x => (⟨4, x.1, 0⟩, l.length - x.2.length)
def cutSign (l : B) : Option (Tok × Nat) := (signs.find? (·.isPrefixOf l)).map fun w => (⟨5, w, 0⟩, w.length)
def cut (l : B) : Option (Tok × Nat) :=
  match l with
  | [] => some (⟨6, [], 0⟩, 0)
  | c :: r => if letter c then cutWord (c :: r) else if digit c then cutNum (c :: r) else if c = 39 then cutText (c :: r) else cutSign (c :: r)

def dbl (s : B) : B := s.flatMap fun c => if c = 39 then [39, 39] else [c]
/-- A token's text. -/
inductive TokOf : B → Tok → Prop
  | word {w : B} {c : UInt8} {r : B} : w = c :: r → letter c = true → (∀ x ∈ w, wordy x = true) → w.length ≤ 24 → TokOf w ⟨if key w then 2 else 1, w, 0⟩
  | num {w : B} {c : UInt8} {r : B} : w = c :: r → (∀ x ∈ w, digit x = true) → val w ≤ 9007199254740991 → TokOf w ⟨3, w, val w⟩
  | text {s : B} : s.length ≤ 64 → TokOf (39 :: (dbl s ++ [39])) ⟨4, s, 0⟩
  | sign {w : B} : w ∈ signs → TokOf w ⟨5, w, 0⟩
/-- What may follow a token's text. -/
def Foll (w : B) (o : Option UInt8) : Prop :=
  ∀ x, o = some x → ((∃ c r, w = c :: r ∧ wordy c = true) → wordy x = false) ∧ ((∃ r, w = 39 :: r) → x ≠ 39) ∧ (w = [60] → x ≠ 61 ∧ x ≠ 62) ∧ (w = [62] → x ≠ 61)

def show1 (t : Tok) : B := if t.k = 4 then 39 :: (dbl t.s ++ [39]) else if t.k = 6 then [] else t.s

theorem foll_blank {w : B} {x : UInt8} (h : x = 10 ∨ x = 32) : Foll w (some x) := by
  intro y hy
  obtain rfl : x = y := by simpa using hy
  rcases h with rfl | rfl <;> exact ⟨fun _ => by decide, fun _ => by decide, fun _ => by decide, fun _ => by decide⟩

theorem show_tok {w : B} {t : Tok} (h : TokOf w t) : show1 t = w := by
  cases h with
  | word hw hl ha hn => simp only [show1]; split <;> rfl
  | num hw ha hn => rfl
  | text hs => rfl
  | sign hs => rfl

theorem digit_letter {c : UInt8} (h : digit c = true) : letter c = false := by
  simp only [digit, letter, decide_eq_true_eq, decide_eq_false_iff_not] at *
  rintro (rfl | h' | h')
  · simp at h
  · omega
  · omega

theorem sign_head {w : B} (h : w ∈ signs) : ∃ c r, w = c :: r ∧ letter c = false ∧ digit c = false ∧ c ≠ 39 ∧ blank c = false := by
  simp only [signs, List.mem_cons, List.mem_nil_iff, or_false] at h
  rcases h with rfl | rfl | rfl | rfl | rfl | rfl | rfl | rfl | rfl | rfl | rfl | rfl | rfl | rfl | rfl <;> exact ⟨_, _, rfl, by decide, by decide, by decide, by decide⟩

theorem wordy_nblank {c : UInt8} (h : wordy c = true) : blank c = false ∧ c ≠ 45 := by
  simp only [wordy, letter, digit, blank, Bool.or_eq_true, decide_eq_true_eq, decide_eq_false_iff_not] at *
  constructor
  · rintro (rfl | rfl | rfl | rfl) <;> simp at h
  · rintro rfl; simp at h

theorem takeWhile_all {p : UInt8 → Bool} {w r : B} (ha : ∀ x ∈ w, p x = true) (hr : ∀ x, r.head? = some x → p x = false) : (w ++ r).takeWhile p = w := by
  induction w with
  | nil =>
    cases r with
    | nil => rfl
    | cons c r => simp [hr c rfl]
  | cons c w ih => simp [ha c (by simp), ih fun x hx => ha x (by simp [hx])]

theorem takeWhile_take (p : UInt8 → Bool) (l : B) : l.take (l.takeWhile p).length = l.takeWhile p := by
  induction l with
  | nil => rfl
  | cons c l ih => by_cases h : p c = true <;> simp [h, ih]
theorem takeWhile_next (p : UInt8 → Bool) (l : B) (x : UInt8) (h : (l.drop (l.takeWhile p).length).head? = some x) : p x = false := by
  induction l with
  | nil => simp at h
  | cons c l ih =>
    by_cases hc : p c = true
    · simp only [List.takeWhile_cons, hc, if_true, List.length_cons, List.drop_succ_cons] at h; exact ih h
    · simp only [List.takeWhile_cons, hc, Bool.false_eq_true, if_false, List.length_nil, List.drop_zero, List.head?_cons, Option.some.injEq] at h
      subst h; simpa using hc
theorem takeWhile_mem (p : UInt8 → Bool) (l : B) : ∀ x ∈ l.takeWhile p, p x = true := by
  induction l with
  | nil => simp
  | cons c l ih =>
    by_cases hc : p c = true
    · simp only [List.takeWhile_cons, hc, if_true, List.mem_cons]; rintro x (rfl | hx); exact hc; exact ih x hx
    · simp [hc]
theorem takeWhile_le (p : UInt8 → Bool) (l : B) : (l.takeWhile p).length ≤ l.length := by
  induction l with
  | nil => simp
  | cons c l ih =>
    by_cases hc : p c = true
    · simp only [List.takeWhile_cons, hc, if_true, List.length_cons]; omega
    · simp [hc]

/-! The texts of texts -/
theorem txq_done (body s left : B) (h : (s ++ body).length ≤ 64) (hl : left.head? ≠ some 39) : txq false (dbl body ++ 39 :: left) s = some (s ++ body, left) := by
  induction body generalizing s with
  | nil =>
    simp only [dbl, List.flatMap_nil, List.nil_append, List.append_nil] at *
    rw [txq, if_neg (by omega), if_pos rfl]
    cases left with
    | nil => rfl
    | cons c l => rw [txq, if_neg (by simpa using hl)]
  | cons c b ih =>
    have hn : ¬ 64 < s.length := by simp only [List.length_append, List.length_cons] at h; omega
    by_cases hc : c = 39
    · subst hc
      simp only [dbl, List.flatMap_cons, if_true, List.cons_append, List.nil_append] at *
      rw [txq, if_neg hn, if_pos rfl, txq, if_pos rfl, ih (s ++ [39]) (by simpa using h)]
      simp
    · simp only [dbl, List.flatMap_cons, if_neg hc, List.cons_append, List.nil_append] at *
      rw [txq, if_neg hn, if_neg hc, ih (s ++ [c]) (by simpa using h)]
      simp

theorem txq_inv : ∀ (l : B) (q : Bool) (s S left : B), (q = true → s.length ≤ 64) → txq q l s = some (S, left) →
    left.head? ≠ some 39 ∧ S.length ≤ 64 ∧ (q = false → ∃ body, S = s ++ body ∧ l = dbl body ++ 39 :: left) ∧ (q = true → (S = s ∧ left = l) ∨ ∃ body r, l = 39 :: r ∧ S = s ++ 39 :: body ∧ r = dbl body ++ 39 :: left)
  | [], true, s, S, left, hq, h => by
    simp only [txq, Option.some.injEq, Prod.mk.injEq] at h
    obtain ⟨rfl, rfl⟩ := h
    exact ⟨by simp, hq rfl, by simp, fun _ => .inl ⟨rfl, rfl⟩⟩
  | c :: r, true, s, S, left, hq, h => by
    rw [txq] at h
    by_cases hc : c = 39
    · rw [if_pos hc] at h
      obtain ⟨h1, h2, h3, _⟩ := txq_inv r false _ S left (by simp) h
      obtain ⟨body, e1, e2⟩ := h3 rfl
      exact ⟨h1, h2, by simp, fun _ => .inr ⟨body, r, by rw [hc], by simpa using e1, e2⟩⟩
    · rw [if_neg hc] at h
      simp only [Option.some.injEq, Prod.mk.injEq] at h
      obtain ⟨rfl, rfl⟩ := h
      exact ⟨by simpa using hc, hq rfl, by simp, fun _ => .inl ⟨rfl, rfl⟩⟩
  | [], false, s, S, left, hq, h => by simp [txq] at h
  | c :: r, false, s, S, left, hq, h => by
    rw [txq] at h
    by_cases hn : 64 < s.length
    · rw [if_pos hn] at h; cases h
    rw [if_neg hn] at h
    by_cases hc : c = 39
    · rw [if_pos hc] at h
      obtain ⟨h1, h2, _, h4⟩ := txq_inv r true s S left (fun _ => by omega) h
      refine ⟨h1, h2, fun _ => ?_, by simp⟩
      rcases h4 rfl with ⟨rfl, rfl⟩ | ⟨body, r', rfl, rfl, rfl⟩
      · exact ⟨[], by simp, by simp [dbl, hc]⟩
      · exact ⟨39 :: body, rfl, by simp [dbl, hc]⟩
    · rw [if_neg hc] at h
      obtain ⟨h1, h2, h3, _⟩ := txq_inv r false (s ++ [c]) S left (by simp) h
      obtain ⟨body, rfl, rfl⟩ := h3 rfl
      exact ⟨h1, h2, fun _ => ⟨c :: body, by simp, by simp [dbl, hc]⟩, by simp⟩

/-! A cut, both ways -/
theorem cut_of {w r : B} {t : Tok} (h : TokOf w t) (hf : Foll w r.head?) : cut (w ++ r) = some (t, w.length) := by
  cases h with
  | @word w c r' hw hl ha hn =>
    have hx : (w ++ r).takeWhile wordy = w := takeWhile_all ha fun x hx => (hf x hx).1 ⟨c, r', hw, ha c (by simp [hw])⟩
    have : cut (w ++ r) = cutWord (w ++ r) := by rw [hw]; simp [cut, hl]
    rw [this, cutWord, hx]
    rw [if_neg (by omega)]
  | @num w c r' hw ha hn =>
    have hwy : wordy c = true := by simp [wordy, ha c (by simp [hw])]
    have hnx : ∀ x, r.head? = some x → wordy x = false := fun x hx => (hf x hx).1 ⟨c, r', hw, hwy⟩
    have hx : (w ++ r).takeWhile digit = w := takeWhile_all ha fun x hx => by have := hnx x hx; simp only [wordy, Bool.or_eq_false_iff] at this; exact this.2
    have hl : letter c = false := digit_letter (ha c (by simp [hw]))
    have : cut (w ++ r) = cutNum (w ++ r) := by rw [hw]; simp [cut, hl, ha c (by simp [hw])]
    rw [this, cutNum, hx]
    simp only [List.drop_left]
    rw [if_neg (by
      intro h
      cases hr : r.head? with
      | none => simp [hr] at h
      | some x => have := hnx x hr; simp only [hr, Option.any_some] at h; simp [wordy, h] at this), if_neg (by omega)]
  | @text s hs =>
    have : cut (39 :: (dbl s ++ [39]) ++ r) = cutText (39 :: (dbl s ++ [39]) ++ r) := by
      rw [List.cons_append, cut, if_neg (by decide), if_neg (by decide), if_pos rfl]
    rw [this, cutText]
    have hq : txq false (dbl s ++ 39 :: r) [] = some ([] ++ s, r) := txq_done s [] r (by simpa using hs) (by
      intro hh
      exact (hf 39 hh).2.1 ⟨_, rfl⟩ rfl)
    simp only [List.cons_append, List.drop_succ_cons, List.drop_zero, List.append_assoc, List.nil_append] at hq ⊢
    rw [hq]
    simp
    omega
  | @sign w hs =>
    obtain ⟨c, r', hw, h1, h2, h3, h4⟩ := sign_head hs
    have : cut (w ++ r) = cutSign (w ++ r) := by rw [hw]; simp [cut, h1, h2, h3]
    rw [this]
    clear this h1 h2 h3 h4 hw
    simp only [signs, List.mem_cons, List.mem_nil_iff, or_false] at hs
    cases r with
    | nil => rcases hs with rfl | rfl | rfl | rfl | rfl | rfl | rfl | rfl | rfl | rfl | rfl | rfl | rfl | rfl | rfl <;> rfl
    | cons x r =>
      have hf := hf x rfl
      rcases hs with rfl | rfl | rfl | rfl | rfl | rfl | rfl | rfl | rfl | rfl | rfl | rfl | rfl | rfl | rfl
      case inr.inr.inr.inr.inr.inr.inr.inr.inr.inr.inr.inr.inr.inl =>
        have := hf.2.2.1 rfl
        simp [cutSign, signs, List.isPrefixOf, Ne.symm this.1, Ne.symm this.2]
      case inr.inr.inr.inr.inr.inr.inr.inr.inr.inr.inr.inr.inr.inr =>
        have := hf.2.2.2 rfl
        simp [cutSign, signs, List.isPrefixOf, Ne.symm this]
      all_goals simp [cutSign, signs, List.isPrefixOf]

theorem cut_inv {l : B} {t : Tok} {n : Nat} (hl : l ≠ []) (h : cut l = some (t, n)) : n ≤ l.length ∧ TokOf (l.take n) t ∧ Foll (l.take n) (l.drop n).head? := by
  cases l with
  | nil => exact absurd rfl hl
  | cons c r =>
    rw [cut] at h
    by_cases h1 : letter c = true
    · rw [if_pos h1, cutWord] at h
      by_cases h2 : 24 < ((c :: r).takeWhile wordy).length
      · rw [if_pos h2] at h; cases h
      rw [if_neg h2] at h
      simp only [Option.some.injEq, Prod.mk.injEq] at h
      obtain ⟨rfl, rfl⟩ := h
      have hc : wordy c = true := by simp [wordy, h1]
      refine ⟨takeWhile_le _ _, ?_, ?_⟩
      · rw [takeWhile_take]
        exact .word (c := c) (r := r.takeWhile wordy) (by simp [hc]) h1 (takeWhile_mem _ _) (by omega)
      · intro x hx
        have hx' := takeWhile_next _ _ _ hx
        have e : (c :: r).takeWhile wordy = c :: r.takeWhile wordy := by simp [hc]
        rw [takeWhile_take, e]
        refine ⟨fun _ => hx', ?_, ?_, ?_⟩
        · rintro ⟨r', h'⟩; obtain rfl : c = 39 := by simp at h'; exact h'.1
          simp [letter] at h1
        · intro h'; obtain rfl : c = 60 := by simp at h'; exact h'.1
          simp [letter] at h1
        · intro h'; obtain rfl : c = 62 := by simp at h'; exact h'.1
          simp [letter] at h1
    rw [if_neg h1] at h
    by_cases h2 : digit c = true
    · rw [if_pos h2, cutNum] at h
      split at h
      · cases h
      rename_i h3
      split at h
      · cases h
      rename_i h4
      simp only [Option.some.injEq, Prod.mk.injEq] at h
      obtain ⟨rfl, rfl⟩ := h
      have e : (c :: r).takeWhile digit = c :: r.takeWhile digit := by simp [h2]
      refine ⟨takeWhile_le _ _, ?_, ?_⟩
      · rw [takeWhile_take]
        exact .num (c := c) (r := r.takeWhile digit) e (takeWhile_mem _ _) (by omega)
      · intro x hx
        have hx' := takeWhile_next _ _ _ hx
        rw [takeWhile_take, e]
        rw [hx] at h3
        refine ⟨fun _ => by simp only [Option.any_some, Bool.not_eq_true] at h3; simp [wordy, h3, hx'], ?_, ?_, ?_⟩
        · rintro ⟨r', h'⟩; obtain rfl : c = 39 := by simp at h'; exact h'.1
          simp [digit] at h2
        · intro h'; obtain rfl : c = 60 := by simp at h'; exact h'.1
          simp [digit] at h2
        · intro h'; obtain rfl : c = 62 := by simp at h'; exact h'.1
          simp [digit] at h2
    rw [if_neg h2] at h
    by_cases h3 : c = 39
    · subst h3
      rw [if_pos rfl, cutText] at h
      simp only [List.drop_succ_cons, List.drop_zero, Option.map_eq_some_iff] at h
      obtain ⟨⟨S, left⟩, hq, he⟩ := h
      simp only [Prod.mk.injEq] at he
      obtain ⟨rfl, rfl⟩ := he
      obtain ⟨q1, q2, q3, _⟩ := txq_inv r false [] S left (by simp) hq
      obtain ⟨body, hb, hr⟩ := q3 rfl
      rw [show body = S by simpa using hb.symm] at hr
      subst hr
      have e1 : (39 :: (dbl S ++ 39 :: left)).length - left.length = (39 :: (dbl S ++ [39])).length := by simp only [List.length_cons, List.length_append, List.length_nil]; omega
      have e2 : (39 :: (dbl S ++ 39 :: left)) = (39 :: (dbl S ++ [39])) ++ left := by simp
      rw [e1, e2, List.take_left, List.drop_left]
      refine ⟨by simp only [List.length_append]; omega, .text q2, ?_⟩
      intro x hx
      refine ⟨?_, fun _ => ?_, ?_, ?_⟩
      · rintro ⟨c, r, h', hw⟩
        obtain rfl : 39 = c := by simp at h'; exact h'.1
        exact absurd hw (by decide)
      · rintro rfl; exact q1 hx
      · intro h'; simp at h'
      · intro h'; simp at h'
    · rw [if_neg h3, cutSign] at h
      simp only [Option.map_eq_some_iff, Prod.mk.injEq] at h
      obtain ⟨w, hfd, rfl, rfl⟩ := h
      have hp := List.find?_some hfd
      have hm := List.mem_of_find?_eq_some hfd
      obtain ⟨left, hl'⟩ := List.isPrefixOf_iff_prefix.1 hp
      rw [← hl', List.take_left, List.drop_left]
      rw [← hl'] at hfd
      refine ⟨by simp, .sign hm, ?_⟩
      intro x hx
      obtain ⟨c', r', hw, g1, g2, g3, g4⟩ := sign_head hm
      refine ⟨?_, ?_, ?_, ?_⟩
      · rintro ⟨c, r, h', hw'⟩
        rw [hw] at h'
        obtain rfl : c' = c := by simp at h'; exact h'.1
        simp [wordy, g1, g2] at hw'
      · rintro ⟨r, h'⟩
        rw [hw] at h'
        obtain rfl : c' = 39 := by simp at h'; exact h'.1
        exact absurd rfl g3
      · rintro rfl
        cases left with
        | nil => simp at hx
        | cons y left =>
          obtain rfl : y = x := by simpa using hx
          constructor <;> (rintro rfl; simp [signs, List.isPrefixOf] at hfd)
      · rintro rfl
        cases left with
        | nil => simp at hx
        | cons y left =>
          obtain rfl : y = x := by simpa using hx
          rintro rfl; simp [signs, List.isPrefixOf] at hfd

end Go.Proofs.YtpokpiphnggfpaaGreatDoor.Lx
end
section
namespace Go.Proofs.YtpokpiphnggfpaaGreatDoor.Lx

theorem sk_le : ∀ (q : Bool) (l : B), sk q l ≤ l.length
  | true, [] => by simp [sk]
  | false, [] => by simp [sk]
  | true, c :: r => by
    have h1 := sk_le true r
    have h2 := sk_le false r
    rw [sk]; split <;> simp only [List.length_cons] <;> omega
  | false, c :: r => by
    have h1 := sk_le true r
    have h2 := sk_le false r
    rw [sk]; split
    · simp only [List.length_cons]; omega
    · split <;> simp only [List.length_cons] <;> omega

theorem sk_join (t : B) : ∀ (q : Bool) (l : B), sk q l = l.length → sk q (l ++ 10 :: t) = l.length + 1 + sk false t
  | true, [], _ => by simp only [List.nil_append, sk, if_true, List.length_nil]; omega
  | false, [], _ => by
    simp only [List.nil_append, List.length_nil]
    rw [sk, if_pos (by decide)]; omega
  | true, c :: r, h => by
    rw [List.cons_append, sk]
    rw [sk] at h
    split at h
    · rename_i hc
      rw [if_pos hc, sk_join t false r (by simpa using h)]; simp only [List.length_cons]; omega
    · rename_i hc
      rw [if_neg hc, sk_join t true r (by simpa using h)]; simp only [List.length_cons]; omega
  | false, c :: r, h => by
    rw [List.cons_append, sk]
    rw [sk] at h
    split at h
    · rename_i hc
      rw [if_pos hc, sk_join t false r (by simpa using h)]; simp only [List.length_cons]; omega
    · rename_i hc
      rw [if_neg hc]
      split at h
      · rename_i hd
        rw [if_pos ⟨hd.1, by cases r with | nil => simp at hd | cons x r => simpa using hd.2⟩, sk_join t true r (by simpa using h)]; simp only [List.length_cons]; omega
      · simp at h

theorem sk_stop (t : B) : ∀ (q : Bool) (l : B), sk q l < l.length → sk q (l ++ 10 :: t) = sk q l
  | true, [], h => by simp at h
  | false, [], h => by simp at h
  | true, c :: r, h => by
    rw [sk] at h
    rw [List.cons_append, sk, sk]
    split at h
    · rename_i hc
      rw [if_pos hc, if_pos hc, sk_stop t false r (by simpa using h)]
    · rename_i hc
      rw [if_neg hc, if_neg hc, sk_stop t true r (by simpa using h)]
  | false, c :: r, h => by
    rw [sk] at h
    rw [List.cons_append, sk, sk]
    split at h
    · rename_i hc
      rw [if_pos hc, if_pos hc, sk_stop t false r (by simpa using h)]
    · rename_i hc
      rw [if_neg hc, if_neg hc]
      have hh : (c = 45 ∧ (r ++ 10 :: t).head? = some 45) ↔ (c = 45 ∧ r.head? = some 45) := by
        cases r with
        | nil => simp
        | cons x r => simp
      split at h
      · rename_i hd
        rw [if_pos (hh.2 hd), if_pos hd, sk_stop t true r (by simpa using h)]
      · rename_i hd
        rw [if_neg (fun x => hd (hh.1 x)), if_neg hd]

theorem tok_ne {w : B} {t : Tok} (h : TokOf w t) : ∃ c r, w = c :: r ∧ blank c = false ∧ (c = 45 → w = [45]) := by
  cases h with
  | @word _ c r hw hl ha hn =>
    have := wordy_nblank (ha c (by simp [hw]))
    exact ⟨c, r, hw, this.1, fun e => absurd e this.2⟩
  | @num _ c r hw ha hn =>
    have := wordy_nblank (c := c) (by simp [wordy, ha c (by simp [hw])])
    exact ⟨c, r, hw, this.1, fun e => absurd e this.2⟩
  | text hs => exact ⟨39, _, rfl, by decide, fun e => by simp at e⟩
  | sign hs =>
    obtain ⟨c, r, hw, _, _, _, h4⟩ := sign_head hs
    refine ⟨c, r, hw, h4, ?_⟩
    rintro rfl
    simp only [signs, List.mem_cons, List.mem_nil_iff, or_false] at hs
    rcases hs with rfl | rfl | rfl | rfl | rfl | rfl | rfl | rfl | rfl | rfl | rfl | rfl | rfl | rfl | rfl <;> simp at hw ⊢

theorem sk_tok {w r : B} {t : Tok} (h : TokOf w t) : sk false (w ++ 32 :: r) = 0 := by
  obtain ⟨c, w', rfl, hb, hc⟩ := tok_ne h
  rw [List.cons_append, sk, if_neg (by simp [hb]), if_neg]
  rintro ⟨rfl, hd⟩
  obtain rfl : w' = [] := by simpa using hc rfl
  simp at hd

theorem tok_k {w : B} {t : Tok} (h : TokOf w t) : t.k ≠ 6 ∧ t.k ≠ 0 := by
  cases h with
  | word => simp only; split <;> decide
  | num => exact ⟨by simp, by simp⟩
  | text => exact ⟨by simp, by simp⟩
  | sign => exact ⟨by simp, by simp⟩

inductive Toks : B → Nat → List (Tok × Nat) → Nat → Prop
  | fin {l : B} {a : Nat} : sk false l = l.length → Toks l a [(⟨6, [], 0⟩, a + l.length)] (a + l.length)
  | tok {l w r : B} {a : Nat} {t : Tok} {ts : List (Tok × Nat)} {n : Nat} : l.drop (sk false l) = w ++ r → TokOf w t → Foll w r.head? → Toks r (a + sk false l + w.length) ts n → Toks l a ((t, a + sk false l) :: ts) n

inductive Res
  | ok (ts : List (Tok × Nat)) (n : Nat)
  | bad (n e : Nat)

def lx : Nat → B → Nat → Nat → Res
  | 0, _, _, a => .bad a 0
  | f + 1, l, c, a =>
    match cut (l.drop (sk false l)) with
    | none => .bad (a + sk false l) 90
    | some (t, z) =>
      if c = 4096 then .bad (a + sk false l) 3 else if t.k = 6 then .ok [(t, a + sk false l)] (a + sk false l) else
        match lx f ((l.drop (sk false l)).drop z) (c + 1) (a + sk false l + z) with
        | .ok ts n => .ok ((t, a + sk false l) :: ts) n
        | .bad n e => .bad n e

theorem toks_of : ∀ (f : Nat) (l : B) (c a : Nat) (ts : List (Tok × Nat)) (n : Nat), c ≤ 4096 → lx f l c a = .ok ts n → Toks l a ts n ∧ c + ts.length ≤ 4096
  | 0, l, c, a, ts, n, _, h => by simp [lx] at h
  | f + 1, l, c, a, ts, n, hc, h => by
    rw [lx] at h
    split at h
    · cases h
    rename_i t z hcut
    split at h
    · cases h
    rename_i hc'
    by_cases hn : l.drop (sk false l) = []
    · rw [hn, cut] at hcut
      simp only [Option.some.injEq, Prod.mk.injEq] at hcut
      obtain ⟨rfl, rfl⟩ := hcut
      rw [if_pos rfl] at h
      simp only [Res.ok.injEq] at h
      obtain ⟨rfl, rfl⟩ := h
      have h1 := sk_le false l
      have h2 : sk false l = l.length := by have := List.drop_eq_nil_iff.1 hn; omega
      rw [h2]
      exact ⟨.fin h2, by simp only [List.length_cons, List.length_nil]; omega⟩
    · obtain ⟨h1, h2, h3⟩ := cut_inv hn hcut
      rw [if_neg (tok_k h2).1] at h
      split at h
      · rename_i ts' n' hx
        simp only [Res.ok.injEq] at h
        obtain ⟨rfl, rfl⟩ := h
        obtain ⟨i1, i2⟩ := toks_of f _ _ _ _ _ (by omega) hx
        refine ⟨.tok (w := (l.drop (sk false l)).take z) (r := (l.drop (sk false l)).drop z) (List.take_append_drop _ _).symm h2 h3 ?_, by simp only [List.length_cons]; omega⟩
        rw [List.length_take, Nat.min_eq_left h1]
        exact i1
      · cases h

theorem toks_lx {l : B} {a : Nat} {ts : List (Tok × Nat)} {n : Nat} (h : Toks l a ts n) : ∀ (f c : Nat), c + ts.length ≤ 4096 → l.length < f → lx f l c a = .ok ts n := by
  induction h with
  | @fin l a hs =>
    intro f c hc hf
    obtain ⟨f, rfl⟩ : ∃ g, f = g + 1 := ⟨f - 1, by omega⟩
    simp only [List.length_cons, List.length_nil] at hc
    rw [lx, hs, List.drop_length, cut]
    simp only
    rw [if_neg (by omega), if_pos trivial]
  | @tok l w r a t ts n hd ht hf hr ih =>
    intro f c hc hl
    obtain ⟨f, rfl⟩ : ∃ g, f = g + 1 := ⟨f - 1, by omega⟩
    simp only [List.length_cons] at hc
    rw [lx, hd, cut_of ht hf]
    simp only
    rw [if_neg (by omega), if_neg (tok_k ht).1, List.drop_left]
    have hlen : (w ++ r).length ≤ l.length := by rw [← hd, List.length_drop]; omega
    obtain ⟨x, w', hw, _, _⟩ := tok_ne ht
    have hw0 : 0 < w.length := by rw [hw]; simp
    rw [List.length_append] at hlen
    rw [ih f (c + 1) (by omega) (by omega)]

theorem Toks.shift {l : B} {a : Nat} {ts : List (Tok × Nat)} {n : Nat} (h : Toks l a ts n) (d : Nat) : Toks l (a + d) (ts.map fun x => (x.1, x.2 + d)) (n + d) := by
  induction h with
  | @fin l a hs =>
    have := Toks.fin (a := a + d) hs
    rw [show a + d + l.length = a + l.length + d by omega] at this
    exact this
  | @tok l w r a t ts n hd ht hf hr ih =>
    rw [show a + sk false l + w.length + d = a + d + sk false l + w.length by omega] at ih
    have := Toks.tok hd ht hf ih
    rw [show a + d + sk false l = a + sk false l + d by omega] at this
    exact this

theorem Toks.ne {l : B} {a : Nat} {ts : List (Tok × Nat)} {n : Nat} (h : Toks l a ts n) : ts ≠ [] := by cases h <;> simp

/-- More that is skipped before a text. -/
theorem Toks.skip {l l' : B} {a k : Nat} {ts : List (Tok × Nat)} {n : Nat} (h : Toks l (a + k) ts n) (hs : sk false l' = k + sk false l) (hd : l'.drop k = l) (hl : l'.length = k + l.length) : Toks l' a ts n := by
  cases h with
  | fin h =>
    have := Toks.fin (l := l') (a := a) (by omega)
    rw [hl, ← Nat.add_assoc] at this
    exact this
  | tok hd' ht hf hr =>
    rw [Nat.add_assoc, ← hs]
    refine .tok ?_ ht hf (by rw [hs, ← Nat.add_assoc]; exact hr)
    rw [hs, ← List.drop_drop, hd, hd']

theorem Toks.join {l : B} {a : Nat} {ts : List (Tok × Nat)} {n : Nat} (h : Toks l a ts n) {t : B} {us : List (Tok × Nat)} {m : Nat} (g : Toks t 0 us m) :
    Toks (l ++ 10 :: t) a (ts.dropLast ++ us.map fun x => (x.1, x.2 + (n + 1))) (n + 1 + m) := by
  induction h with
  | @fin l a hs =>
    have := g.shift (a + l.length + 1)
    rw [Nat.zero_add, Nat.add_comm m] at this
    simp only [List.dropLast_singleton, List.nil_append]
    refine Toks.skip (l := t) (k := l.length + 1) this (sk_join t false l hs) ?_ ?_
    · rw [show l ++ 10 :: t = (l ++ [10]) ++ t by simp]
      exact List.drop_left' (by simp)
    · simp only [List.length_append, List.length_cons]; omega
  | @tok l w r a t' ts n hd ht hf hr ih =>
    have hlt : sk false l < l.length := by
      obtain ⟨x, w', hw, _, _⟩ := tok_ne ht
      have := congrArg List.length hd
      rw [List.length_drop, hw] at this
      simp only [List.length_append, List.length_cons] at this
      omega
    have hs := sk_stop t false l hlt
    rw [List.dropLast_cons_of_ne_nil hr.ne, List.cons_append, ← hs]
    refine .tok (w := w) (r := r ++ 10 :: t) ?_ ht ?_ (by rw [hs]; exact ih)
    · rw [hs, List.drop_append_of_le_length (by omega), hd, List.append_assoc]
    · cases r with
      | nil => exact foll_blank (.inl rfl)
      | cons x r => exact hf

/-- Tokens shown: a blank between. -/
def shw : List Tok → B
  | [] => []
  | [t] => show1 t
  | t :: u :: r => show1 t ++ 32 :: shw (u :: r)

theorem Toks.shown {l : B} {a : Nat} {ts : List (Tok × Nat)} {n : Nat} (h : Toks l a ts n) :
    (shw (ts.map (·.1))).length ≤ 2 * l.length ∧ ∀ a', ∃ us m, Toks (shw (ts.map (·.1))) a' us m ∧ us.map (·.1) = ts.map (·.1) := by
  induction h with
  | @fin l a hs =>
    simp only [List.map_cons, List.map_nil, shw, show1]
    refine ⟨by simp, fun a' => ⟨_, _, .fin (l := []) (a := a') (by simp [sk]), by simp⟩⟩
  | @tok l w r a t ts n hd ht hf hr ih =>
    obtain ⟨ih1, ih2⟩ := ih
    obtain ⟨u, us, rfl⟩ : ∃ u us, ts = u :: us := by cases ts with | nil => exact absurd rfl hr.ne | cons u us => exact ⟨u, us, rfl⟩
    have e : shw (((t, a + sk false l) :: u :: us).map (·.1)) = w ++ 32 :: shw ((u :: us).map (·.1)) := by
      simp only [List.map_cons, shw, show_tok ht]
    rw [e]
    have hlen := congrArg List.length hd
    rw [List.length_drop, List.length_append] at hlen
    obtain ⟨x, w', hw, _, _⟩ := tok_ne ht
    have hw0 : 0 < w.length := by rw [hw]; simp
    refine ⟨by simp only [List.length_append, List.length_cons]; omega, fun a' => ?_⟩
    obtain ⟨vs, m, h1, h2⟩ := ih2 (a' + w.length + 1)
    have hs := sk_tok (r := shw ((u :: us).map (·.1))) ht
    refine ⟨(t, a') :: vs, m, ?_, by rw [List.map_cons, List.map_cons, h2]⟩
    have := Toks.tok (l := w ++ 32 :: shw ((u :: us).map (·.1))) (w := w) (r := 32 :: shw ((u :: us).map (·.1))) (a := a') (t := t) (ts := vs) (n := m) (by rw [hs]; rfl) ht (foll_blank (.inr rfl)) (by
      rw [hs]
      refine Toks.skip (k := 1) h1 ?_ rfl (by simp only [List.length_cons]; omega)
      rw [sk, if_pos (by decide)]; omega)
    rw [hs] at this
    exact this

end Go.Proofs.YtpokpiphnggfpaaGreatDoor.Lx
end
section
namespace Go.Proofs.YtpokpiphnggfpaaGreatDoor
open Go.RowKit

theorem ret_b {a b : Bool} (h : a = b) : Ending.returned (.bool a) = .returned (.bool b) := by rw [h]
theorem ret_i {k : IntKind} {a b : Int} (h : a = b) : Ending.returned (.int k a) = .returned (.int k b) := by rw [h]
theorem u8_eq (c : UInt8) (k : Nat) (hk : k < 256) : c = UInt8.ofNat k ↔ c.toNat = k := by
  constructor
  · rintro rfl; simp; omega
  · intro h; apply UInt8.toNat_inj.1; simp; omega

theorem isDigit_any (c : UInt8) (w : World) : Calls Tryz.prog 102 #[.int .u8 c.toNat] w fun e w' => e = .returned (.bool (Lx.digit c)) ∧ w' = w := by
  have h0 := c.toNat_lt
  rw [Lx.digit]
  generalize c.toNat = n at h0 ⊢
  by_cases h1 : 48 ≤ n
  · by_cases h2 : n ≤ 57
    · go_enter Tryz.func102, Tryz.ntmps102; go_wp2_with fail; go_ret; exact ⟨ret_b (by first | rfl | (rw [Bool.eq_iff_iff]; simp; done) | (rw [Bool.eq_iff_iff]; simp; omega)), rfl⟩
    · have HC := Lib.hid (show decide (48 ≤ n ∧ n ≤ 57) = false by simp; omega)
      go_enter Tryz.func102, Tryz.ntmps102; go_wp2_with fail; go_ret; exact ⟨ret_b (by first | rfl | (rw [Bool.eq_iff_iff]; simp; done) | (rw [Bool.eq_iff_iff]; simp; omega)), rfl⟩
  · have HC := Lib.hid (show decide (48 ≤ n ∧ n ≤ 57) = false by simp; omega)
    go_enter Tryz.func102, Tryz.ntmps102; go_wp2_with fail; go_ret; exact ⟨ret_b (by first | rfl | (rw [Bool.eq_iff_iff]; simp; done) | (rw [Bool.eq_iff_iff]; simp; omega)), rfl⟩

theorem isLetter_in (n : Nat) (b : Bool) (h0 : n < 256) (h : decide (n = 95 ∨ (97 ≤ n ∧ n ≤ 122) ∨ (65 ≤ n ∧ n ≤ 90)) = b) (w : World) : Calls Tryz.prog 100 #[.int .u8 n] w fun e w' => e = .returned (.bool b) ∧ w' = w := by
  have HC := Lib.hid h
  clear h
  by_cases h1 : n = 95
  · subst h1
    go_enter Tryz.func100, Tryz.ntmps100; go_wp2_with fail; go_ret; exact ⟨ret_b (by rw [← HC.out]; first | rfl | (rw [Bool.eq_iff_iff]; simp; done) | (rw [Bool.eq_iff_iff]; simp; omega)), rfl⟩
  by_cases h2 : 97 ≤ n
  · by_cases h3 : n ≤ 122
    · go_enter Tryz.func100, Tryz.ntmps100; go_wp2_with fail; go_ret; exact ⟨ret_b (by rw [← HC.out]; first | rfl | (rw [Bool.eq_iff_iff]; simp; done) | (rw [Bool.eq_iff_iff]; simp; omega)), rfl⟩
    · have h4 : 65 ≤ n := by omega
      have h5 : ¬ n ≤ 90 := by omega
      go_enter Tryz.func100, Tryz.ntmps100; go_wp2_with fail; go_ret; exact ⟨ret_b (by rw [← HC.out]; first | rfl | (rw [Bool.eq_iff_iff]; simp; done) | (rw [Bool.eq_iff_iff]; simp; omega)), rfl⟩
  · by_cases h4 : 65 ≤ n
    · by_cases h5 : n ≤ 90
      · go_enter Tryz.func100, Tryz.ntmps100; go_wp2_with fail; go_ret; exact ⟨ret_b (by rw [← HC.out]; first | rfl | (rw [Bool.eq_iff_iff]; simp; done) | (rw [Bool.eq_iff_iff]; simp; omega)), rfl⟩
      · go_enter Tryz.func100, Tryz.ntmps100; go_wp2_with fail; go_ret; exact ⟨ret_b (by rw [← HC.out]; first | rfl | (rw [Bool.eq_iff_iff]; simp; done) | (rw [Bool.eq_iff_iff]; simp; omega)), rfl⟩
    · go_enter Tryz.func100, Tryz.ntmps100; go_wp2_with fail; go_ret; exact ⟨ret_b (by rw [← HC.out]; first | rfl | (rw [Bool.eq_iff_iff]; simp; done) | (rw [Bool.eq_iff_iff]; simp; omega)), rfl⟩
theorem isLetter_any (c : UInt8) (w : World) : Calls Tryz.prog 100 #[.int .u8 c.toNat] w fun e w' => e = .returned (.bool (Lx.letter c)) ∧ w' = w := by
  refine isLetter_in _ _ c.toNat_lt ?_ w
  refine decide_eq_decide.2 ?_
  rw [show (95 : UInt8) = UInt8.ofNat 95 from rfl, u8_eq c _ (by decide)]

def Lx.noEnd (c : UInt8) : Bool := decide (c ≠ 10)
theorem wordy_any (c : UInt8) (w : World) : Calls Tryz.prog 107 #[.int .u8 c.toNat] w fun e w' => e = .returned (.bool (Lx.wordy c)) ∧ w' = w := by
  have h0 := c.toNat_lt
  rw [Lx.wordy]
  by_cases hl : Lx.letter c = true
  · go_enter Tryz.func107, Tryz.ntmps107; go_wp2_with fail
    refine (isLetter_any c _).mono ?_
    rintro e w' ⟨rfl, rfl⟩
    rw [hl]
    go_wp2_with fail; go_ret; exact ⟨ret_b (by rw [hl]; rfl), rfl⟩
  · have hl' : Lx.letter c = false := by simpa using hl
    rw [hl']
    go_enter Tryz.func107, Tryz.ntmps107; go_wp2_with fail
    refine (isLetter_any c _).mono ?_
    rintro e w' ⟨rfl, rfl⟩
    rw [hl']
    go_wp2_with fail
    refine (isDigit_any c _).mono ?_
    rintro e w' ⟨rfl, rfl⟩
    go_wp2_with fail; go_ret; exact ⟨rfl, rfl⟩
end Go.Proofs.YtpokpiphnggfpaaGreatDoor
end
section
namespace Go.Proofs.YtpokpiphnggfpaaGreatDoor
open Go.RowKit Go.Shelf

abbrev bs (s : ByteArray) : Lx.B := s.data.toList
theorem bs_len (s : ByteArray) : (bs s).length = s.size := by simp [bs]
theorem bs_extract (s : ByteArray) (a b : Nat) : bs (s.extract a b) = ((bs s).take b).drop a := by
  simp [bs, ByteArray.data_extract]
  rw [List.drop_take]
theorem bs_get (s : ByteArray) (k : Nat) (h : k < s.size) : (bs s)[k]? = some s[k] := by
  have : k < (bs s).length := by rw [bs_len]; exact h
  rw [List.getElem?_eq_getElem this]; rfl
theorem run_lt {p : UInt8 → Bool} : ∀ {l : Lx.B} {k : Nat}, (∀ j c, j < k → l[j]? = some c → p c = true) → k ≤ l.length → (∀ c, l[k]? = some c → p c = false) → (l.takeWhile p).length = k
  | [], k, _, h, _ => by simp at h; simp [h]
  | c :: r, 0, _, _, h => by simp [h c rfl]
  | c :: r, k + 1, h1, h2, h3 => by
    rw [List.takeWhile_cons, h1 0 c (by omega) rfl, if_pos rfl, List.length_cons]
    rw [run_lt (l := r) (k := k) (fun j c' hj hc => h1 (j + 1) c' (by omega) (by simpa using hc)) (by simpa using h2) (fun c' hc => h3 c' (by simpa using hc))]

set_option maxHeartbeats 1000000 in
theorem runW (s : ByteArray) (w : World) (hs : s.size ≤ 9223372036854775807) :
    Calls Tryz.prog 106 #[.string s, .func (.func 107) #[] #[]] w fun e w' => e = .returned (.int .i64 ((bs s).takeWhile Lx.wordy).length) ∧ w' = w := by
  go_enter Tryz.func106, Tryz.ntmps106
  go_wp2_with fail
  go_loop [8, 4] (fun i _ => ∃ k : Nat, k ≤ s.size ∧ i = .int .i64 k ∧ Hid (∀ j c, j < k → (bs s)[j]? = some c → Lx.wordy c = true)) (fun i _ => s.size - (intOf i).toNat)
  case atStart => exact ⟨0, Nat.zero_le _, rfl, Lib.hid (fun j c h => absurd h (by omega))⟩
  case round =>
    obtain ⟨k, hk, rfl, HA⟩ := hrel
    by_cases hlt : k < s.size
    · have HG := Lib.hid (bs_get s k hlt)
      go_wp2_with fail
      go_at_call 107
      refine (wordy_any s[k] _).mono ?_
      rintro e w' ⟨rfl, rfl⟩
      cases hpk : Lx.wordy s[k]
      · go_wp2_with fail
        go_ret
        refine ⟨ret_i ?_, rfl⟩
        rw [run_lt (p := Lx.wordy) HA.out (by rw [bs_len]; omega) (fun c hc => by rw [HG.out] at hc; obtain rfl := Option.some.inj hc; exact hpk)]
      · go_wp2_with fail
        go_round
        case rel =>
          refine ⟨k + 1, by omega, by go_num, Lib.hid (fun j c hj hc => ?_)⟩
          rcases Nat.lt_or_ge j k with h | h
          · exact HA.out j c h hc
          · obtain rfl : j = k := by omega
            rw [HG.out] at hc; obtain rfl := Option.some.inj hc; exact hpk
        case measure => simp [intOf]; omega
    · go_wp2_with fail
      go_ret
      refine ⟨ret_i ?_, rfl⟩
      rw [run_lt (p := Lx.wordy) (k := s.size) (fun j c hj hc => HA.out j c (by omega) hc) (by rw [bs_len]; omega) (fun c hc => by rw [List.getElem?_eq_none (by rw [bs_len]; omega)] at hc; cases hc)]
set_option maxHeartbeats 1000000 in
theorem runD (s : ByteArray) (w : World) (hs : s.size ≤ 9223372036854775807) :
    Calls Tryz.prog 106 #[.string s, .func (.func 102) #[] #[]] w fun e w' => e = .returned (.int .i64 ((bs s).takeWhile Lx.digit).length) ∧ w' = w := by
  go_enter Tryz.func106, Tryz.ntmps106
  go_wp2_with fail
  go_loop [8, 4] (fun i _ => ∃ k : Nat, k ≤ s.size ∧ i = .int .i64 k ∧ Hid (∀ j c, j < k → (bs s)[j]? = some c → Lx.digit c = true)) (fun i _ => s.size - (intOf i).toNat)
  case atStart => exact ⟨0, Nat.zero_le _, rfl, Lib.hid (fun j c h => absurd h (by omega))⟩
  case round =>
    obtain ⟨k, hk, rfl, HA⟩ := hrel
    by_cases hlt : k < s.size
    · have HG := Lib.hid (bs_get s k hlt)
      go_wp2_with fail
      go_at_call 102
      refine (isDigit_any s[k] _).mono ?_
      rintro e w' ⟨rfl, rfl⟩
      cases hpk : Lx.digit s[k]
      · go_wp2_with fail
        go_ret
        refine ⟨ret_i ?_, rfl⟩
        rw [run_lt (p := Lx.digit) HA.out (by rw [bs_len]; omega) (fun c hc => by rw [HG.out] at hc; obtain rfl := Option.some.inj hc; exact hpk)]
      · go_wp2_with fail
        go_round
        case rel =>
          refine ⟨k + 1, by omega, by go_num, Lib.hid (fun j c hj hc => ?_)⟩
          rcases Nat.lt_or_ge j k with h | h
          · exact HA.out j c h hc
          · obtain rfl : j = k := by omega
            rw [HG.out] at hc; obtain rfl := Option.some.inj hc; exact hpk
        case measure => simp [intOf]; omega
    · go_wp2_with fail
      go_ret
      refine ⟨ret_i ?_, rfl⟩
      rw [run_lt (p := Lx.digit) (k := s.size) (fun j c hj hc => HA.out j c (by omega) hc) (by rw [bs_len]; omega) (fun c hc => by rw [List.getElem?_eq_none (by rw [bs_len]; omega)] at hc; cases hc)]
end Go.Proofs.YtpokpiphnggfpaaGreatDoor
end
section
namespace Go.Proofs.YtpokpiphnggfpaaGreatDoor
open Go.RowKit Go.Shelf

theorem sk_true : ∀ r : Lx.B, Lx.sk true r = (r.takeWhile Lx.noEnd).length + Lx.sk false (r.drop (r.takeWhile Lx.noEnd).length)
  | [] => by simp [Lx.sk]
  | c :: r => by
    rw [Lx.sk]
    by_cases hc : c = 10
    · subst hc
      rw [if_pos rfl, List.takeWhile_cons, if_neg (by decide), List.length_nil, List.drop_zero, Lx.sk, if_pos (by decide)]; omega
    · rw [if_neg hc, List.takeWhile_cons, if_pos (by simpa [Lx.noEnd] using hc), List.length_cons, List.drop_succ_cons, sk_true r]; omega
theorem sk_blank {c : UInt8} {r : Lx.B} (h : Lx.blank c = true) : Lx.sk false (c :: r) = Lx.sk false r + 1 := by rw [Lx.sk, if_pos h]
theorem sk_rem {c : UInt8} {r : Lx.B} (h : Lx.blank c = false) (hp : Lib.hasPrefix (c :: r) [45, 45] = true) :
    Lx.sk false (c :: r) = ((c :: r).takeWhile Lx.noEnd).length + Lx.sk false ((c :: r).drop ((c :: r).takeWhile Lx.noEnd).length) := by
  have hh : c = 45 ∧ r.head? = some 45 := by
    cases r with
    | nil => simp [Lib.hasPrefix] at hp
    | cons x r => simp [Lib.hasPrefix] at hp; exact ⟨hp.1.symm, by simp [hp.2]⟩
  rw [Lx.sk, if_neg (by simp [h]), if_pos hh, List.takeWhile_cons, if_pos (by rw [hh.1]; decide), List.length_cons, List.drop_succ_cons, sk_true r]; omega
theorem sk_no {c : UInt8} {r : Lx.B} (h : Lx.blank c = false) (hp : Lib.hasPrefix (c :: r) [45, 45] = false) : Lx.sk false (c :: r) = 0 := by
  rw [Lx.sk, if_neg (by simp [h]), if_neg]
  rintro ⟨rfl, hr⟩
  cases r with
  | nil => simp at hr
  | cons x r => obtain rfl : x = 45 := by simpa using hr
                simp [Lib.hasPrefix] at hp
theorem bs_drop (s : ByteArray) (k : Nat) (h : k < s.size) : (bs s).drop k = s[k] :: (bs s).drop (k + 1) := by
  rw [List.drop_eq_getElem_cons (by rw [bs_len]; exact h)]; rfl
theorem bs_from (s : ByteArray) (k : Nat) : bs (s.extract k s.size) = (bs s).drop k := by
  rw [bs_extract, List.take_of_length_le (by rw [bs_len]; exact Nat.le_refl _)]

end Go.Proofs.YtpokpiphnggfpaaGreatDoor
end
section
namespace Go.Proofs.YtpokpiphnggfpaaGreatDoor
open Go.RowKit Go.Shelf

structure Tabs (w : World) : Prop where
  ks : ∀ (j : Nat) (b : Lx.B), Lx.keys[j]? = some b → w.cell? ⟨4, j, none⟩ = some (.string ⟨b.toArray⟩)
  sg : ∀ (j : Nat) (b : Lx.B), Lx.signs[j]? = some b → w.cell? ⟨3, j, none⟩ = some (.string ⟨b.toArray⟩)
  m : ∃ m : Nat, m = 0
theorem lt_of_cell {w : World} {p : Addr} {v : Value} (h : w.cell? p = some v) : p.block < w.heap.size := by
  rcases Nat.lt_or_ge p.block w.heap.size with hl | hg
  · exact hl
  · rw [World.cell?, Array.getElem?_eq_none hg] at h; cases h
theorem cell_kept {w w' : World} (hb : Below w.heap.size w w') {p : Addr} {v : Value} (h : w.cell? p = some v) : w'.cell? p = some v :=
  (hb.cell (lt_of_cell h)).trans h
theorem Tabs.kept {w w' : World} (h : Tabs w) (hb : Below w.heap.size w w') : Tabs w' := by
  obtain ⟨m, hm⟩ := h.m
  exact ⟨fun j b hj => cell_kept hb (h.ks j b hj), fun j b hj => cell_kept hb (h.sg j b hj), m, hm⟩
theorem keys_len : Lx.keys.length = 28 := by decide +kernel
theorem tl_bs (a b : ByteArray) : (a.toList == b.toList) = (bs a == bs b) := by rw [ByteArray.toList_eq, ByteArray.toList_eq]

set_option maxHeartbeats 1000000 in
theorem key_any (s : ByteArray) (w : World) (hT : Tabs w) :
    Calls Tryz.prog 108 #[.string s] w fun e w' => e = .returned (.bool (Lx.key (bs s))) ∧ w' = w := by
  have HT := Lib.hid hT
  clear hT
  go_enter Tryz.func108, Tryz.ntmps108
  go_wp2_with fail
  go_loop [4, 3] (fun i _ => ∃ k : Nat, k ≤ 28 ∧ i = .int .i64 k ∧ Hid (∀ j b, j < k → Lx.keys[j]? = some b → b ≠ bs s)) (fun i _ => 28 - (intOf i).toNat)
  case atStart => exact ⟨0, Nat.zero_le _, rfl, Lib.hid (fun j c h => absurd h (by omega))⟩
  case round =>
    obtain ⟨k, hk, rfl, HA⟩ := hrel
    by_cases hlt : k < 28
    · obtain ⟨b, hb⟩ : ∃ b, Lx.keys[k]? = some b := ⟨_, List.getElem?_eq_getElem (by rw [keys_len]; exact hlt)⟩
      have hc := HT.out.ks k b hb
      have HB := Lib.hid hb
      have hq : ((⟨b.toArray⟩ : ByteArray).toList == s.toList) = (b == bs s) := tl_bs _ _
      clear hb
      generalize (⟨b.toArray⟩ : ByteArray) = kb at hc hq
      cases he : b == bs s
      · rw [he] at hq
        go_wp2_with fail
        go_round
        case rel =>
          refine ⟨k + 1, by omega, by go_num, Lib.hid (fun j x hj hx => ?_)⟩
          rcases Nat.lt_or_ge j k with h | h
          · exact HA.out j x h hx
          · obtain rfl : j = k := by omega
            rw [HB.out] at hx; obtain rfl := Option.some.inj hx; simpa using he
        case measure => simp [intOf]; omega
      · rw [he] at hq
        go_wp2_with fail
        go_ret
        refine ⟨ret_b ?_, rfl⟩
        obtain rfl : b = bs s := by simpa using he
        symm; rw [Lx.key, List.contains_iff_mem]
        exact List.mem_of_getElem? HB.out
    · go_wp2_with fail
      go_ret
      refine ⟨ret_b ?_, rfl⟩
      symm; rw [Lx.key, Bool.eq_false_iff]
      intro h
      rw [List.contains_iff_mem] at h
      obtain ⟨j, hj⟩ := List.getElem?_of_mem h
      have : j < 28 := by have := (List.getElem?_eq_some_iff.1 hj).1; rw [keys_len] at this; exact this
      exact HA.out j _ (by omega) hj rfl

abbrev tokV (k : Int) (s : ByteArray) (n a : Int) : Value := .agg #[.int .i64 k, .string s, .int .i64 n, .int .i64 a]
abbrev noTok : Value := .tuple #[tokV 0 ⟨#[]⟩ 0 0, .int .i64 0]
/-- A cut as the program hands it back. -/
def CutV (s : ByteArray) (o : Option (Lx.Tok × Nat)) (v : Value) : Prop :=
  match o with
  | none => v = noTok
  | some (t, z) => z ≤ s.size ∧ ∃ b : ByteArray, bs b = t.s ∧ v = .tuple #[tokV t.k b t.n 0, .int .i64 z]

set_option maxHeartbeats 1000000 in
theorem cutWord_any (s : ByteArray) (w : World) (hs : s.size ≤ 16384) (hT : Tabs w) :
    Calls Tryz.prog 101 #[.string s] w fun e w' => ∃ v, e = .returned v ∧ CutV s (Lx.cutWord (bs s)) v ∧ Below w.heap.size w w' := by
  have HT := Lib.hid hT
  have HBel := Lib.hid (ba w (.cells #[.int .i64 0, .string ⟨#[]⟩, .int .i64 0, .int .i64 0] 99))
  obtain ⟨W, hz⟩ : ∃ W, (bs s).takeWhile Lx.wordy = W := ⟨_, rfl⟩
  obtain ⟨n, hn⟩ : ∃ n, W.length = n := ⟨_, rfl⟩
  have hr : n ≤ s.size := by rw [← hn, ← hz, ← bs_len]; exact Lx.takeWhile_le _ _
  have HX := Lib.hid (show bs (s.extract 0 n) = W by rw [bs_extract, List.drop_zero, ← hn, ← hz, Lx.takeWhile_take])
  have HZ := Lib.hid (show Lx.cutWord (bs s) = if 24 < n then none else some (⟨if Lx.key W then 2 else 1, W, 0⟩, n) by subst hz hn; rfl)
  have HW := Lib.hid (show ((bs s).takeWhile Lx.wordy).length = n by rw [hz, hn])
  clear hT hz hn
  go_enter Tryz.func101, Tryz.ntmps101
  go_wp2_with fail
  refine (runW _ _ (by omega)).mono ?_
  rintro e w' ⟨rfl, rfl⟩
  rw [HW.out]
  by_cases h24 : 24 < n
  · go_wp2_with fail
    refine bodyPost_ret (v := noTok) (by simp [results, Tryz.results101, go_sem]) rfl ⟨_, rfl, ?_, HBel.out⟩
    rw [HZ.out, if_pos h24]; rfl
  · go_wp2_with fail
    refine (key_any _ _ (HT.out.kept HBel.out)).mono ?_
    rintro e w' ⟨rfl, rfl⟩
    rw [HX.out]
    cases hk : Lx.key W
    · go_wp2_with fail
      refine bodyPost_ret (v := .tuple #[tokV 1 (s.extract 0 n) 0 0, .int .i64 n]) (by simp [results, Tryz.results101, go_sem]) rfl ⟨_, rfl, ?_, ba w _⟩
      rw [HZ.out, if_neg h24, hk]
      exact ⟨hr, _, HX.out, rfl⟩
    · go_wp2_with fail
      refine bodyPost_ret (v := .tuple #[tokV 2 (s.extract 0 n) 0 0, .int .i64 n]) (by simp [results, Tryz.results101, go_sem]) rfl ⟨_, rfl, ?_, ba w _⟩
      rw [HZ.out, if_neg h24, hk]
      exact ⟨hr, _, HX.out, rfl⟩

end Go.Proofs.YtpokpiphnggfpaaGreatDoor
end
section
namespace Go.Proofs.YtpokpiphnggfpaaGreatDoor
open Go.RowKit Go.Shelf

theorem signs_len : Lx.signs.length = 15 := by decide +kernel
theorem find_at {p : Lx.B → Bool} : ∀ {l : List Lx.B} {k : Nat} {b : Lx.B}, l[k]? = some b → p b = true → (∀ j x, j < k → l[j]? = some x → p x = false) → l.find? p = some b
  | [], k, b, h, _, _ => by simp at h
  | x :: l, 0, b, h, hp, _ => by obtain rfl : x = b := by simpa using h
                                 rw [List.find?_cons, hp]
  | x :: l, k + 1, b, h, hp, ha => by
    rw [List.find?_cons, ha 0 x (by omega) rfl]
    exact find_at (k := k) (by simpa using h) hp fun j y hj hy => ha (j + 1) y (by omega) (by simpa using hy)

/-- A token is stored into a box. -/
theorem tset {w : World} {U : Nat} {a0 a1 a2 a3 : Value} {T : TypeId} (h : w.heap[U]? = some (.cells #[a0, a1, a2, a3] T (0, 0))) (b0 b1 b2 b3 : Value) :
    ((((w.setCell ⟨U, 0, none⟩ b0).setCell ⟨U, 1, none⟩ b1).setCell ⟨U, 2, none⟩ b2).setCell ⟨U, 3, none⟩ b3).heap[U]? = some (.cells #[b0, b1, b2, b3] T (0, 0)) := by
  simp only [World.setCell, Array.getElem?_modify, if_true, h]
  rfl
theorem tcell {w : World} {U : Nat} {b0 b1 b2 b3 : Value} {T : TypeId} (e : w.heap[U]? = some (.cells #[b0, b1, b2, b3] T (0, 0))) :
    (w.cell? ⟨U, 0, none⟩ = some b0 ∧ w.cell? ⟨U, 1, none⟩ = some b1 ∧ w.cell? ⟨U, 2, none⟩ = some b2 ∧ w.cell? ⟨U, 3, none⟩ = some b3) ∧
    w.frozen? ⟨U, 0, none⟩ = false ∧ w.frozen? ⟨U, 1, none⟩ = false ∧ w.frozen? ⟨U, 2, none⟩ = false ∧ w.frozen? ⟨U, 3, none⟩ = false :=
  ⟨⟨by simp only [World.cell?, e]; rfl, by simp only [World.cell?, e]; rfl, by simp only [World.cell?, e]; rfl, by simp only [World.cell?, e]; rfl⟩,
    by simp only [World.frozen?, e]; rfl, by simp only [World.frozen?, e]; rfl, by simp only [World.frozen?, e]; rfl, by simp only [World.frozen?, e]; rfl⟩
abbrev tokO (T : TypeId) : Obj := .cells #[.int .i64 0, .string ⟨#[]⟩, .int .i64 0, .int .i64 0] T

set_option maxHeartbeats 1000000 in
theorem cutSign_any (s : ByteArray) (w : World) (hT : Tabs w) :
    Calls Tryz.prog 105 #[.string s] w fun e w' => ∃ v, e = .returned v ∧ CutV s (Lx.cutSign (bs s)) v ∧ Below w.heap.size w w' := by
  have HT := Lib.hid (hT.kept (ba w (.cells #[.int .i64 0, .string ⟨#[]⟩, .int .i64 0, .int .i64 0] 99)))
  have HBel := Lib.hid (ba w (.cells #[.int .i64 0, .string ⟨#[]⟩, .int .i64 0, .int .i64 0] 99))
  have HU := Lib.hid (show 3 < w.heap.size from lt_of_cell (hT.sg 0 _ rfl))
  have HX := Lib.hid ((MapKept.heap_alloc w (tokO 99)).1)
  clear hT
  go_enter Tryz.func105, Tryz.ntmps105
  go_wp2_with fail
  generalize w.alloc (.cells #[.int .i64 0, .string ⟨#[]⟩, .int .i64 0, .int .i64 0] 99) = W1 at HT HBel HX ⊢
  obtain ⟨U, hU⟩ : ∃ U, w.heap.size = U := ⟨_, rfl⟩
  have HUB := Lib.hid (show w.heap.size ≤ U by omega)
  rw [hU] at HX HU ⊢
  clear hU
  go_loop [5, 4] (fun i _ => ∃ k : Nat, k ≤ 15 ∧ i = .int .i64 k ∧ Hid (∀ j b, j < k → Lx.signs[j]? = some b → b.isPrefixOf (bs s) = false)) (fun i _ => 15 - (intOf i).toNat)
  case atStart => exact ⟨0, Nat.zero_le _, rfl, Lib.hid (fun j c h => absurd h (by omega))⟩
  case round =>
    obtain ⟨k, hk, rfl, HA⟩ := hrel
    by_cases hlt : k < 15
    · obtain ⟨b, hb⟩ : ∃ b, Lx.signs[k]? = some b := ⟨_, List.getElem?_eq_getElem (by rw [signs_len]; exact hlt)⟩
      have hc := HT.out.sg k b hb
      have HB := Lib.hid hb
      have HQ := Lib.hid (show bs (⟨b.toArray⟩ : ByteArray) = b from rfl)
      have HS2 := Lib.hid (show (⟨b.toArray⟩ : ByteArray).size = b.length by rw [← bs_len])
      clear hb
      generalize (⟨b.toArray⟩ : ByteArray) = kb at hc HQ HS2
      cases he : b.isPrefixOf (bs s)
      · go_wp2_with fail
        refine (Tryz.strings_HasPrefix _ _ _).mono ?_
        rintro e W1 ⟨rfl, rfl⟩
        rw [show Lib.hasPrefix s.data.toList kb.data.toList = false by rw [show kb.data.toList = b from HQ.out]; exact he]
        go_wp2_with fail
        go_round
        case rel =>
          refine ⟨k + 1, by omega, by go_num, Lib.hid (fun j x hj hx => ?_)⟩
          rcases Nat.lt_or_ge j k with h | h
          · exact HA.out j x h hx
          · obtain rfl : j = k := by omega
            rw [HB.out] at hx; obtain rfl := Option.some.inj hx; exact he
        case measure => simp [intOf]; omega
      · go_wp2_with fail
        refine (Tryz.strings_HasPrefix _ _ _).mono ?_
        rintro e W1 ⟨rfl, rfl⟩
        rw [show Lib.hasPrefix s.data.toList kb.data.toList = true by rw [show kb.data.toList = b from HQ.out]; exact he]
        go_wp2_with fail
        obtain ⟨⟨c0, c1, c2, c3⟩, f0, f1, f2, f3⟩ := tcell HX.out
        have hUV := HU.out
        have HS := Lib.hid (tset HX.out (.int .i64 5) (.string kb) (.int .i64 0) (.int .i64 0))
        have HE := Lib.hid (show Below w.heap.size w ((((W1.setCell ⟨U, 0, none⟩ (.int .i64 5)).setCell ⟨U, 1, none⟩ (.string kb)).setCell ⟨U, 2, none⟩ (.int .i64 0)).setCell ⟨U, 3, none⟩ (.int .i64 0)) from
          (((HBel.out.setCell HUB.out _).setCell HUB.out _).setCell HUB.out _).setCell HUB.out _)
        go_region
        go_wp2_with fail
        obtain ⟨⟨q0, q1, q2, q3⟩, _⟩ := tcell HS.out
        have HL := Lib.hid (show Lx.cutSign (bs s) = some (⟨5, b, 0⟩, b.length) by rw [Lx.cutSign, find_at HB.out he (fun j x hj hx => HA.out j x hj hx)]; rfl)
        refine bodyPost_ret (v := .tuple #[tokV 5 kb 0 0, .int .i64 kb.size]) (by simp [results, Tryz.results105, go_sem, q0, q1, q2, q3]) rfl ⟨_, rfl, ?_, Below.drew HE.out⟩
        rw [HL.out]
        refine ⟨?_, kb, HQ.out, by rw [HS2.out]; rfl⟩
        rw [← bs_len]
        exact (List.isPrefixOf_iff_prefix.1 he).length_le
    · have HF := Lib.hid (show Lx.cutSign (bs s) = none by
        rw [Lx.cutSign, List.find?_eq_none.2]; rfl
        intro x hx
        obtain ⟨j, hj⟩ := List.getElem?_of_mem hx
        have : j < 15 := by have := (List.getElem?_eq_some_iff.1 hj).1; rw [signs_len] at this; exact this
        rw [HA.out j x (by omega) hj]; decide)
      obtain ⟨⟨c0, c1, c2, c3⟩, f0, f1, f2, f3⟩ := tcell HX.out
      have HS := Lib.hid (tset HX.out (.int .i64 0) (.string ⟨#[]⟩) (.int .i64 0) (.int .i64 0))
      have HE := Lib.hid (show Below w.heap.size w ((((W1.setCell ⟨U, 0, none⟩ (.int .i64 0)).setCell ⟨U, 1, none⟩ (.string ⟨#[]⟩)).setCell ⟨U, 2, none⟩ (.int .i64 0)).setCell ⟨U, 3, none⟩ (.int .i64 0)) from
          (((HBel.out.setCell HUB.out _).setCell HUB.out _).setCell HUB.out _).setCell HUB.out _)
      go_wp2_with fail
      obtain ⟨⟨q0, q1, q2, q3⟩, _⟩ := tcell HS.out
      refine bodyPost_ret (v := noTok) (by simp [results, Tryz.results105, go_sem, q0, q1, q2, q3]) rfl ⟨_, rfl, ?_, HE.out⟩
      rw [HF.out]; rfl
end Go.Proofs.YtpokpiphnggfpaaGreatDoor
end
