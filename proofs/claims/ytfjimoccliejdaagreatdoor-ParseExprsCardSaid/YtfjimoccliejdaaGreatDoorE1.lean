/-
  Cuts.
-/
import Derived.Lib.Hide
import Derived.Test.YtfjimoccliejdaaGreatDoorProg
import Derived.WalkKit
import Derived.WalkSpells
import Derived.WalkLawsBesides
import Derived.Shelf.Strings.Prefix
import Derived.WalkMore
import Derived.OwnWalk
import Derived.Laws.AppendOwn
import Derived.Laws.IdiomStrings
import Derived.Deep.Cut
section
namespace Go.Proofs.YtfjimoccliejdaaGreatDoor.Lx
abbrev B := List UInt8

def blank (c : UInt8) : Bool := decide (c = 32 ∨ c = 9 ∨ c = 10 ∨ c = 13)
def letter (c : UInt8) : Bool := decide (c = 95 ∨ (97 ≤ c.toNat ∧ c.toNat ≤ 122) ∨ (65 ≤ c.toNat ∧ c.toNat ≤ 90))
def digit (c : UInt8) : Bool := decide (48 ≤ c.toNat ∧ c.toNat ≤ 57)
def wordy (c : UInt8) : Bool := letter c || digit c

def sk : Bool → B → Nat
 | _, [] => 0
 | true, c :: r => if c = 10 then sk false r + 1 else sk true r + 1
 | false, c :: r => if blank c then sk false r + 1 else if c = 45 ∧ r.head? = some 45 then sk true r + 1 else 0

structure Tok where
 k : Nat
 s : B
 n : Nat
 deriving DecidableEq

def keys : List B := ["ALL", "AND", "ANTI", "AS", "BY", "COUNT", "DESC", "DISTINCT", "FALSE", "FROM", "GROUP", "IS", "JOIN", "LEFT", "LIMIT", "MAX", "MIN", "NOT", "NULL", "ON", "OR", "ORDER", "SELECT", "SEMI", "SUM", "TRUE", "UNION", "WHERE"].map fun s => s.toUTF8.data.toList
def signs : List B := [[60, 61], [62, 61], [60, 62], [40], [41], [44], [46], [42], [43], [45], [47], [37], [61], [60], [62]]
def key (w : B) : Bool := keys.contains w
def val (w : B) : Nat := w.foldl (fun n c => 10 * n + (c.toNat - 48)) 0

def cutWord (l : B) : Option (Tok × Nat) :=
 let w := l.takeWhile wordy
 if 24 < w.length then none else some (⟨if key w then 2 else 1, w, 0⟩, w.length)
def cutNum (l : B) : Option (Tok × Nat) :=
 let w := l.takeWhile digit
 if ((l.drop w.length).head?.any letter) = true then none else if 9007199254740991 < val w then none else some (⟨3, w, val w⟩, w.length)
def txq : Bool → B → B → Option (B × B)
 | true, [], s => some (s, [])
 | true, c :: r, s => if c = 39 then txq false r (s ++ [39]) else some (s, c :: r)
 | false, [], _ => none
 | false, c :: r, s => if 64 < s.length then none else if c = 39 then txq true r s else txq false r (s ++ [c])
def cutText (l : B) : Option (Tok × Nat) := (txq false (l.drop 1) []).map fun x => (⟨4, x.1, 0⟩, l.length - x.2.length)
def cutSign (l : B) : Option (Tok × Nat) := (signs.find? (·.isPrefixOf l)).map fun w => (⟨5, w, 0⟩, w.length)
def cut (l : B) : Option (Tok × Nat) :=
 match l with
 | [] => some (⟨6, [], 0⟩, 0)
 | c :: r => if letter c then cutWord (c :: r) else if digit c then cutNum (c :: r) else if c = 39 then cutText (c :: r) else cutSign (c :: r)

def dbl (s : B) : B := s.flatMap fun c => if c = 39 then [39, 39] else [c]
inductive TokOf : B → Tok → Prop
 | word {w : B} {c : UInt8} {r : B} : w = c :: r → letter c = true → (∀ x ∈ w, wordy x = true) → w.length ≤ 24 → TokOf w ⟨if key w then 2 else 1, w, 0⟩
 | num {w : B} {c : UInt8} {r : B} : w = c :: r → (∀ x ∈ w, digit x = true) → val w ≤ 9007199254740991 → TokOf w ⟨3, w, val w⟩
 | text {s : B} : s.length ≤ 64 → TokOf (39 :: (dbl s ++ [39])) ⟨4, s, 0⟩
 | sign {w : B} : w ∈ signs → TokOf w ⟨5, w, 0⟩
def Foll (w : B) (o : Option UInt8) : Prop :=
 ∀ x, o = some x → ((∃ c r, w = c :: r ∧ wordy c = true) → wordy x = false) ∧ ((∃ r, w = 39 :: r) → x ≠ 39) ∧ (w = [60] → x ≠ 61 ∧ x ≠ 62) ∧ (w = [62] → x ≠ 61)

def show1 (t : Tok) : B := if t.k = 4 then 39 :: (dbl t.s ++ [39]) else if t.k = 6 then [] else t.s

theorem foll_blank {w : B} {x : UInt8} (h : x = 10 ∨ x = 32) : Foll w (some x) := by
 intro y hy
 obtain rfl : x = y := by simpa using hy
 rcases h with rfl | rfl <;> exact ⟨fun _ => by decide, fun _ => by decide, fun _ => by decide, fun _ => by decide⟩

theorem show_tok {w : B} {t : Tok} (h : TokOf w t) : show1 t = w := by
 cases h with
 | word hw hl ha hn => simp only [show1]; split <;> rfl
 | num hw ha hn => rfl
 | text hs => rfl
 | sign hs => rfl

theorem digit_letter {c : UInt8} (h : digit c = true) : letter c = false := by
 simp only [digit, letter, decide_eq_true_eq, decide_eq_false_iff_not] at *
 rintro (rfl | h' | h')
 ·simp at h
 ·omega
 ·omega

theorem sign_head {w : B} (h : w ∈ signs) : ∃ c r, w = c :: r ∧ letter c = false ∧ digit c = false ∧ c ≠ 39 ∧ blank c = false := by
 simp only [signs, List.mem_cons, List.mem_nil_iff, or_false] at h
 rcases h with rfl | rfl | rfl | rfl | rfl | rfl | rfl | rfl | rfl | rfl | rfl | rfl | rfl | rfl | rfl <;> exact ⟨_, _, rfl, by decide, by decide, by decide, by decide⟩

theorem wordy_nblank {c : UInt8} (h : wordy c = true) : blank c = false ∧ c ≠ 45 := by
 simp only [wordy, letter, digit, blank, Bool.or_eq_true, decide_eq_true_eq, decide_eq_false_iff_not] at *
 constructor
 ·rintro (rfl | rfl | rfl | rfl) <;> simp at h
 ·rintro rfl; simp at h


theorem takeWhile_take (p : UInt8 → Bool) (l : B) : l.take (l.takeWhile p).length = l.takeWhile p := by
 induction l with
 | nil => rfl
 | cons c l ih => by_cases h : p c = true <;> simp [h, ih]
theorem takeWhile_next (p : UInt8 → Bool) (l : B) (x : UInt8) (h : (l.drop (l.takeWhile p).length).head? = some x) : p x = false := by
 induction l with
 | nil => simp at h
 | cons c l ih =>
  by_cases hc : p c = true
  ·simp only [List.takeWhile_cons, hc, if_true, List.length_cons, List.drop_succ_cons] at h; exact ih h
  ·simp only [List.takeWhile_cons, hc, Bool.false_eq_true, if_false, List.length_nil, List.drop_zero, List.head?_cons, Option.some.injEq] at h
   subst h; simpa using hc
theorem takeWhile_mem (p : UInt8 → Bool) (l : B) : ∀ x ∈ l.takeWhile p, p x = true := by
 induction l with
 | nil => simp
 | cons c l ih =>
  by_cases hc : p c = true
  ·simp only [List.takeWhile_cons, hc, if_true, List.mem_cons]; rintro x (rfl | hx); exact hc; exact ih x hx
  ·simp [hc]
theorem takeWhile_le (p : UInt8 → Bool) (l : B) : (l.takeWhile p).length ≤ l.length := by
 induction l with
 | nil => simp
 | cons c l ih =>
  by_cases hc : p c = true
  ·simp only [List.takeWhile_cons, hc, if_true, List.length_cons]; omega
  ·simp [hc]


theorem txq_inv : ∀ (l : B) (q : Bool) (s S left : B), (q = true → s.length ≤ 64) → txq q l s = some (S, left) →
  left.head? ≠ some 39 ∧ S.length ≤ 64 ∧ (q = false → ∃ body, S = s ++ body ∧ l = dbl body ++ 39 :: left) ∧ (q = true → (S = s ∧ left = l) ∨ ∃ body r, l = 39 :: r ∧ S = s ++ 39 :: body ∧ r = dbl body ++ 39 :: left)
 | [], true, s, S, left, hq, h => by
  simp only [txq, Option.some.injEq, Prod.mk.injEq] at h
  obtain ⟨rfl, rfl⟩ := h
  exact ⟨by simp, hq rfl, by simp, fun _ => .inl ⟨rfl, rfl⟩⟩
 | c :: r, true, s, S, left, hq, h => by
  rw [txq] at h
  by_cases hc : c = 39
  ·rw [if_pos hc] at h
   obtain ⟨h1, h2, h3, _⟩ := txq_inv r false _ S left (by simp) h
   obtain ⟨body, e1, e2⟩ := h3 rfl
   exact ⟨h1, h2, by simp, fun _ => .inr ⟨body, r, by rw [hc], by simpa using e1, e2⟩⟩
  ·rw [if_neg hc] at h
   simp only [Option.some.injEq, Prod.mk.injEq] at h
   obtain ⟨rfl, rfl⟩ := h
   exact ⟨by simpa using hc, hq rfl, by simp, fun _ => .inl ⟨rfl, rfl⟩⟩
 | [], false, s, S, left, hq, h => by simp [txq] at h
 | c :: r, false, s, S, left, hq, h => by
  rw [txq] at h
  by_cases hn : 64 < s.length
  ·rw [if_pos hn] at h; cases h
  rw [if_neg hn] at h
  by_cases hc : c = 39
  ·rw [if_pos hc] at h
   obtain ⟨h1, h2, _, h4⟩ := txq_inv r true s S left (fun _ => by omega) h
   refine ⟨h1, h2, fun _ => ?_, by simp⟩
   rcases h4 rfl with ⟨rfl, rfl⟩ | ⟨body, r', rfl, rfl, rfl⟩
   ·exact ⟨[], by simp, by simp [dbl, hc]⟩
   ·exact ⟨39 :: body, rfl, by simp [dbl, hc]⟩
  ·rw [if_neg hc] at h
   obtain ⟨h1, h2, h3, _⟩ := txq_inv r false (s ++ [c]) S left (by simp) h
   obtain ⟨body, rfl, rfl⟩ := h3 rfl
   exact ⟨h1, h2, fun _ => ⟨c :: body, by simp, by simp [dbl, hc]⟩, by simp⟩


theorem cut_inv {l : B} {t : Tok} {n : Nat} (hl : l ≠ []) (h : cut l = some (t, n)) : n ≤ l.length ∧ TokOf (l.take n) t ∧ Foll (l.take n) (l.drop n).head? := by
 cases l with
 | nil => exact absurd rfl hl
 | cons c r =>
  rw [cut] at h
  by_cases h1 : letter c = true
  ·rw [if_pos h1, cutWord] at h
   by_cases h2 : 24 < ((c :: r).takeWhile wordy).length
   ·rw [if_pos h2] at h; cases h
   rw [if_neg h2] at h
   simp only [Option.some.injEq, Prod.mk.injEq] at h
   obtain ⟨rfl, rfl⟩ := h
   have hc : wordy c = true := by simp [wordy, h1]
   refine ⟨takeWhile_le _ _, ?_, ?_⟩
   ·rw [takeWhile_take]
    exact .word (c := c) (r := r.takeWhile wordy) (by simp [hc]) h1 (takeWhile_mem _ _) (by omega)
   ·intro x hx
    have hx' := takeWhile_next _ _ _ hx
    have e : (c :: r).takeWhile wordy = c :: r.takeWhile wordy := by simp [hc]
    rw [takeWhile_take, e]
    refine ⟨fun _ => hx', ?_, ?_, ?_⟩
    ·rintro ⟨r', h'⟩; obtain rfl : c = 39 := by simp at h'; exact h'.1
     simp [letter] at h1
    ·intro h'; obtain rfl : c = 60 := by simp at h'; exact h'.1
     simp [letter] at h1
    ·intro h'; obtain rfl : c = 62 := by simp at h'; exact h'.1
     simp [letter] at h1
  rw [if_neg h1] at h
  by_cases h2 : digit c = true
  ·rw [if_pos h2, cutNum] at h
   split at h
   ·cases h
   rename_i h3
   split at h
   ·cases h
   rename_i h4
   simp only [Option.some.injEq, Prod.mk.injEq] at h
   obtain ⟨rfl, rfl⟩ := h
   have e : (c :: r).takeWhile digit = c :: r.takeWhile digit := by simp [h2]
   refine ⟨takeWhile_le _ _, ?_, ?_⟩
   ·rw [takeWhile_take]
    exact .num (c := c) (r := r.takeWhile digit) e (takeWhile_mem _ _) (by omega)
   ·intro x hx
    have hx' := takeWhile_next _ _ _ hx
    rw [takeWhile_take, e]
    rw [hx] at h3
    refine ⟨fun _ => by simp only [Option.any_some, Bool.not_eq_true] at h3; simp [wordy, h3, hx'], ?_, ?_, ?_⟩
    ·rintro ⟨r', h'⟩; obtain rfl : c = 39 := by simp at h'; exact h'.1
     simp [digit] at h2
    ·intro h'; obtain rfl : c = 60 := by simp at h'; exact h'.1
     simp [digit] at h2
    ·intro h'; obtain rfl : c = 62 := by simp at h'; exact h'.1
     simp [digit] at h2
  rw [if_neg h2] at h
  by_cases h3 : c = 39
  ·subst h3
   rw [if_pos rfl, cutText] at h
   simp only [List.drop_succ_cons, List.drop_zero, Option.map_eq_some_iff] at h
   obtain ⟨⟨S, left⟩, hq, he⟩ := h
   simp only [Prod.mk.injEq] at he
   obtain ⟨rfl, rfl⟩ := he
   obtain ⟨q1, q2, q3, _⟩ := txq_inv r false [] S left (by simp) hq
   obtain ⟨body, hb, hr⟩ := q3 rfl
   rw [show body = S by simpa using hb.symm] at hr
   subst hr
   have e1 : (39 :: (dbl S ++ 39 :: left)).length - left.length = (39 :: (dbl S ++ [39])).length := by simp only [List.length_cons, List.length_append, List.length_nil]; omega
   have e2 : (39 :: (dbl S ++ 39 :: left)) = (39 :: (dbl S ++ [39])) ++ left := by simp
   rw [e1, e2, List.take_left, List.drop_left]
   refine ⟨by simp only [List.length_append]; omega, .text q2, ?_⟩
   intro x hx
   refine ⟨?_, fun _ => ?_, ?_, ?_⟩
   ·rintro ⟨c, r, h', hw⟩
    obtain rfl : 39 = c := by simp at h'; exact h'.1
    exact absurd hw (by decide)
   ·rintro rfl; exact q1 hx
   ·intro h'; simp at h'
   ·intro h'; simp at h'
  ·rw [if_neg h3, cutSign] at h
   simp only [Option.map_eq_some_iff, Prod.mk.injEq] at h
   obtain ⟨w, hfd, rfl, rfl⟩ := h
   have hp := List.find?_some hfd
   have hm := List.mem_of_find?_eq_some hfd
   obtain ⟨left, hl'⟩ := List.isPrefixOf_iff_prefix.1 hp
   rw [← hl', List.take_left, List.drop_left]
   rw [← hl'] at hfd
   refine ⟨by simp, .sign hm, ?_⟩
   intro x hx
   obtain ⟨c', r', hw, g1, g2, g3, g4⟩ := sign_head hm
   refine ⟨?_, ?_, ?_, ?_⟩
   ·rintro ⟨c, r, h', hw'⟩
    rw [hw] at h'
    obtain rfl : c' = c := by simp at h'; exact h'.1
    simp [wordy, g1, g2] at hw'
   ·rintro ⟨r, h'⟩
    rw [hw] at h'
    obtain rfl : c' = 39 := by simp at h'; exact h'.1
    exact absurd rfl g3
   ·rintro rfl
    cases left with
    | nil => simp at hx
    | cons y left =>
     obtain rfl : y = x := by simpa using hx
     constructor <;> (rintro rfl; simp [signs, List.isPrefixOf] at hfd)
   ·rintro rfl
    cases left with
    | nil => simp at hx
    | cons y left =>
     obtain rfl : y = x := by simpa using hx
     rintro rfl; simp [signs, List.isPrefixOf] at hfd

end Go.Proofs.YtfjimoccliejdaaGreatDoor.Lx
end
section
namespace Go.Proofs.YtfjimoccliejdaaGreatDoor.Lx

theorem sk_le : ∀ (q : Bool) (l : B), sk q l ≤ l.length
 | true, [] => by simp [sk]
 | false, [] => by simp [sk]
 | true, c :: r => by
  have h1 := sk_le true r
  have h2 := sk_le false r
  rw [sk]; split <;> simp only [List.length_cons] <;> omega
 | false, c :: r => by
  have h1 := sk_le true r
  have h2 := sk_le false r
  rw [sk]; split
  ·simp only [List.length_cons]; omega
  ·split <;> simp only [List.length_cons] <;> omega

theorem sk_join (t : B) : ∀ (q : Bool) (l : B), sk q l = l.length → sk q (l ++ 10 :: t) = l.length + 1 + sk false t
 | true, [], _ => by simp only [List.nil_append, sk, if_true, List.length_nil]; omega
 | false, [], _ => by
  simp only [List.nil_append, List.length_nil]
  rw [sk, if_pos (by decide)]; omega
 | true, c :: r, h => by
  rw [List.cons_append, sk]
  rw [sk] at h
  split at h
  ·rename_i hc
   rw [if_pos hc, sk_join t false r (by simpa using h)]; simp only [List.length_cons]; omega
  ·rename_i hc
   rw [if_neg hc, sk_join t true r (by simpa using h)]; simp only [List.length_cons]; omega
 | false, c :: r, h => by
  rw [List.cons_append, sk]
  rw [sk] at h
  split at h
  ·rename_i hc
   rw [if_pos hc, sk_join t false r (by simpa using h)]; simp only [List.length_cons]; omega
  ·rename_i hc
   rw [if_neg hc]
   split at h
   ·rename_i hd
    rw [if_pos ⟨hd.1, by cases r with | nil => simp at hd | cons x r => simpa using hd.2⟩, sk_join t true r (by simpa using h)]; simp only [List.length_cons]; omega
   ·simp at h

theorem sk_stop (t : B) : ∀ (q : Bool) (l : B), sk q l < l.length → sk q (l ++ 10 :: t) = sk q l
 | true, [], h => by simp at h
 | false, [], h => by simp at h
 | true, c :: r, h => by
  rw [sk] at h
  rw [List.cons_append, sk, sk]
  split at h
  ·rename_i hc
   rw [if_pos hc, if_pos hc, sk_stop t false r (by simpa using h)]
  ·rename_i hc
   rw [if_neg hc, if_neg hc, sk_stop t true r (by simpa using h)]
 | false, c :: r, h => by
  rw [sk] at h
  rw [List.cons_append, sk, sk]
  split at h
  ·rename_i hc
   rw [if_pos hc, if_pos hc, sk_stop t false r (by simpa using h)]
  ·rename_i hc
   rw [if_neg hc, if_neg hc]
   have hh : (c = 45 ∧ (r ++ 10 :: t).head? = some 45) ↔ (c = 45 ∧ r.head? = some 45) := by
    cases r with
    | nil => simp
    | cons x r => simp
   split at h
   ·rename_i hd
    rw [if_pos (hh.2 hd), if_pos hd, sk_stop t true r (by simpa using h)]
   ·rename_i hd
    rw [if_neg (fun x => hd (hh.1 x)), if_neg hd]

theorem tok_ne {w : B} {t : Tok} (h : TokOf w t) : ∃ c r, w = c :: r ∧ blank c = false ∧ (c = 45 → w = [45]) := by
 cases h with
 | @word _ c r hw hl ha hn =>
  have := wordy_nblank (ha c (by simp [hw]))
  exact ⟨c, r, hw, this.1, fun e => absurd e this.2⟩
 | @num _ c r hw ha hn =>
  have := wordy_nblank (c := c) (by simp [wordy, ha c (by simp [hw])])
  exact ⟨c, r, hw, this.1, fun e => absurd e this.2⟩
 | text hs => exact ⟨39, _, rfl, by decide, fun e => by simp at e⟩
 | sign hs =>
  obtain ⟨c, r, hw, _, _, _, h4⟩ := sign_head hs
  refine ⟨c, r, hw, h4, ?_⟩
  rintro rfl
  simp only [signs, List.mem_cons, List.mem_nil_iff, or_false] at hs
  rcases hs with rfl | rfl | rfl | rfl | rfl | rfl | rfl | rfl | rfl | rfl | rfl | rfl | rfl | rfl | rfl <;> simp at hw ⊢

theorem sk_tok {w r : B} {t : Tok} (h : TokOf w t) : sk false (w ++ 32 :: r) = 0 := by
 obtain ⟨c, w', rfl, hb, hc⟩ := tok_ne h
 rw [List.cons_append, sk, if_neg (by simp [hb]), if_neg]
 rintro ⟨rfl, hd⟩
 obtain rfl : w' = [] := by simpa using hc rfl
 simp at hd

theorem tok_k {w : B} {t : Tok} (h : TokOf w t) : t.k ≠ 6 ∧ t.k ≠ 0 := by
 cases h with
 | word => simp only; split <;> decide
 | num => exact ⟨by simp, by simp⟩
 | text => exact ⟨by simp, by simp⟩
 | sign => exact ⟨by simp, by simp⟩

inductive Toks : B → Nat → List (Tok × Nat) → Nat → Prop
 | fin {l : B} {a : Nat} : sk false l = l.length → Toks l a [(⟨6, [], 0⟩, a + l.length)] (a + l.length)
 | tok {l w r : B} {a : Nat} {t : Tok} {ts : List (Tok × Nat)} {n : Nat} : l.drop (sk false l) = w ++ r → TokOf w t → Foll w r.head? → Toks r (a + sk false l + w.length) ts n → Toks l a ((t, a + sk false l) :: ts) n

inductive Res
 | ok (ts : List (Tok × Nat)) (n : Nat)
 | bad (n e : Nat)

def lx : Nat → B → Nat → Nat → Res
 | 0, _, _, a => .bad a 0
 | f + 1, l, c, a =>
  match cut (l.drop (sk false l)) with
  | none => .bad (a + sk false l) 90
  | some (t, z) =>
   if c = 4096 then .bad (a + sk false l) 3 else if t.k = 6 then .ok [(t, a + sk false l)] (a + sk false l) else
    match lx f ((l.drop (sk false l)).drop z) (c + 1) (a + sk false l + z) with
    | .ok ts n => .ok ((t, a + sk false l) :: ts) n
    | .bad n e => .bad n e

theorem toks_of : ∀ (f : Nat) (l : B) (c a : Nat) (ts : List (Tok × Nat)) (n : Nat), c ≤ 4096 → lx f l c a = .ok ts n → Toks l a ts n ∧ c + ts.length ≤ 4096
 | 0, l, c, a, ts, n, _, h => by simp [lx] at h
 | f + 1, l, c, a, ts, n, hc, h => by
  rw [lx] at h
  split at h
  ·cases h
  rename_i t z hcut
  split at h
  ·cases h
  rename_i hc'
  by_cases hn : l.drop (sk false l) = []
  ·rw [hn, cut] at hcut
   simp only [Option.some.injEq, Prod.mk.injEq] at hcut
   obtain ⟨rfl, rfl⟩ := hcut
   rw [if_pos rfl] at h
   simp only [Res.ok.injEq] at h
   obtain ⟨rfl, rfl⟩ := h
   have h1 := sk_le false l
   have h2 : sk false l = l.length := by have := List.drop_eq_nil_iff.1 hn; omega
   rw [h2]
   exact ⟨.fin h2, by simp only [List.length_cons, List.length_nil]; omega⟩
  ·obtain ⟨h1, h2, h3⟩ := cut_inv hn hcut
   rw [if_neg (tok_k h2).1] at h
   split at h
   ·rename_i ts' n' hx
    simp only [Res.ok.injEq] at h
    obtain ⟨rfl, rfl⟩ := h
    obtain ⟨i1, i2⟩ := toks_of f _ _ _ _ _ (by omega) hx
    refine ⟨.tok (w := (l.drop (sk false l)).take z) (r := (l.drop (sk false l)).drop z) (List.take_append_drop _ _).symm h2 h3 ?_, by simp only [List.length_cons]; omega⟩
    rw [List.length_take, Nat.min_eq_left h1]
    exact i1
   ·cases h


theorem Toks.shift {l : B} {a : Nat} {ts : List (Tok × Nat)} {n : Nat} (h : Toks l a ts n) (d : Nat) : Toks l (a + d) (ts.map fun x => (x.1, x.2 + d)) (n + d) := by
 induction h with
 | @fin l a hs =>
  have := Toks.fin (a := a + d) hs
  rw [show a + d + l.length = a + l.length + d by omega] at this
  exact this
 | @tok l w r a t ts n hd ht hf hr ih =>
  rw [show a + sk false l + w.length + d = a + d + sk false l + w.length by omega] at ih
  have := Toks.tok hd ht hf ih
  rw [show a + d + sk false l = a + sk false l + d by omega] at this
  exact this

theorem Toks.ne {l : B} {a : Nat} {ts : List (Tok × Nat)} {n : Nat} (h : Toks l a ts n) : ts ≠ [] := by cases h <;> simp

theorem Toks.skip {l l' : B} {a k : Nat} {ts : List (Tok × Nat)} {n : Nat} (h : Toks l (a + k) ts n) (hs : sk false l' = k + sk false l) (hd : l'.drop k = l) (hl : l'.length = k + l.length) : Toks l' a ts n := by
 cases h with
 | fin h =>
  have := Toks.fin (l := l') (a := a) (by omega)
  rw [hl, ← Nat.add_assoc] at this
  exact this
 | tok hd' ht hf hr =>
  rw [Nat.add_assoc, ← hs]
  refine .tok ?_ ht hf (by rw [hs, ← Nat.add_assoc]; exact hr)
  rw [hs, ← List.drop_drop, hd, hd']

theorem Toks.join {l : B} {a : Nat} {ts : List (Tok × Nat)} {n : Nat} (h : Toks l a ts n) {t : B} {us : List (Tok × Nat)} {m : Nat} (g : Toks t 0 us m) :
  Toks (l ++ 10 :: t) a (ts.dropLast ++ us.map fun x => (x.1, x.2 + (n + 1))) (n + 1 + m) := by
 induction h with
 | @fin l a hs =>
  have := g.shift (a + l.length + 1)
  rw [Nat.zero_add, Nat.add_comm m] at this
  simp only [List.dropLast_singleton, List.nil_append]
  refine Toks.skip (l := t) (k := l.length + 1) this (sk_join t false l hs) ?_ ?_
  ·rw [show l ++ 10 :: t = (l ++ [10]) ++ t by simp]
   exact List.drop_left' (by simp)
  ·simp only [List.length_append, List.length_cons]; omega
 | @tok l w r a t' ts n hd ht hf hr ih =>
  have hlt : sk false l < l.length := by
   obtain ⟨x, w', hw, _, _⟩ := tok_ne ht
   have := congrArg List.length hd
   rw [List.length_drop, hw] at this
   simp only [List.length_append, List.length_cons] at this
   omega
  have hs := sk_stop t false l hlt
  rw [List.dropLast_cons_of_ne_nil hr.ne, List.cons_append, ← hs]
  refine .tok (w := w) (r := r ++ 10 :: t) ?_ ht ?_ (by rw [hs]; exact ih)
  ·rw [hs, List.drop_append_of_le_length (by omega), hd, List.append_assoc]
  ·cases r with
   | nil => exact foll_blank (.inl rfl)
   | cons x r => exact hf

def shw : List Tok → B
 | [] => []
 | [t] => show1 t
 | t :: u :: r => show1 t ++ 32 :: shw (u :: r)

theorem Toks.shown {l : B} {a : Nat} {ts : List (Tok × Nat)} {n : Nat} (h : Toks l a ts n) :
  (shw (ts.map (·.1))).length ≤ 2 * l.length ∧ ∀ a', ∃ us m, Toks (shw (ts.map (·.1))) a' us m ∧ us.map (·.1) = ts.map (·.1) := by
 induction h with
 | @fin l a hs =>
  simp only [List.map_cons, List.map_nil, shw, show1]
  refine ⟨by simp, fun a' => ⟨_, _, .fin (l := []) (a := a') (by simp [sk]), by simp⟩⟩
 | @tok l w r a t ts n hd ht hf hr ih =>
  obtain ⟨ih1, ih2⟩ := ih
  obtain ⟨u, us, rfl⟩ : ∃ u us, ts = u :: us := by cases ts with | nil => exact absurd rfl hr.ne | cons u us => exact ⟨u, us, rfl⟩
  have e : shw (((t, a + sk false l) :: u :: us).map (·.1)) = w ++ 32 :: shw ((u :: us).map (·.1)) := by
   simp only [List.map_cons, shw, show_tok ht]
  rw [e]
  have hlen := congrArg List.length hd
  rw [List.length_drop, List.length_append] at hlen
  obtain ⟨x, w', hw, _, _⟩ := tok_ne ht
  have hw0 : 0 < w.length := by rw [hw]; simp
  refine ⟨by simp only [List.length_append, List.length_cons]; omega, fun a' => ?_⟩
  obtain ⟨vs, m, h1, h2⟩ := ih2 (a' + w.length + 1)
  have hs := sk_tok (r := shw ((u :: us).map (·.1))) ht
  refine ⟨(t, a') :: vs, m, ?_, by rw [List.map_cons, List.map_cons, h2]⟩
  have := Toks.tok (l := w ++ 32 :: shw ((u :: us).map (·.1))) (w := w) (r := 32 :: shw ((u :: us).map (·.1))) (a := a') (t := t) (ts := vs) (n := m) (by rw [hs]; rfl) ht (foll_blank (.inr rfl)) (by
   rw [hs]
   refine Toks.skip (k := 1) h1 ?_ rfl (by simp only [List.length_cons]; omega)
   rw [sk, if_pos (by decide)]; omega)
  rw [hs] at this
  exact this

end Go.Proofs.YtfjimoccliejdaaGreatDoor.Lx
end
section
namespace Go.Proofs.YtfjimoccliejdaaGreatDoor
open Go.RowKit

theorem ret_b {a b : Bool} (h : a = b) : Ending.returned (.bool a) = .returned (.bool b) := by rw [h]
theorem ret_i {k : IntKind} {a b : Int} (h : a = b) : Ending.returned (.int k a) = .returned (.int k b) := by rw [h]
theorem u8_eq (c : UInt8) (k : Nat) (hk : k < 256) : c = UInt8.ofNat k ↔ c.toNat = k := by
 constructor
 ·rintro rfl; simp; omega
 ·intro h; apply UInt8.toNat_inj.1; simp; omega

theorem isBlank_any (c : UInt8) (w : World) : Calls Tryz.prog 118 #[.int .u8 c.toNat] w fun e w' => e = .returned (.bool (Lx.blank c)) ∧ w' = w := by
 have h0 := c.toNat_lt
 have hb : Lx.blank c = decide (c.toNat = 32 ∨ c.toNat = 9 ∨ c.toNat = 10 ∨ c.toNat = 13) := by
  refine decide_eq_decide.2 ?_
  rw [show (32 : UInt8) = UInt8.ofNat 32 from rfl, show (9 : UInt8) = UInt8.ofNat 9 from rfl, show (10 : UInt8) = UInt8.ofNat 10 from rfl, show (13 : UInt8) = UInt8.ofNat 13 from rfl, u8_eq c _ (by decide), u8_eq c _ (by decide), u8_eq c _ (by decide), u8_eq c _ (by decide)]
 rw [hb]
 generalize c.toNat = n at h0 ⊢
 clear hb
 by_cases h1 : n = 32
 ·subst h1; go_enter Tryz.func118, Tryz.ntmps118; go_wp2_with fail; go_ret; exact ⟨rfl, rfl⟩
 by_cases h2 : n = 9
 ·subst h2; go_enter Tryz.func118, Tryz.ntmps118; go_wp2_with fail; go_ret; exact ⟨rfl, rfl⟩
 by_cases h3 : n = 10
 ·subst h3; go_enter Tryz.func118, Tryz.ntmps118; go_wp2_with fail; go_ret; exact ⟨rfl, rfl⟩
 by_cases h4 : n = 13
 ·subst h4; go_enter Tryz.func118, Tryz.ntmps118; go_wp2_with fail; go_ret; exact ⟨rfl, rfl⟩
 go_enter Tryz.func118, Tryz.ntmps118; go_wp2_with fail; go_ret
 exact ⟨ret_b (by first | rfl | (rw [Bool.eq_iff_iff]; simp; done) | (rw [Bool.eq_iff_iff]; simp; omega)), rfl⟩

theorem isDigit_any (c : UInt8) (w : World) : Calls Tryz.prog 124 #[.int .u8 c.toNat] w fun e w' => e = .returned (.bool (Lx.digit c)) ∧ w' = w := by
 have h0 := c.toNat_lt
 rw [Lx.digit]
 generalize c.toNat = n at h0 ⊢
 by_cases h1 : 48 ≤ n
 ·by_cases h2 : n ≤ 57
  ·go_enter Tryz.func124, Tryz.ntmps124; go_wp2_with fail; go_ret; exact ⟨ret_b (by first | rfl | (rw [Bool.eq_iff_iff]; simp; done) | (rw [Bool.eq_iff_iff]; simp; omega)), rfl⟩
  ·have HC := Lib.hid (show decide (48 ≤ n ∧ n ≤ 57) = false by simp; omega)
   go_enter Tryz.func124, Tryz.ntmps124; go_wp2_with fail; go_ret; exact ⟨ret_b (by first | rfl | (rw [Bool.eq_iff_iff]; simp; done) | (rw [Bool.eq_iff_iff]; simp; omega)), rfl⟩
 ·have HC := Lib.hid (show decide (48 ≤ n ∧ n ≤ 57) = false by simp; omega)
  go_enter Tryz.func124, Tryz.ntmps124; go_wp2_with fail; go_ret; exact ⟨ret_b (by first | rfl | (rw [Bool.eq_iff_iff]; simp; done) | (rw [Bool.eq_iff_iff]; simp; omega)), rfl⟩

theorem isLetter_in (n : Nat) (b : Bool) (h0 : n < 256) (h : decide (n = 95 ∨ (97 ≤ n ∧ n ≤ 122) ∨ (65 ≤ n ∧ n ≤ 90)) = b) (w : World) : Calls Tryz.prog 122 #[.int .u8 n] w fun e w' => e = .returned (.bool b) ∧ w' = w := by
 have HC := Lib.hid h
 clear h
 by_cases h1 : n = 95
 ·subst h1
  go_enter Tryz.func122, Tryz.ntmps122; go_wp2_with fail; go_ret; exact ⟨ret_b (by rw [← HC.out]; first | rfl | (rw [Bool.eq_iff_iff]; simp; done) | (rw [Bool.eq_iff_iff]; simp; omega)), rfl⟩
 by_cases h2 : 97 ≤ n
 ·by_cases h3 : n ≤ 122
  ·go_enter Tryz.func122, Tryz.ntmps122; go_wp2_with fail; go_ret; exact ⟨ret_b (by rw [← HC.out]; first | rfl | (rw [Bool.eq_iff_iff]; simp; done) | (rw [Bool.eq_iff_iff]; simp; omega)), rfl⟩
  ·have h4 : 65 ≤ n := by omega
   have h5 : ¬ n ≤ 90 := by omega
   go_enter Tryz.func122, Tryz.ntmps122; go_wp2_with fail; go_ret; exact ⟨ret_b (by rw [← HC.out]; first | rfl | (rw [Bool.eq_iff_iff]; simp; done) | (rw [Bool.eq_iff_iff]; simp; omega)), rfl⟩
 ·by_cases h4 : 65 ≤ n
  ·by_cases h5 : n ≤ 90
   ·go_enter Tryz.func122, Tryz.ntmps122; go_wp2_with fail; go_ret; exact ⟨ret_b (by rw [← HC.out]; first | rfl | (rw [Bool.eq_iff_iff]; simp; done) | (rw [Bool.eq_iff_iff]; simp; omega)), rfl⟩
   ·go_enter Tryz.func122, Tryz.ntmps122; go_wp2_with fail; go_ret; exact ⟨ret_b (by rw [← HC.out]; first | rfl | (rw [Bool.eq_iff_iff]; simp; done) | (rw [Bool.eq_iff_iff]; simp; omega)), rfl⟩
  ·go_enter Tryz.func122, Tryz.ntmps122; go_wp2_with fail; go_ret; exact ⟨ret_b (by rw [← HC.out]; first | rfl | (rw [Bool.eq_iff_iff]; simp; done) | (rw [Bool.eq_iff_iff]; simp; omega)), rfl⟩
theorem isLetter_any (c : UInt8) (w : World) : Calls Tryz.prog 122 #[.int .u8 c.toNat] w fun e w' => e = .returned (.bool (Lx.letter c)) ∧ w' = w := by
 refine isLetter_in _ _ c.toNat_lt ?_ w
 refine decide_eq_decide.2 ?_
 rw [show (95 : UInt8) = UInt8.ofNat 95 from rfl, u8_eq c _ (by decide)]

def Lx.noEnd (c : UInt8) : Bool := decide (c ≠ 10)
theorem notEnd_any (c : UInt8) (w : World) : Calls Tryz.prog 121 #[.int .u8 c.toNat] w fun e w' => e = .returned (.bool (Lx.noEnd c)) ∧ w' = w := by
 have h0 := c.toNat_lt
 have hb : Lx.noEnd c = decide (c.toNat ≠ 10) := by
  refine decide_eq_decide.2 ?_
  rw [show (10 : UInt8) = UInt8.ofNat 10 from rfl, ne_eq, u8_eq c _ (by decide)]
 rw [hb]
 generalize c.toNat = n at h0 ⊢
 clear hb
 by_cases h1 : n = 10
 ·subst h1; go_enter Tryz.func121, Tryz.ntmps121; go_wp2_with fail; go_ret; exact ⟨rfl, rfl⟩
 ·have HC := Lib.hid (show decide (n ≠ 10) = true by simp; omega)
  go_enter Tryz.func121, Tryz.ntmps121; go_wp2_with fail; go_ret; exact ⟨ret_b (by first | rfl | (rw [Bool.eq_iff_iff]; simp; done) | (rw [Bool.eq_iff_iff]; simp; omega)), rfl⟩

theorem wordy_any (c : UInt8) (w : World) : Calls Tryz.prog 148 #[.int .u8 c.toNat] w fun e w' => e = .returned (.bool (Lx.wordy c)) ∧ w' = w := by
 have h0 := c.toNat_lt
 rw [Lx.wordy]
 by_cases hl : Lx.letter c = true
 ·go_enter Tryz.func148, Tryz.ntmps148; go_wp2_with fail
  refine (isLetter_any c _).mono ?_
  rintro e w' ⟨rfl, rfl⟩
  rw [hl]
  go_wp2_with fail; go_ret; exact ⟨ret_b (by rw [hl]; rfl), rfl⟩
 ·have hl' : Lx.letter c = false := by simpa using hl
  rw [hl']
  go_enter Tryz.func148, Tryz.ntmps148; go_wp2_with fail
  refine (isLetter_any c _).mono ?_
  rintro e w' ⟨rfl, rfl⟩
  rw [hl']
  go_wp2_with fail
  refine (isDigit_any c _).mono ?_
  rintro e w' ⟨rfl, rfl⟩
  go_wp2_with fail; go_ret; exact ⟨rfl, rfl⟩
end Go.Proofs.YtfjimoccliejdaaGreatDoor
end
section
namespace Go.Proofs
open Go.Shelf
def Tryz.lays99_ren : Go.Shelf.Ren := ⟨fun | 99 => 119 | 206 => 147 | n => n, fun | 9 => 9 | 4 => 4 | 3 => 3 | n => n, fun | n => n⟩
theorem Tryz.lays99 : Go.Proofs.Lays.n99 Tryz.prog Tryz.lays99_ren := {
 mixed := by kernel_rfl
 f99 := Tryz.func119.trans (congrArg some (by kernel_rfl))
 f206 := Tryz.func147.trans (congrArg some (by kernel_rfl))
 t3 := Tryz.underlying3
 a3 := Tryz.isAgg3
 z3 := Tryz.sizeOf3
 v3 := Tryz.zeroValue3
 t4 := Tryz.underlying4
 a4 := Tryz.isAgg4
 z4 := Tryz.sizeOf4
 v4 := Tryz.zeroValue4
 t9 := Tryz.underlying9
 a9 := Tryz.isAgg9
 z9 := Tryz.sizeOf9
 v9 := Tryz.zeroValue9 }
open Go.RowKit Go.Lib in
theorem Tryz.strings_HasPrefix (s p : ByteArray) (w : World) :
  Calls Tryz.prog 119 #[.string s, .string p] w fun e w' => e = .returned (.bool (Lib.hasPrefix s.data.toList p.data.toList)) ∧ w' = w := Any.strings_HasPrefix Tryz.lays99 s p w
end Go.Proofs
end
section
namespace Go.Proofs.YtfjimoccliejdaaGreatDoor
open Go.RowKit Go.Shelf

abbrev bs (s : ByteArray) : Lx.B := s.data.toList
theorem bs_len (s : ByteArray) : (bs s).length = s.size := by simp [bs]
theorem bs_extract (s : ByteArray) (a b : Nat) : bs (s.extract a b) = ((bs s).take b).drop a := by
 simp [bs, ByteArray.data_extract]
 rw [List.drop_take]
theorem bs_get (s : ByteArray) (k : Nat) (h : k < s.size) : (bs s)[k]? = some s[k] := by
 have : k < (bs s).length := by rw [bs_len]; exact h
 rw [List.getElem?_eq_getElem this]; rfl
theorem run_lt {p : UInt8 → Bool} : ∀ {l : Lx.B} {k : Nat}, (∀ j c, j < k → l[j]? = some c → p c = true) → k ≤ l.length → (∀ c, l[k]? = some c → p c = false) → (l.takeWhile p).length = k
 | [], k, _, h, _ => by simp at h; simp [h]
 | c :: r, 0, _, _, h => by simp [h c rfl]
 | c :: r, k + 1, h1, h2, h3 => by
  rw [List.takeWhile_cons, h1 0 c (by omega) rfl, if_pos rfl, List.length_cons]
  rw [run_lt (l := r) (k := k) (fun j c' hj hc => h1 (j + 1) c' (by omega) (by simpa using hc)) (by simpa using h2) (fun c' hc => h3 c' (by simpa using hc))]

set_option maxHeartbeats 1000000 in
theorem runE (s : ByteArray) (w : World) (hs : s.size ≤ 9223372036854775807) :
  Calls Tryz.prog 120 #[.string s, .func (.func 121) #[] #[]] w fun e w' => e = .returned (.int .i64 ((bs s).takeWhile Lx.noEnd).length) ∧ w' = w := by
 go_enter Tryz.func120, Tryz.ntmps120
 go_wp2_with fail
 go_loop [8, 4] (fun i _ => ∃ k : Nat, k ≤ s.size ∧ i = .int .i64 k ∧ Hid (∀ j c, j < k → (bs s)[j]? = some c → Lx.noEnd c = true)) (fun i _ => s.size - (intOf i).toNat)
 case atStart => exact ⟨0, Nat.zero_le _, rfl, Lib.hid (fun j c h => absurd h (by omega))⟩
 case round =>
  obtain ⟨k, hk, rfl, HA⟩ := hrel
  by_cases hlt : k < s.size
  ·have HG := Lib.hid (bs_get s k hlt)
   go_wp2_with fail
   go_at_call 121
   refine (notEnd_any s[k] _).mono ?_
   rintro e w' ⟨rfl, rfl⟩
   cases hpk : Lx.noEnd s[k]
   ·go_wp2_with fail
    go_ret
    refine ⟨ret_i ?_, rfl⟩
    rw [run_lt (p := Lx.noEnd) HA.out (by rw [bs_len]; omega) (fun c hc => by rw [HG.out] at hc; obtain rfl := Option.some.inj hc; exact hpk)]
   ·go_wp2_with fail
    go_round
    case rel =>
     refine ⟨k + 1, by omega, by go_num, Lib.hid (fun j c hj hc => ?_)⟩
     rcases Nat.lt_or_ge j k with h | h
     ·exact HA.out j c h hc
     ·obtain rfl : j = k := by omega
      rw [HG.out] at hc; obtain rfl := Option.some.inj hc; exact hpk
    case measure => simp [intOf]; omega
  ·go_wp2_with fail
   go_ret
   refine ⟨ret_i ?_, rfl⟩
   rw [run_lt (p := Lx.noEnd) (k := s.size) (fun j c hj hc => HA.out j c (by omega) hc) (by rw [bs_len]; omega) (fun c hc => by rw [List.getElem?_eq_none (by rw [bs_len]; omega)] at hc; cases hc)]
set_option maxHeartbeats 1000000 in
theorem runW (s : ByteArray) (w : World) (hs : s.size ≤ 9223372036854775807) :
  Calls Tryz.prog 120 #[.string s, .func (.func 148) #[] #[]] w fun e w' => e = .returned (.int .i64 ((bs s).takeWhile Lx.wordy).length) ∧ w' = w := by
 go_enter Tryz.func120, Tryz.ntmps120
 go_wp2_with fail
 go_loop [8, 4] (fun i _ => ∃ k : Nat, k ≤ s.size ∧ i = .int .i64 k ∧ Hid (∀ j c, j < k → (bs s)[j]? = some c → Lx.wordy c = true)) (fun i _ => s.size - (intOf i).toNat)
 case atStart => exact ⟨0, Nat.zero_le _, rfl, Lib.hid (fun j c h => absurd h (by omega))⟩
 case round =>
  obtain ⟨k, hk, rfl, HA⟩ := hrel
  by_cases hlt : k < s.size
  ·have HG := Lib.hid (bs_get s k hlt)
   go_wp2_with fail
   go_at_call 148
   refine (wordy_any s[k] _).mono ?_
   rintro e w' ⟨rfl, rfl⟩
   cases hpk : Lx.wordy s[k]
   ·go_wp2_with fail
    go_ret
    refine ⟨ret_i ?_, rfl⟩
    rw [run_lt (p := Lx.wordy) HA.out (by rw [bs_len]; omega) (fun c hc => by rw [HG.out] at hc; obtain rfl := Option.some.inj hc; exact hpk)]
   ·go_wp2_with fail
    go_round
    case rel =>
     refine ⟨k + 1, by omega, by go_num, Lib.hid (fun j c hj hc => ?_)⟩
     rcases Nat.lt_or_ge j k with h | h
     ·exact HA.out j c h hc
     ·obtain rfl : j = k := by omega
      rw [HG.out] at hc; obtain rfl := Option.some.inj hc; exact hpk
    case measure => simp [intOf]; omega
  ·go_wp2_with fail
   go_ret
   refine ⟨ret_i ?_, rfl⟩
   rw [run_lt (p := Lx.wordy) (k := s.size) (fun j c hj hc => HA.out j c (by omega) hc) (by rw [bs_len]; omega) (fun c hc => by rw [List.getElem?_eq_none (by rw [bs_len]; omega)] at hc; cases hc)]
set_option maxHeartbeats 1000000 in
theorem runD (s : ByteArray) (w : World) (hs : s.size ≤ 9223372036854775807) :
  Calls Tryz.prog 120 #[.string s, .func (.func 124) #[] #[]] w fun e w' => e = .returned (.int .i64 ((bs s).takeWhile Lx.digit).length) ∧ w' = w := by
 go_enter Tryz.func120, Tryz.ntmps120
 go_wp2_with fail
 go_loop [8, 4] (fun i _ => ∃ k : Nat, k ≤ s.size ∧ i = .int .i64 k ∧ Hid (∀ j c, j < k → (bs s)[j]? = some c → Lx.digit c = true)) (fun i _ => s.size - (intOf i).toNat)
 case atStart => exact ⟨0, Nat.zero_le _, rfl, Lib.hid (fun j c h => absurd h (by omega))⟩
 case round =>
  obtain ⟨k, hk, rfl, HA⟩ := hrel
  by_cases hlt : k < s.size
  ·have HG := Lib.hid (bs_get s k hlt)
   go_wp2_with fail
   go_at_call 124
   refine (isDigit_any s[k] _).mono ?_
   rintro e w' ⟨rfl, rfl⟩
   cases hpk : Lx.digit s[k]
   ·go_wp2_with fail
    go_ret
    refine ⟨ret_i ?_, rfl⟩
    rw [run_lt (p := Lx.digit) HA.out (by rw [bs_len]; omega) (fun c hc => by rw [HG.out] at hc; obtain rfl := Option.some.inj hc; exact hpk)]
   ·go_wp2_with fail
    go_round
    case rel =>
     refine ⟨k + 1, by omega, by go_num, Lib.hid (fun j c hj hc => ?_)⟩
     rcases Nat.lt_or_ge j k with h | h
     ·exact HA.out j c h hc
     ·obtain rfl : j = k := by omega
      rw [HG.out] at hc; obtain rfl := Option.some.inj hc; exact hpk
    case measure => simp [intOf]; omega
  ·go_wp2_with fail
   go_ret
   refine ⟨ret_i ?_, rfl⟩
   rw [run_lt (p := Lx.digit) (k := s.size) (fun j c hj hc => HA.out j c (by omega) hc) (by rw [bs_len]; omega) (fun c hc => by rw [List.getElem?_eq_none (by rw [bs_len]; omega)] at hc; cases hc)]
end Go.Proofs.YtfjimoccliejdaaGreatDoor
end
section
namespace Go.Proofs.YtfjimoccliejdaaGreatDoor
open Go.RowKit Go.Shelf

theorem sk_true : ∀ r : Lx.B, Lx.sk true r = (r.takeWhile Lx.noEnd).length + Lx.sk false (r.drop (r.takeWhile Lx.noEnd).length)
 | [] => by simp [Lx.sk]
 | c :: r => by
  rw [Lx.sk]
  by_cases hc : c = 10
  ·subst hc
   rw [if_pos rfl, List.takeWhile_cons, if_neg (by decide), List.length_nil, List.drop_zero, Lx.sk, if_pos (by decide)]; omega
  ·rw [if_neg hc, List.takeWhile_cons, if_pos (by simpa [Lx.noEnd] using hc), List.length_cons, List.drop_succ_cons, sk_true r]; omega
theorem sk_blank {c : UInt8} {r : Lx.B} (h : Lx.blank c = true) : Lx.sk false (c :: r) = Lx.sk false r + 1 := by rw [Lx.sk, if_pos h]
theorem sk_rem {c : UInt8} {r : Lx.B} (h : Lx.blank c = false) (hp : Lib.hasPrefix (c :: r) [45, 45] = true) :
  Lx.sk false (c :: r) = ((c :: r).takeWhile Lx.noEnd).length + Lx.sk false ((c :: r).drop ((c :: r).takeWhile Lx.noEnd).length) := by
 have hh : c = 45 ∧ r.head? = some 45 := by
  cases r with
  | nil => simp [Lib.hasPrefix] at hp
  | cons x r => simp [Lib.hasPrefix] at hp; exact ⟨hp.1.symm, by simp [hp.2]⟩
 rw [Lx.sk, if_neg (by simp [h]), if_pos hh, List.takeWhile_cons, if_pos (by rw [hh.1]; decide), List.length_cons, List.drop_succ_cons, sk_true r]; omega
theorem sk_no {c : UInt8} {r : Lx.B} (h : Lx.blank c = false) (hp : Lib.hasPrefix (c :: r) [45, 45] = false) : Lx.sk false (c :: r) = 0 := by
  rw [Lx.sk, if_neg (by simp [h]), if_neg]
  rintro ⟨rfl, hr⟩
  cases r with
  | nil => simp at hr
  | cons x r => obtain rfl : x = 45 := by simpa using hr
                simp [Lib.hasPrefix] at hp
theorem bs_drop (s : ByteArray) (k : Nat) (h : k < s.size) : (bs s).drop k = s[k] :: (bs s).drop (k + 1) := by
 rw [List.drop_eq_getElem_cons (by rw [bs_len]; exact h)]; rfl
theorem bs_from (s : ByteArray) (k : Nat) : bs (s.extract k s.size) = (bs s).drop k := by
 rw [bs_extract, List.take_of_length_le (by rw [bs_len]; exact Nat.le_refl _)]

set_option maxHeartbeats 1000000 in
theorem skip_any (s : ByteArray) (p : Nat) (w : World) (hs : s.size ≤ 9223372036854775807) (hp : p ≤ s.size) :
  Calls Tryz.prog 74 #[.string s, .int .i64 p] w fun e w' => e = .returned (.int .i64 ((p + Lx.sk false ((bs s).drop p) : Nat))) ∧ w' = w := by
 go_enter Tryz.func74, Tryz.ntmps74
 go_wp2_with fail
 go_step3
 go_wp2_with fail
 go_step3
 go_wp2_with fail
 go_loop [1] (fun i => ∃ k : Nat, k ≤ s.size ∧ i = .int .i64 k ∧ Hid (k + Lx.sk false ((bs s).drop k) = p + Lx.sk false ((bs s).drop p))) (fun i => s.size - (intOf i).toNat)
 case atStart => exact ⟨p, hp, rfl, Lib.hid rfl⟩
 case round =>
  obtain ⟨k, hk, rfl, HA⟩ := hrel
  by_cases hlt : k < s.size
  ·have HD := Lib.hid (bs_drop s k hlt)
   cases hbl : Lx.blank s[k]
   ·cases hpr : Lib.hasPrefix ((bs s).drop k) [45, 45]
    ·go_wp2_with fail
     refine (isBlank_any s[k] _).mono ?_
     rintro e w' ⟨rfl, rfl⟩
     rw [hbl]
     go_wp2_with fail
     refine (Tryz.strings_HasPrefix _ _ _).mono ?_
     rintro e w' ⟨rfl, rfl⟩
     rw [show Lib.hasPrefix (bs (s.extract k s.size)) [45, 45] = false by rw [bs_from, hpr]]
     go_wp2_with fail
     (try rw [Exit.noGoto_ret])
     go_ret
     refine ⟨ret_i ?_, rfl⟩
     rw [← HA.out, HD.out, sk_no hbl (by rw [← HD.out]; exact hpr)]; rfl
    ·go_wp2_with fail
     refine (isBlank_any s[k] _).mono ?_
     rintro e w' ⟨rfl, rfl⟩
     rw [hbl]
     go_wp2_with fail
     refine (Tryz.strings_HasPrefix _ _ _).mono ?_
     rintro e w' ⟨rfl, rfl⟩
     rw [show Lib.hasPrefix (bs (s.extract k s.size)) [45, 45] = true by rw [bs_from, hpr]]
     go_wp2_with fail
     refine (runE _ _ (by simp [ByteArray.size_extract]; omega)).mono ?_
     rintro e w' ⟨rfl, rfl⟩
     rw [bs_from]
     have hr := Lx.takeWhile_le Lx.noEnd ((bs s).drop k)
     have hr1 : 0 < (((bs s).drop k).takeWhile Lx.noEnd).length := by
      have hne : Lx.noEnd s[k] = true := by
       rw [HD.out] at hpr
       have : s[k] = 45 := by
        cases h : (bs s).drop (k + 1) with
        | nil => rw [h] at hpr; simp [Lib.hasPrefix] at hpr
        | cons x r => rw [h] at hpr; simp [Lib.hasPrefix] at hpr; exact hpr.1.symm
       rw [this]; decide
      rw [HD.out, List.takeWhile_cons, if_pos hne]; simp
     have HE := Lib.hid (show k + (((bs s).drop k).takeWhile Lx.noEnd).length + Lx.sk false ((bs s).drop (k + (((bs s).drop k).takeWhile Lx.noEnd).length)) = p + Lx.sk false ((bs s).drop p) by
      have := sk_rem hbl (by rw [← HD.out]; exact hpr)
      rw [← HD.out, List.drop_drop] at this
      rw [← HA.out, this]; omega)
     rw [List.length_drop, bs_len] at hr
     generalize (((bs s).drop k).takeWhile Lx.noEnd).length = n at hr hr1 HE ⊢
     go_wp2_with fail
     go_round
     case rel => exact ⟨k + n, by omega, by go_num, HE⟩
     case measure => simp [intOf]; omega
   ·go_wp2_with fail
    refine (isBlank_any s[k] _).mono ?_
    rintro e w' ⟨rfl, rfl⟩
    rw [hbl]
    go_wp2_with fail
    go_round
    case rel => exact ⟨k + 1, by omega, by go_num, Lib.hid (by rw [← HA.out, HD.out, sk_blank hbl]; omega)⟩
    case measure => simp [intOf]; omega
  ·have HC := Lib.hid (show Lx.sk false ((bs s).drop k) = 0 by rw [List.drop_eq_nil_iff.2 (by rw [bs_len]; omega)]; rfl)
   go_wp2_with fail
   go_ret
   exact ⟨ret_i (by rw [← HA.out, HC.out]; rfl), rfl⟩
end Go.Proofs.YtfjimoccliejdaaGreatDoor
end
section
namespace Go.Proofs.YtfjimoccliejdaaGreatDoor
open Go.RowKit

abbrev VV (k n : Int) (s : ByteArray) : Value := .agg #[.int .i64 k, .int .i64 n, .string s]

def okV (k n : Int) (s : ByteArray) : Bool :=
 if k = 0 then n == 0 && s.toList.isEmpty
 else if k = 1 then (n == 0 || n == 1) && s.toList.isEmpty
 else if k = 2 then decide (-9007199254740991 ≤ n) && decide (n ≤ 9007199254740991) && s.toList.isEmpty
 else if k = 3 then n == 0 && decide (s.size ≤ 64)
 else false


def eqV (k n : Int) (s : ByteArray) (k' n' : Int) (s' : ByteArray) : Bool := k == k' && n == n' && s.toList == s'.toList

theorem bt {w w1 w2 : World} (h1 : Below w.heap.size w w1) (h2 : Below w1.heap.size w1 w2) : Below w.heap.size w w2 := h1.trans (h2.mono h1.size)
theorem ba (w : World) (o : Obj) : Below w.heap.size w (w.alloc o) := (Below.refl _ _).alloc (Nat.le_refl _) _
theorem ba2 (w : World) (o1 o2 : Obj) : Below w.heap.size w ((w.alloc o1).alloc o2) := bt (ba _ _) (ba _ _)

theorem box1 {w w1 : World} {a0 a1 a2 : Value} {T : TypeId} (hb : Below (w.alloc (.cells #[a0, a1, a2] T)).heap.size (w.alloc (.cells #[a0, a1, a2] T)) w1) :
  w1.cell? ⟨w.heap.size, 0, none⟩ = some a0 ∧ w1.cell? ⟨w.heap.size, 1, none⟩ = some a1 ∧ w1.cell? ⟨w.heap.size, 2, none⟩ = some a2 :=
 ⟨(hb.cell (p := ⟨w.heap.size, 0, none⟩) (by simp)).trans (by simp), (hb.cell (p := ⟨w.heap.size, 1, none⟩) (by simp)).trans (by simp), (hb.cell (p := ⟨w.heap.size, 2, none⟩) (by simp)).trans (by simp)⟩
theorem ret_bool {a b : Bool} (h : a = b) : Ending.returned (.bool a) = .returned (.bool b) := by rw [h]

end Go.Proofs.YtfjimoccliejdaaGreatDoor
end
section
namespace Go.Proofs.YtfjimoccliejdaaGreatDoor
open Go.RowKit Go.Shelf

structure Tabs (w : World) : Prop where
 ks : ∀ (j : Nat) (b : Lx.B), Lx.keys[j]? = some b → w.cell? ⟨2, j, none⟩ = some (.string ⟨b.toArray⟩)
 sg : ∀ (j : Nat) (b : Lx.B), Lx.signs[j]? = some b → w.cell? ⟨1, j, none⟩ = some (.string ⟨b.toArray⟩)
 m : ∃ m : Nat, m = 0
theorem lt_of_cell {w : World} {p : Addr} {v : Value} (h : w.cell? p = some v) : p.block < w.heap.size := by
 rcases Nat.lt_or_ge p.block w.heap.size with hl | hg
 ·exact hl
 ·rw [World.cell?, Array.getElem?_eq_none hg] at h; cases h
theorem cell_kept {w w' : World} (hb : Below w.heap.size w w') {p : Addr} {v : Value} (h : w.cell? p = some v) : w'.cell? p = some v :=
 (hb.cell (lt_of_cell h)).trans h
theorem Tabs.kept {w w' : World} (h : Tabs w) (hb : Below w.heap.size w w') : Tabs w' := by
 obtain ⟨m, hm⟩ := h.m
 exact ⟨fun j b hj => cell_kept hb (h.ks j b hj), fun j b hj => cell_kept hb (h.sg j b hj), m, hm⟩
theorem keys_len : Lx.keys.length = 28 := by decide +kernel
theorem tl_bs (a b : ByteArray) : (a.toList == b.toList) = (bs a == bs b) := by rw [ByteArray.toList_eq, ByteArray.toList_eq]

set_option maxHeartbeats 1000000 in
theorem key_any (s : ByteArray) (w : World) (hT : Tabs w) :
  Calls Tryz.prog 149 #[.string s] w fun e w' => e = .returned (.bool (Lx.key (bs s))) ∧ w' = w := by
 have HT := Lib.hid hT
 clear hT
 go_enter Tryz.func149, Tryz.ntmps149
 go_wp2_with fail
 go_loop [4, 3] (fun i _ => ∃ k : Nat, k ≤ 28 ∧ i = .int .i64 k ∧ Hid (∀ j b, j < k → Lx.keys[j]? = some b → b ≠ bs s)) (fun i _ => 28 - (intOf i).toNat)
 case atStart => exact ⟨0, Nat.zero_le _, rfl, Lib.hid (fun j c h => absurd h (by omega))⟩
 case round =>
  obtain ⟨k, hk, rfl, HA⟩ := hrel
  by_cases hlt : k < 28
  ·obtain ⟨b, hb⟩ : ∃ b, Lx.keys[k]? = some b := ⟨_, List.getElem?_eq_getElem (by rw [keys_len]; exact hlt)⟩
   have hc := HT.out.ks k b hb
   have HB := Lib.hid hb
   have hq : ((⟨b.toArray⟩ : ByteArray).toList == s.toList) = (b == bs s) := tl_bs _ _
   clear hb
   generalize (⟨b.toArray⟩ : ByteArray) = kb at hc hq
   cases he : b == bs s
   ·rw [he] at hq
    go_wp2_with fail
    go_round
    case rel =>
     refine ⟨k + 1, by omega, by go_num, Lib.hid (fun j x hj hx => ?_)⟩
     rcases Nat.lt_or_ge j k with h | h
     ·exact HA.out j x h hx
     ·obtain rfl : j = k := by omega
      rw [HB.out] at hx; obtain rfl := Option.some.inj hx; simpa using he
    case measure => simp [intOf]; omega
   ·rw [he] at hq
    go_wp2_with fail
    go_ret
    refine ⟨ret_b ?_, rfl⟩
    obtain rfl : b = bs s := by simpa using he
    symm; rw [Lx.key, List.contains_iff_mem]
    exact List.mem_of_getElem? HB.out
  ·go_wp2_with fail
   go_ret
   refine ⟨ret_b ?_, rfl⟩
   symm; rw [Lx.key, Bool.eq_false_iff]
   intro h
   rw [List.contains_iff_mem] at h
   obtain ⟨j, hj⟩ := List.getElem?_of_mem h
   have : j < 28 := by have := (List.getElem?_eq_some_iff.1 hj).1; rw [keys_len] at this; exact this
   exact HA.out j _ (by omega) hj rfl

abbrev tokV (k : Int) (s : ByteArray) (n a : Int) : Value := .agg #[.int .i64 k, .string s, .int .i64 n, .int .i64 a]
abbrev noTok : Value := .tuple #[tokV 0 ⟨#[]⟩ 0 0, .int .i64 0]
def CutV (s : ByteArray) (o : Option (Lx.Tok × Nat)) (v : Value) : Prop :=
 match o with
 | none => v = noTok
 | some (t, z) => z ≤ s.size ∧ ∃ b : ByteArray, bs b = t.s ∧ v = .tuple #[tokV t.k b t.n 0, .int .i64 z]

set_option maxHeartbeats 1000000 in
theorem cutWord_any (s : ByteArray) (w : World) (hs : s.size ≤ 9223372036854775807) (hT : Tabs w) :
  Calls Tryz.prog 123 #[.string s] w fun e w' => ∃ v, e = .returned v ∧ CutV s (Lx.cutWord (bs s)) v ∧ Below w.heap.size w w' := by
 have HT := Lib.hid hT
 have HBel := Lib.hid (ba w (.cells #[.int .i64 0, .string ⟨#[]⟩, .int .i64 0, .int .i64 0] 66))
 obtain ⟨W, hz⟩ : ∃ W, (bs s).takeWhile Lx.wordy = W := ⟨_, rfl⟩
 obtain ⟨n, hn⟩ : ∃ n, W.length = n := ⟨_, rfl⟩
 have hr : n ≤ s.size := by rw [← hn, ← hz, ← bs_len]; exact Lx.takeWhile_le _ _
 have HX := Lib.hid (show bs (s.extract 0 n) = W by rw [bs_extract, List.drop_zero, ← hn, ← hz, Lx.takeWhile_take])
 have HZ := Lib.hid (show Lx.cutWord (bs s) = if 24 < n then none else some (⟨if Lx.key W then 2 else 1, W, 0⟩, n) by subst hz hn; rfl)
 have HW := Lib.hid (show ((bs s).takeWhile Lx.wordy).length = n by rw [hz, hn])
 clear hT hz hn
 go_enter Tryz.func123, Tryz.ntmps123
 go_wp2_with fail
 refine (runW _ _ (by omega)).mono ?_
 rintro e w' ⟨rfl, rfl⟩
 rw [HW.out]
 by_cases h24 : 24 < n
 ·go_wp2_with fail
  refine bodyPost_ret (v := noTok) (by simp [results, Tryz.results123, go_sem]) rfl ⟨_, rfl, ?_, HBel.out⟩
  rw [HZ.out, if_pos h24]; rfl
 ·go_wp2_with fail
  refine (key_any _ _ (HT.out.kept HBel.out)).mono ?_
  rintro e w' ⟨rfl, rfl⟩
  rw [HX.out]
  cases hk : Lx.key W
  ·go_wp2_with fail
   refine bodyPost_ret (v := .tuple #[tokV 1 (s.extract 0 n) 0 0, .int .i64 n]) (by simp [results, Tryz.results123, go_sem]) rfl ⟨_, rfl, ?_, ba w _⟩
   rw [HZ.out, if_neg h24, hk]
   exact ⟨hr, _, HX.out, rfl⟩
  ·go_wp2_with fail
   refine bodyPost_ret (v := .tuple #[tokV 2 (s.extract 0 n) 0 0, .int .i64 n]) (by simp [results, Tryz.results123, go_sem]) rfl ⟨_, rfl, ?_, ba w _⟩
   rw [HZ.out, if_neg h24, hk]
   exact ⟨hr, _, HX.out, rfl⟩

end Go.Proofs.YtfjimoccliejdaaGreatDoor
end
section
namespace Go.Proofs.YtfjimoccliejdaaGreatDoor
open Go.RowKit Go.Shelf

theorem signs_len : Lx.signs.length = 15 := by decide +kernel
theorem find_at {p : Lx.B → Bool} : ∀ {l : List Lx.B} {k : Nat} {b : Lx.B}, l[k]? = some b → p b = true → (∀ j x, j < k → l[j]? = some x → p x = false) → l.find? p = some b
  | [], k, b, h, _, _ => by simp at h
  | x :: l, 0, b, h, hp, _ => by obtain rfl : x = b := by simpa using h
                                 rw [List.find?_cons, hp]
  | x :: l, k + 1, b, h, hp, ha => by
    rw [List.find?_cons, ha 0 x (by omega) rfl]
    exact find_at (k := k) (by simpa using h) hp fun j y hj hy => ha (j + 1) y (by omega) (by simpa using hy)

theorem tset {w : World} {U : Nat} {a0 a1 a2 a3 : Value} {T : TypeId} (h : w.heap[U]? = some (.cells #[a0, a1, a2, a3] T (0, 0))) (b0 b1 b2 b3 : Value) :
  ((((w.setCell ⟨U, 0, none⟩ b0).setCell ⟨U, 1, none⟩ b1).setCell ⟨U, 2, none⟩ b2).setCell ⟨U, 3, none⟩ b3).heap[U]? = some (.cells #[b0, b1, b2, b3] T (0, 0)) := by
 simp only [World.setCell, Array.getElem?_modify, if_true, h]
 rfl
theorem tcell {w : World} {U : Nat} {b0 b1 b2 b3 : Value} {T : TypeId} (e : w.heap[U]? = some (.cells #[b0, b1, b2, b3] T (0, 0))) :
  (w.cell? ⟨U, 0, none⟩ = some b0 ∧ w.cell? ⟨U, 1, none⟩ = some b1 ∧ w.cell? ⟨U, 2, none⟩ = some b2 ∧ w.cell? ⟨U, 3, none⟩ = some b3) ∧
  w.frozen? ⟨U, 0, none⟩ = false ∧ w.frozen? ⟨U, 1, none⟩ = false ∧ w.frozen? ⟨U, 2, none⟩ = false ∧ w.frozen? ⟨U, 3, none⟩ = false :=
 ⟨⟨by simp only [World.cell?, e]; rfl, by simp only [World.cell?, e]; rfl, by simp only [World.cell?, e]; rfl, by simp only [World.cell?, e]; rfl⟩,
  by simp only [World.frozen?, e]; rfl, by simp only [World.frozen?, e]; rfl, by simp only [World.frozen?, e]; rfl, by simp only [World.frozen?, e]; rfl⟩
abbrev tokO (T : TypeId) : Obj := .cells #[.int .i64 0, .string ⟨#[]⟩, .int .i64 0, .int .i64 0] T

set_option maxHeartbeats 1000000 in
theorem cutSign_any (s : ByteArray) (w : World) (hT : Tabs w) :
  Calls Tryz.prog 127 #[.string s] w fun e w' => ∃ v, e = .returned v ∧ CutV s (Lx.cutSign (bs s)) v ∧ Below w.heap.size w w' := by
 have HT := Lib.hid (hT.kept (ba w (.cells #[.int .i64 0, .string ⟨#[]⟩, .int .i64 0, .int .i64 0] 66)))
 have HBel := Lib.hid (ba w (.cells #[.int .i64 0, .string ⟨#[]⟩, .int .i64 0, .int .i64 0] 66))
 have HU := Lib.hid (show 1 < w.heap.size from lt_of_cell (hT.sg 0 _ rfl))
 have HX := Lib.hid ((MapKept.heap_alloc w (tokO 66)).1)
 clear hT
 go_enter Tryz.func127, Tryz.ntmps127
 go_wp2_with fail
 generalize w.alloc (.cells #[.int .i64 0, .string ⟨#[]⟩, .int .i64 0, .int .i64 0] 66) = W1 at HT HBel HX ⊢
 obtain ⟨U, hU⟩ : ∃ U, w.heap.size = U := ⟨_, rfl⟩
 have HUB := Lib.hid (show w.heap.size ≤ U by omega)
 rw [hU] at HX HU ⊢
 clear hU
 go_loop [5, 4] (fun i _ => ∃ k : Nat, k ≤ 15 ∧ i = .int .i64 k ∧ Hid (∀ j b, j < k → Lx.signs[j]? = some b → b.isPrefixOf (bs s) = false)) (fun i _ => 15 - (intOf i).toNat)
 case atStart => exact ⟨0, Nat.zero_le _, rfl, Lib.hid (fun j c h => absurd h (by omega))⟩
 case round =>
  obtain ⟨k, hk, rfl, HA⟩ := hrel
  by_cases hlt : k < 15
  ·obtain ⟨b, hb⟩ : ∃ b, Lx.signs[k]? = some b := ⟨_, List.getElem?_eq_getElem (by rw [signs_len]; exact hlt)⟩
   have hc := HT.out.sg k b hb
   have HB := Lib.hid hb
   have HQ := Lib.hid (show bs (⟨b.toArray⟩ : ByteArray) = b from rfl)
   have HS2 := Lib.hid (show (⟨b.toArray⟩ : ByteArray).size = b.length by rw [← bs_len])
   clear hb
   generalize (⟨b.toArray⟩ : ByteArray) = kb at hc HQ HS2
   cases he : b.isPrefixOf (bs s)
   ·go_wp2_with fail
    refine (Tryz.strings_HasPrefix _ _ _).mono ?_
    rintro e W1 ⟨rfl, rfl⟩
    rw [show Lib.hasPrefix s.data.toList kb.data.toList = false by rw [show kb.data.toList = b from HQ.out]; exact he]
    go_wp2_with fail
    go_round
    case rel =>
     refine ⟨k + 1, by omega, by go_num, Lib.hid (fun j x hj hx => ?_)⟩
     rcases Nat.lt_or_ge j k with h | h
     ·exact HA.out j x h hx
     ·obtain rfl : j = k := by omega
      rw [HB.out] at hx; obtain rfl := Option.some.inj hx; exact he
    case measure => simp [intOf]; omega
   ·go_wp2_with fail
    refine (Tryz.strings_HasPrefix _ _ _).mono ?_
    rintro e W1 ⟨rfl, rfl⟩
    rw [show Lib.hasPrefix s.data.toList kb.data.toList = true by rw [show kb.data.toList = b from HQ.out]; exact he]
    go_wp2_with fail
    obtain ⟨⟨c0, c1, c2, c3⟩, f0, f1, f2, f3⟩ := tcell HX.out
    have hUV := HU.out
    have HS := Lib.hid (tset HX.out (.int .i64 5) (.string kb) (.int .i64 0) (.int .i64 0))
    have HE := Lib.hid (show Below w.heap.size w ((((W1.setCell ⟨U, 0, none⟩ (.int .i64 5)).setCell ⟨U, 1, none⟩ (.string kb)).setCell ⟨U, 2, none⟩ (.int .i64 0)).setCell ⟨U, 3, none⟩ (.int .i64 0)) from
     (((HBel.out.setCell HUB.out _).setCell HUB.out _).setCell HUB.out _).setCell HUB.out _)
    go_region
    go_wp2_with fail
    obtain ⟨⟨q0, q1, q2, q3⟩, _⟩ := tcell HS.out
    have HL := Lib.hid (show Lx.cutSign (bs s) = some (⟨5, b, 0⟩, b.length) by rw [Lx.cutSign, find_at HB.out he (fun j x hj hx => HA.out j x hj hx)]; rfl)
    refine bodyPost_ret (v := .tuple #[tokV 5 kb 0 0, .int .i64 kb.size]) (by simp [results, Tryz.results127, go_sem, q0, q1, q2, q3]) rfl ⟨_, rfl, ?_, Below.drew HE.out⟩
    rw [HL.out]
    refine ⟨?_, kb, HQ.out, by rw [HS2.out]; rfl⟩
    rw [← bs_len]
    exact (List.isPrefixOf_iff_prefix.1 he).length_le
  ·have HF := Lib.hid (show Lx.cutSign (bs s) = none by
    rw [Lx.cutSign, List.find?_eq_none.2]; rfl
    intro x hx
    obtain ⟨j, hj⟩ := List.getElem?_of_mem hx
    have : j < 15 := by have := (List.getElem?_eq_some_iff.1 hj).1; rw [signs_len] at this; exact this
    rw [HA.out j x (by omega) hj]; decide)
   obtain ⟨⟨c0, c1, c2, c3⟩, f0, f1, f2, f3⟩ := tcell HX.out
   have HS := Lib.hid (tset HX.out (.int .i64 0) (.string ⟨#[]⟩) (.int .i64 0) (.int .i64 0))
   have HE := Lib.hid (show Below w.heap.size w ((((W1.setCell ⟨U, 0, none⟩ (.int .i64 0)).setCell ⟨U, 1, none⟩ (.string ⟨#[]⟩)).setCell ⟨U, 2, none⟩ (.int .i64 0)).setCell ⟨U, 3, none⟩ (.int .i64 0)) from
     (((HBel.out.setCell HUB.out _).setCell HUB.out _).setCell HUB.out _).setCell HUB.out _)
   go_wp2_with fail
   obtain ⟨⟨q0, q1, q2, q3⟩, _⟩ := tcell HS.out
   refine bodyPost_ret (v := noTok) (by simp [results, Tryz.results127, go_sem, q0, q1, q2, q3]) rfl ⟨_, rfl, ?_, HE.out⟩
   rw [HF.out]; rfl
end Go.Proofs.YtfjimoccliejdaaGreatDoor
end
section
namespace Go.Proofs.YtfjimoccliejdaaGreatDoor
open Go.RowKit Go.Shelf

theorem val_snoc (l : Lx.B) (c : UInt8) : Lx.val (l ++ [c]) = 10 * Lx.val l + (c.toNat - 48) := by simp [Lx.val, List.foldl_append]
theorem val_app (l r : Lx.B) : Lx.val l ≤ Lx.val (l ++ r) := by
 induction r generalizing l with
 | nil => simp
 | cons c r ih =>
  have := ih (l ++ [c])
  rw [List.append_assoc, List.singleton_append, val_snoc] at this
  omega
theorem val_take (l : Lx.B) (k : Nat) : Lx.val (l.take k) ≤ Lx.val l := by
 have := val_app (l.take k) (l.drop k)
 rwa [List.take_append_drop] at this
theorem bs_snoc (s : ByteArray) (k : Nat) (h : k < s.size) : (bs s).take (k + 1) = (bs s).take k ++ [s[k]] := by
 rw [List.take_add_one, bs_get s k h]; rfl

set_option maxHeartbeats 1000000 in
theorem cutNum_any (s : ByteArray) (w : World) (hs : s.size ≤ 9223372036854775807) :
  Calls Tryz.prog 125 #[.string s] w fun e w' => ∃ v, e = .returned v ∧ CutV s (Lx.cutNum (bs s)) v ∧ Below w.heap.size w w' := by
 have HBel := Lib.hid (ba w (.cells #[.int .i64 0, .string ⟨#[]⟩, .int .i64 0, .int .i64 0] 66))
 obtain ⟨W, hz⟩ : ∃ W, (bs s).takeWhile Lx.digit = W := ⟨_, rfl⟩
 obtain ⟨n, hn⟩ : ∃ n, W.length = n := ⟨_, rfl⟩
 have hr : n ≤ s.size := by rw [← hn, ← hz, ← bs_len]; exact Lx.takeWhile_le _ _
 have HK := Lib.hid (show (bs s).take n = W by rw [← hn, ← hz, Lx.takeWhile_take])
 have HX := Lib.hid (show bs (s.extract 0 n) = W by rw [bs_extract, List.drop_zero, HK.out])
 have HZ := Lib.hid (show Lx.cutNum (bs s) = if (((bs s).drop n).head?.any Lx.letter) = true then none else if 9007199254740991 < Lx.val W then none else some (⟨3, W, Lx.val W⟩, n) by subst hz hn; rfl)
 have HW := Lib.hid (show ((bs s).takeWhile Lx.digit).length = n by rw [hz, hn])
 have HG := Lib.hid (show ∀ (k : Nat) (h : k < s.size), k < n → Lx.digit s[k] = true by
  intro k h hk
  refine Lx.takeWhile_mem Lx.digit (bs s) _ ?_
  rw [hz]
  refine List.mem_of_getElem? (i := k) ?_
  rw [← HK.out, List.getElem?_take_of_lt hk, bs_get s k h])
 clear hz hn
 by_cases hl : ∃ h : n < s.size, Lx.letter s[n] = true
 ·obtain ⟨hlt, hl⟩ := hl
  have HF := Lib.hid (show Lx.cutNum (bs s) = none by rw [HZ.out, if_pos]; rw [bs_drop s n hlt]; exact hl)
  go_enter Tryz.func125, Tryz.ntmps125
  go_wp2_with fail
  refine (runD _ _ (by omega)).mono ?_
  rintro e w' ⟨rfl, rfl⟩
  rw [HW.out]
  go_wp2_with fail
  refine (isLetter_any s[n] _).mono ?_
  rintro e w' ⟨rfl, rfl⟩
  rw [hl]
  go_wp2_with fail
  refine bodyPost_ret (v := noTok) (by simp [results, Tryz.results125, go_sem]) rfl ⟨_, rfl, ?_, HBel.out⟩
  rw [HF.out]; rfl
 ·have HF := Lib.hid (show Lx.cutNum (bs s) = if 9007199254740991 < Lx.val W then none else some (⟨3, W, Lx.val W⟩, n) by
   rw [HZ.out, if_neg]
   intro h
   rcases Nat.lt_or_ge n s.size with hlt | hge
   ·rw [bs_drop s n hlt] at h; exact hl ⟨hlt, h⟩
   ·rw [List.drop_eq_nil_iff.2 (by rw [bs_len]; omega)] at h; cases h)
  go_enter Tryz.func125, Tryz.ntmps125
  go_wp2_with fail
  refine (runD _ _ (by omega)).mono ?_
  rintro e w' ⟨rfl, rfl⟩
  rw [HW.out]
  by_cases hlt : n < s.size
  ·have hl' : Lx.letter s[n] = false := by
    cases h : Lx.letter s[n]
    ·rfl
    ·exact absurd ⟨hlt, h⟩ hl
   clear hl
   go_wp2_with fail
   refine (isLetter_any s[n] _).mono ?_
   rintro e w' ⟨rfl, rfl⟩
   rw [hl']
   go_wp2_with fail
   go_loop [21, 5, 6] (fun i v _ => ∃ k : Nat, k ≤ n ∧ i = .int .i64 k ∧ v = .int .i64 (Lx.val ((bs s).take k) : Nat) ∧ Lx.val ((bs s).take k) ≤ 9007199254740991) (fun i _ _ => n - (intOf i).toNat)
   case atStart => exact ⟨0, Nat.zero_le _, rfl, by simp [Lx.val], by simp [Lx.val]⟩
   case round =>
    obtain ⟨k, hk, rfl, rfl, hv⟩ := hrel
    by_cases hkn : k < n
    ·have hks : k < s.size := by omega
     have HS := Lib.hid (show Lx.val ((bs s).take (k + 1)) = 10 * Lx.val ((bs s).take k) + (s[k].toNat - 48) by rw [bs_snoc s k hks, val_snoc])
     have hd : 48 ≤ s[k].toNat ∧ s[k].toNat ≤ 57 := by simpa [Lx.digit] using HG.out k hks hkn
     have HM := Lib.hid (show Lx.val ((bs s).take (k + 1)) ≤ Lx.val W by
      have e : (bs s).take (k + 1) = W.take (k + 1) := by rw [← HK.out, List.take_take, Nat.min_eq_left (by omega)]
      rw [e]; exact val_take _ _)
     generalize Lx.val ((bs s).take k) = v at hv HS ⊢
     by_cases hb : 9007199254740991 < 10 * v + (s[k].toNat - 48)
     ·have hb' : 9007199254740991 < 10 * (v : Int) + ((s[k].toNat : Int) - 48) := by omega
      go_wp2_with fail
      refine bodyPost_ret (v := noTok) (by simp [results, Tryz.results125, go_sem]) rfl ⟨_, rfl, ?_, HBel.out⟩
      rw [HF.out, if_pos (by have := HM.out; rw [HS.out] at this; omega)]; rfl
     ·have hb' : ¬ 9007199254740991 < 10 * (v : Int) + ((s[k].toNat : Int) - 48) := by omega
      go_wp2_with fail
      go_round
      case rel => exact ⟨k + 1, by omega, by go_num, by rw [HS.out]; go_num, by rw [HS.out]; omega⟩
      case measure => simp [intOf]; omega
    ·obtain rfl : k = n := by omega
     rw [HK.out] at hv ⊢
     go_wp2_with fail
     refine bodyPost_ret (v := .tuple #[tokV 3 (s.extract 0 k) (Lx.val W : Nat) 0, .int .i64 k]) (by simp [results, Tryz.results125, go_sem]) rfl ⟨_, rfl, ?_, ba w _⟩
     rw [HF.out, if_neg (by omega)]
     exact ⟨hr, _, HX.out, rfl⟩
  ·clear hl
   go_wp2_with fail
   go_loop [21, 5, 6] (fun i v _ => ∃ k : Nat, k ≤ n ∧ i = .int .i64 k ∧ v = .int .i64 (Lx.val ((bs s).take k) : Nat) ∧ Lx.val ((bs s).take k) ≤ 9007199254740991) (fun i _ _ => n - (intOf i).toNat)
   case atStart => exact ⟨0, Nat.zero_le _, rfl, by simp [Lx.val], by simp [Lx.val]⟩
   case round =>
    obtain ⟨k, hk, rfl, rfl, hv⟩ := hrel
    by_cases hkn : k < n
    ·have hks : k < s.size := by omega
     have HS := Lib.hid (show Lx.val ((bs s).take (k + 1)) = 10 * Lx.val ((bs s).take k) + (s[k].toNat - 48) by rw [bs_snoc s k hks, val_snoc])
     have hd : 48 ≤ s[k].toNat ∧ s[k].toNat ≤ 57 := by simpa [Lx.digit] using HG.out k hks hkn
     have HM := Lib.hid (show Lx.val ((bs s).take (k + 1)) ≤ Lx.val W by
      have e : (bs s).take (k + 1) = W.take (k + 1) := by rw [← HK.out, List.take_take, Nat.min_eq_left (by omega)]
      rw [e]; exact val_take _ _)
     generalize Lx.val ((bs s).take k) = v at hv HS ⊢
     by_cases hb : 9007199254740991 < 10 * v + (s[k].toNat - 48)
     ·have hb' : 9007199254740991 < 10 * (v : Int) + ((s[k].toNat : Int) - 48) := by omega
      go_wp2_with fail
      refine bodyPost_ret (v := noTok) (by simp [results, Tryz.results125, go_sem]) rfl ⟨_, rfl, ?_, HBel.out⟩
      rw [HF.out, if_pos (by have := HM.out; rw [HS.out] at this; omega)]; rfl
     ·have hb' : ¬ 9007199254740991 < 10 * (v : Int) + ((s[k].toNat : Int) - 48) := by omega
      go_wp2_with fail
      go_round
      case rel => exact ⟨k + 1, by omega, by go_num, by rw [HS.out]; go_num, by rw [HS.out]; omega⟩
      case measure => simp [intOf]; omega
    ·obtain rfl : k = n := by omega
     rw [HK.out] at hv ⊢
     go_wp2_with fail
     refine bodyPost_ret (v := .tuple #[tokV 3 (s.extract 0 k) (Lx.val W : Nat) 0, .int .i64 k]) (by simp [results, Tryz.results125, go_sem]) rfl ⟨_, rfl, ?_, ba w _⟩
     rw [HF.out, if_neg (by omega)]
     exact ⟨hr, _, HX.out, rfl⟩
end Go.Proofs.YtfjimoccliejdaaGreatDoor
end
section
namespace Go.Proofs.YtfjimoccliejdaaGreatDoor
open Go.RowKit Go.Shelf

theorem info_byte : (Tryz.prog.info? 5).map (fun i => (i.zero, i.size, i.bytes)) = some (some (.int .u8 0), 1, 1) := by kernel_rfl
theorem infoX_parts {t : TypeId} {z : Value} {n b : Nat} (h : (Tryz.prog.info? t).map (fun i => (i.zero, i.size, i.bytes)) = some (some z, n, b)) :
  ∃ i, Tryz.prog.info? t = some i ∧ i.zero = some z ∧ i.size = n ∧ i.bytes = b := by
 cases hi : Tryz.prog.info? t with
 | none => rw [hi] at h; cases h
 | some i => rw [hi] at h; simp at h; exact ⟨i, rfl, h.1, h.2.1, h.2.2⟩
abbrev u8s (l : Lx.B) : List Value := l.map fun c => .int .u8 (c.toNat : Int)
structure Said (base : Nat) (W1 W : World) (v : Value) (said : Lx.B) : Prop where
 own : W.ownsRow base 5 1 v said.length (u8s said)
 bel : Below base W1 W
 le : base ≤ W.heap.size
theorem Said.slice {base : Nat} {W1 W : World} {v : Value} {said : Lx.B} (h : Said base W1 W v said) : ∃ A cap, v = .slice A said.length cap := by
 rcases h.own.2 with ⟨rfl, h0⟩ | ⟨g, cap, cur, hv, _⟩
 ·rw [h0]; exact ⟨none, 0, rfl⟩
 ·exact ⟨_, cap, hv⟩
theorem Said.str {base : Nat} {W1 W : World} {v : Value} {said : Lx.B} (h : Said base W1 W v said) : (convert 78 9 v).run Tryz.prog W = .ok (.string ⟨said.toArray⟩) W := by
 rcases h.own.2 with ⟨rfl, h0⟩ | ⟨g, cap, cur, hv, hb, hg, hc, hm, hsz, ht⟩
 ·obtain rfl : said = [] := List.eq_nil_of_length_eq_zero h0
  exact run_convert_bytes_nil W _ _ Tryz.underlying78 Tryz.underlying5 0 0 _ Tryz.underlying9
 ·subst hv
  refine run_convert_bytes_back W _ _ _ _ cap said Tryz.underlying78 Tryz.underlying5 Tryz.underlying9 fun j hj => ?_
  have e : cur.toList[j]? = (u8s said)[j]? := by rw [← ht, List.getElem?_take_of_lt (by omega)]
  have e2 : (⟨g, 0, none⟩ : Addr).add j = ⟨g, j, none⟩ := by simp only [Addr.add]; split <;> simp_all
  have e3 : W.cell? ⟨g, j, none⟩ = cur[j]? := by simp [World.cell?, hg]
  rw [e2, e3, ← Array.getElem?_toList, e]
  simp [List.getElem?_eq_getElem hj]
theorem Said.grow {base : Nat} {W1 W : World} {v : Value} {said : Lx.B} (h : Said base W1 W v said) (c : UInt8) {o : Obj} {v' : Value} {w' : World} (ho : w'.ownsRow base 5 1 v' (said.length + 1) (u8s said ++ [.int .u8 (c.toNat : Int)])) (hg : (W.alloc o).grownBy w' v.ownBlock) : Said base W1 w' v' (said ++ [c]) := by
 have hle := h.le
 have hs := hg.size
 rw [World.size_alloc] at hs
 refine ⟨by simpa using ho, h.bel.trans (((Below.refl base W).alloc hle _).trans ((Below.refl base (W.alloc o)).grown hg (by rw [World.size_alloc]; omega) (fun k hk => ?_))), by omega⟩
 exact (h.own.lt k hk).1
theorem Said.box {base U : Nat} {W1 W : World} {v : Value} {said : Lx.B} (h : Said base W1 W v said) (hU : U < base) {o : Obj} (hx : W1.heap[U]? = some o) : W.heap[U]? = some o :=
 (h.bel.block U hU).trans hx

theorem below_tok {B U : Nat} {w W : World} (h : Below B w W) (hU : B ≤ U) (b0 b1 b2 b3 : Value) : Below B w ((((W.setCell ⟨U, 0, none⟩ b0).setCell ⟨U, 1, none⟩ b1).setCell ⟨U, 2, none⟩ b2).setCell ⟨U, 3, none⟩ b3) :=
 (((h.setCell (p := ⟨U, 0, none⟩) hU b0).setCell (p := ⟨U, 1, none⟩) hU b1).setCell (p := ⟨U, 2, none⟩) hU b2).setCell (p := ⟨U, 3, none⟩) hU b3
theorem quotes {r : Lx.B} : Lib.hasPrefix (39 :: r) [39, 39] = decide (r.head? = some 39) := by
 cases r with
 | nil => rfl
 | cons x r =>
  by_cases h : x = 39
  ·subst h; simp [Lib.hasPrefix]
  ·simp [Lib.hasPrefix, List.isPrefixOf, h, Ne.symm h]
theorem txq_quote {r s : Lx.B} (h : s.length ≤ 64) : Lx.txq false (39 :: r) s = Lx.txq true r s := by rw [Lx.txq, if_neg (by omega), if_pos rfl]
theorem txq_end {r s : Lx.B} (h : r.head? ≠ some 39) : Lx.txq true r s = some (s, r) := by
 cases r with
 | nil => rfl
 | cons c r => rw [Lx.txq, if_neg (by simpa using h)]
theorem txq_two {r s : Lx.B} : Lx.txq true (39 :: r) s = Lx.txq false r (s ++ [39]) := by rw [Lx.txq, if_pos rfl]
theorem txq_byte {c : UInt8} {r s : Lx.B} (hc : c ≠ 39) (h : s.length ≤ 64) : Lx.txq false (c :: r) s = Lx.txq false r (s ++ [c]) := by rw [Lx.txq, if_neg (by omega), if_neg hc]
theorem txq_long {r s : Lx.B} (h : 64 < s.length) : Lx.txq false r s = none := by
 cases r with
 | nil => rfl
 | cons c r => rw [Lx.txq, if_pos h]

set_option maxRecDepth 100000 in
set_option maxHeartbeats 2000000 in
theorem cutText_any (s : ByteArray) (w : World) (hs : s.size ≤ 9223372036854775807) (h1 : 1 ≤ s.size) :
  Calls Tryz.prog 126 #[.string s] w fun e w' => ∃ v, e = .returned v ∧ CutV s (Lx.cutText (bs s)) v ∧ Below w.heap.size w w' := by
 obtain ⟨i0, hi, hz0, hz1, hz2⟩ := infoX_parts info_byte
 have HBel := Lib.hid (ba w (tokO 66))
 have HX := Lib.hid ((MapKept.heap_alloc w (tokO 66)).1)
 have HSz := Lib.hid (show w.heap.size < (w.alloc (tokO 66)).heap.size by rw [World.size_alloc]; omega)
 have HT := Lib.hid (show ∀ o, Lx.txq false ((bs s).drop 1) [] = o → Lx.cutText (bs s) = o.map fun x => (⟨4, x.1, 0⟩, (bs s).length - x.2.length) from fun o ho => by rw [Lx.cutText, ho])
 obtain ⟨R, hR⟩ : ∃ R, Lx.txq false ((bs s).drop 1) [] = R := ⟨_, rfl⟩
 have HF := Lib.hid (HT.out R hR)
 have HR := Lib.hid hR
 clear HT hR
 go_enter Tryz.func126, Tryz.ntmps126
 go_wp2_with fail
 generalize w.alloc (.cells #[.int .i64 0, .string ⟨#[]⟩, .int .i64 0, .int .i64 0] 66) = W1 at HBel HX HSz ⊢
 obtain ⟨U, hU⟩ : ∃ U, w.heap.size = U := ⟨_, rfl⟩
 have HUB := Lib.hid (show w.heap.size ≤ U by omega)
 rw [hU] at HX HSz ⊢
 clear hU
 go_loopw [5, 4] (fun i v W => ∃ (k : Nat) (said : Lx.B), k ≤ s.size ∧ said.length ≤ 65 ∧ i = .int .i64 k ∧ Hid (Said W1.heap.size W1 W v said) ∧ Hid (Lx.txq false ((bs s).drop k) said = R)) (fun i _ _ => s.size - (intOf i).toNat)
 case atStart => exact ⟨1, [], h1, by simp, rfl, Lib.hid ⟨World.ownsRow_nil _ _ _ _, Below.refl _ _, Nat.le_refl _⟩, HR⟩
 case round =>
  obtain ⟨k, said, hk, hl, rfl, HS, HQ⟩ := hrel
  obtain ⟨A, cap, hv⟩ := HS.out.slice
  subst hv
  by_cases hkn : k < s.size
  ·have hD := bs_drop s k hkn
   by_cases hl64 : said.length ≤ 64
   ·by_cases hc : s[k] = 39
    ·have HC := Lib.hid hc
     have hcn : (s[k].toNat : Int) = 39 := by rw [hc]; rfl
     have HP := Lib.hid (show Lib.hasPrefix (bs (s.extract k s.size)) [39, 39] = decide (((bs s).drop (k + 1)).head? = some 39) by rw [bs_from, hD, hc, quotes])
     have HQ2 := Lib.hid (show Lx.txq true ((bs s).drop (k + 1)) said = R by rw [← HQ.out, hD, hc, txq_quote hl64])
     clear hD hc
     by_cases hn : ((bs s).drop (k + 1)).head? = some 39
     ·have hk1 : k + 1 < s.size := by
       rcases Nat.lt_or_ge (k + 1) s.size with h | h
       ·exact h
       ·rw [List.drop_eq_nil_iff.2 (by rw [bs_len]; omega)] at hn; cases hn
      have hD1 := bs_drop s (k + 1) hk1
      have hc1 : s[k + 1] = 39 := by rw [hD1] at hn; simpa using hn
      have HN := Lib.hid (show Lx.txq false ((bs s).drop (k + 1 + 1)) (said ++ [39]) = R by rw [← HQ2.out, hD1, hc1, txq_two])
      have hcm : (s[k + 1].toNat : Int) = 39 := by rw [hc1]; rfl
      have HP2 := Lib.hid (HP.out.trans (decide_eq_true hn))
      clear hD1 hc1 hn
      go_wp2_with fail
      refine (Tryz.strings_HasPrefix _ _ _).mono ?_
      rintro e wr ⟨rfl, rfl⟩
      rw [show Lib.hasPrefix (s.extract k s.size).data.toList [39, 39] = true from HP2.out]
      go_wp2_with (at_builtin; refine wpList_append_own _ rfl _ _ 78 rfl W1.heap.size 5 i0 (.int .u8 0) 1 1 Tryz.underlying78 hi hz0 hz1 hz2 rfl (by decide) _ _ _ rfl (HS.out.own.alloc _) ⟨wr.heap.size, 0, none⟩ 1 1 [.int .u8 ((39 : UInt8).toNat : Int)] rfl rfl ?c1 ?c2 ?c3 ?c4 ?c5 ?_)
      case c1 =>
       intro j u hj
       match j, hj with
       | 0, hj => simp at hj; subst hj; simp [Addr.add]
      case c2 => intro u hu; simp at hu; subst hu; rfl
      case c3 => unfold maxLen; omega
      case c4 => omega
      case c5 => have := HS.out.le; simp; omega
      intro v' w1 hown' hg _
      have HG := Lib.hid (HS.out.grow 39 hown' hg)
      clear hown' hg
      go_wp2_with fail
      go_roundw
      case rel => exact ⟨k + 1 + 1, said ++ [39], by omega, by simp; omega, by go_num, HG, HN⟩
      case measure => simp [intOf]; omega
     ·have HN := Lib.hid (show R = some (said, (bs s).drop (k + 1)) by rw [← HQ2.out, txq_end hn])
      have HP2 := Lib.hid (HP.out.trans (decide_eq_false hn))
      clear hn
      go_wp2_with fail
      refine (Tryz.strings_HasPrefix _ _ _).mono ?_
      rintro e wr ⟨rfl, rfl⟩
      rw [show Lib.hasPrefix (s.extract k s.size).data.toList [39, 39] = false from HP2.out]
      have hx := HS.out.box HSz.out HX.out
      obtain ⟨⟨c0, c1, c2, c3⟩, f0, f1, f2, f3⟩ := tcell hx
      have hstr := HS.out.str
      have HS2 := Lib.hid (tset hx (.int .i64 4) (.string ⟨said.toArray⟩) (.int .i64 0) (.int .i64 0))
      have HE := Lib.hid (below_tok (HBel.out.trans (HS.out.bel.mono (by have := HBel.out.size; omega))) HUB.out (.int .i64 4) (.string ⟨said.toArray⟩) (.int .i64 0) (.int .i64 0))
      clear hx
      go_wp2_with fail
      obtain ⟨⟨q0, q1, q2, q3⟩, _⟩ := tcell HS2.out
      refine bodyPost_ret (v := .tuple #[tokV 4 ⟨said.toArray⟩ 0 0, .int .i64 ((k + 1 : Nat))]) (by simp [results, Tryz.results126, go_sem, q0, q1, q2, q3]) rfl ⟨_, rfl, ?_, HE.out⟩
      rw [HF.out, HN.out]
      refine ⟨by simp only [bs_len, List.length_drop]; omega, ⟨said.toArray⟩, rfl, ?_⟩
      simp only [bs_len, List.length_drop]
      rw [show s.size - (s.size - (k + 1)) = k + 1 by omega]; rfl
    ·have HN := Lib.hid (show Lx.txq false ((bs s).drop (k + 1)) (said ++ [s[k]]) = R by rw [← HQ.out, hD, txq_byte hc hl64])
     have hcn : ¬ (s[k].toNat : Int) = 39 := by
      intro h; apply hc
      apply UInt8.toNat_inj.1
      have : s[k].toNat = 39 := by omega
      rw [this]; rfl
     clear hD hc
     go_wp2_with (at_builtin; refine wpList_append_own _ rfl _ _ 78 rfl W1.heap.size 5 i0 (.int .u8 0) 1 1 Tryz.underlying78 hi hz0 hz1 hz2 rfl (by decide) _ _ _ rfl (HS.out.own.alloc _) ⟨wr.heap.size, 0, none⟩ 1 1 [.int .u8 (s[k].toNat : Int)] rfl rfl ?c1 ?c2 ?c3 ?c4 ?c5 ?_)
     case c1 =>
      intro j u hj
      match j, hj with
      | 0, hj => simp at hj; subst hj; simp [Addr.add]
     case c2 => intro u hu; simp at hu; subst hu; rfl
     case c3 => unfold maxLen; omega
     case c4 => omega
     case c5 => have := HS.out.le; simp; omega
     intro v' w1 hown' hg _
     have HG := Lib.hid (HS.out.grow s[k] hown' hg)
     clear hown' hg
     go_wp2_with fail
     go_roundw
     case rel => exact ⟨k + 1, said ++ [s[k]], by omega, by simp; omega, by go_num, HG, HN⟩
     case measure => simp [intOf]; omega
   ·have HN := Lib.hid (show R = none by rw [← HQ.out, txq_long (by omega)])
    clear hD
    have hx := HS.out.box HSz.out HX.out
    obtain ⟨⟨c0, c1, c2, c3⟩, f0, f1, f2, f3⟩ := tcell hx
    have HS2 := Lib.hid (tset hx (.int .i64 0) (.string ⟨#[]⟩) (.int .i64 0) (.int .i64 0))
    have HE := Lib.hid (below_tok (HBel.out.trans (HS.out.bel.mono (by have := HBel.out.size; omega))) HUB.out (.int .i64 0) (.string ⟨#[]⟩) (.int .i64 0) (.int .i64 0))
    clear hx
    go_wp2_with fail
    obtain ⟨⟨q0, q1, q2, q3⟩, _⟩ := tcell HS2.out
    refine bodyPost_ret (v := noTok) (by simp [results, Tryz.results126, go_sem, q0, q1, q2, q3]) rfl ⟨_, rfl, ?_, HE.out⟩
    rw [HF.out, HN.out]; rfl
  ·have HN := Lib.hid (show R = none by rw [← HQ.out, List.drop_eq_nil_iff.2 (by rw [bs_len]; omega)]; rfl)
   have hx := HS.out.box HSz.out HX.out
   obtain ⟨⟨c0, c1, c2, c3⟩, f0, f1, f2, f3⟩ := tcell hx
   have HS2 := Lib.hid (tset hx (.int .i64 0) (.string ⟨#[]⟩) (.int .i64 0) (.int .i64 0))
   have HE := Lib.hid (below_tok (HBel.out.trans (HS.out.bel.mono (by have := HBel.out.size; omega))) HUB.out (.int .i64 0) (.string ⟨#[]⟩) (.int .i64 0) (.int .i64 0))
   clear hx
   go_wp2_with fail
   obtain ⟨⟨q0, q1, q2, q3⟩, _⟩ := tcell HS2.out
   refine bodyPost_ret (v := noTok) (by simp [results, Tryz.results126, go_sem, q0, q1, q2, q3]) rfl ⟨_, rfl, ?_, HE.out⟩
   rw [HF.out, HN.out]; rfl
end Go.Proofs.YtfjimoccliejdaaGreatDoor
end
section
namespace Go.Proofs.YtfjimoccliejdaaGreatDoor
open Go.RowKit Go.Shelf

theorem CutV.form {s : ByteArray} {o : Option (Lx.Tok × Nat)} {v : Value} (h : CutV s o v) : ∃ k b n z, v = .tuple #[tokV k b n 0, .int .i64 z] := by
 cases o with
 | none => exact ⟨0, ⟨#[]⟩, 0, 0, h⟩
 | some x => obtain ⟨t, z⟩ := x; obtain ⟨_, b, _, hv⟩ := h; exact ⟨_, b, _, _, hv⟩
theorem cut_end {w W1 W2 : World} {U : Nat} (hB : Below w.heap.size w W1) (hX : W1.heap[U]? = some (tokO 66)) (hb : Below W1.heap.size W1 W2) : Below w.heap.size w W2 ∧ W2.heap[U]? = some (tokO 66) := by
 refine ⟨hB.trans (hb.mono (by have := hB.size; omega)), (hb.block U ?_).trans hX⟩
 rcases Nat.lt_or_ge U W1.heap.size with h | h
 ·exact h
 ·rw [Array.getElem?_eq_none h] at hX; cases hX

set_option maxHeartbeats 2000000 in
theorem cut_any (s : ByteArray) (w : World) (hs : s.size ≤ 9223372036854775807) (hT : Tabs w) :
  Calls Tryz.prog 75 #[.string s] w fun e w' => ∃ v, e = .returned v ∧ CutV s (Lx.cut (bs s)) v ∧ Below w.heap.size w w' := by
 have HT := Lib.hid (hT.kept (ba w (tokO 66)))
 have HBel := Lib.hid (ba w (tokO 66))
 have HX := Lib.hid ((MapKept.heap_alloc w (tokO 66)).1)
 clear hT
 go_enter Tryz.func75, Tryz.ntmps75
 go_upto_region 1 with fail
 generalize w.alloc (.cells #[.int .i64 0, .string ⟨#[]⟩, .int .i64 0, .int .i64 0] 66) = W1 at HT HBel HX ⊢
 obtain ⟨U, hU⟩ : ∃ U, w.heap.size = U := ⟨_, rfl⟩
 have HUB := Lib.hid (show w.heap.size ≤ U by omega)
 rw [hU] at HX ⊢
 clear hU
 by_cases h0 : s.size = 0
 ·have hE : s.toList.isEmpty = true := by
   rw [ByteArray.toList_eq, List.isEmpty_iff]
   exact List.eq_nil_of_length_eq_zero ((bs_len s).trans h0)
  have HN := Lib.hid (show Lx.cut (bs s) = some (⟨6, [], 0⟩, 0) by rw [List.eq_nil_of_length_eq_zero ((bs_len s).trans h0)]; rfl)
  obtain ⟨⟨c0, c1, c2, c3⟩, f0, f1, f2, f3⟩ := tcell HX.out
  have HS2 := Lib.hid (tset HX.out (.int .i64 6) (.string ⟨#[]⟩) (.int .i64 0) (.int .i64 0))
  have HE := Lib.hid (below_tok HBel.out HUB.out (.int .i64 6) (.string ⟨#[]⟩) (.int .i64 0) (.int .i64 0))
  go_wp2_with fail
  obtain ⟨⟨q0, q1, q2, q3⟩, _⟩ := tcell HS2.out
  refine bodyPost_ret (v := .tuple #[tokV 6 ⟨#[]⟩ 0 0, .int .i64 0]) (by simp [results, Tryz.results75, go_sem, q0, q1, q2, q3]) rfl ⟨_, rfl, ?_, HE.out⟩
  rw [HN.out]
  exact ⟨Nat.zero_le _, ⟨#[]⟩, rfl, rfl⟩
 ·have hE : s.toList.isEmpty = false := by
   rw [ByteArray.toList_eq, List.isEmpty_eq_false_iff]
   intro h; exact h0 (by rw [← bs_len, show bs s = [] from h]; rfl)
  have hp : 0 < s.size := by omega
  have HD := Lib.hid (show bs s = s[0] :: (bs s).drop 1 by have := bs_drop s 0 hp; rwa [List.drop_zero] at this)
  cases hl : Lx.letter s[0]
  ·cases hd : Lx.digit s[0]
   ·by_cases hq : s[0] = 39
    ·have HN := Lib.hid (show Lx.cut (bs s) = Lx.cutText (bs s) by rw [HD.out, Lx.cut, hl, hd, hq]; rfl)
     have HCN := Lib.hid (show (s[0].toNat : Int) = 39 by rw [hq]; rfl)
     clear hq
     go_wp2_with fail
     refine (isLetter_any s[0] _).mono ?_
     rintro e W1 ⟨rfl, rfl⟩
     rw [hl]
     go_wp2_with fail
     refine (isDigit_any s[0] _).mono ?_
     rintro e W1 ⟨rfl, rfl⟩
     rw [hd]
     have hcn := HCN.out
     go_wp2_with fail
     refine (cutText_any s _ hs (by omega)).mono ?_
     rintro e W2 ⟨v, rfl, hv, hb⟩
     obtain ⟨k, b, n, z, rfl⟩ := hv.form
     have HV := Lib.hid hv
     have hw := cut_end HBel.out HX.out hb
     have HX2 := Lib.hid hw.2
     obtain ⟨⟨c0, c1, c2, c3⟩, f0, f1, f2, f3⟩ := tcell hw.2
     have HS2 := Lib.hid (tset hw.2 (.int .i64 k) (.string b) (.int .i64 n) (.int .i64 0))
     have HE := Lib.hid (below_tok hw.1 HUB.out (.int .i64 k) (.string b) (.int .i64 n) (.int .i64 0))
     clear hw hv hb
     go_wp2_with fail
     obtain ⟨⟨q0, q1, q2, q3⟩, _⟩ := tcell HS2.out
     refine bodyPost_ret (v := .tuple #[tokV k b n 0, .int .i64 z]) (by simp [results, Tryz.results75, go_sem, q0, q1, q2, q3]) rfl ⟨_, rfl, ?_, HE.out⟩
     rw [HN.out]
     exact HV.out
    ·have HN := Lib.hid (show Lx.cut (bs s) = Lx.cutSign (bs s) by rw [HD.out, Lx.cut, if_neg (by simp [hl]), if_neg (by simp [hd]), if_neg hq])
     have HCN := Lib.hid (show ¬ (s[0].toNat : Int) = 39 by
      intro h; apply hq
      apply UInt8.toNat_inj.1
      have : s[0].toNat = 39 := by omega
      rw [this]; rfl)
     clear hq
     go_wp2_with fail
     refine (isLetter_any s[0] _).mono ?_
     rintro e W1 ⟨rfl, rfl⟩
     rw [hl]
     go_wp2_with fail
     refine (isDigit_any s[0] _).mono ?_
     rintro e W1 ⟨rfl, rfl⟩
     rw [hd]
     have hcn := HCN.out
     go_wp2_with fail
     refine (cutSign_any s _ HT.out).mono ?_
     rintro e W2 ⟨v, rfl, hv, hb⟩
     obtain ⟨k, b, n, z, rfl⟩ := hv.form
     have HV := Lib.hid hv
     have hw := cut_end HBel.out HX.out hb
     have HX2 := Lib.hid hw.2
     obtain ⟨⟨c0, c1, c2, c3⟩, f0, f1, f2, f3⟩ := tcell hw.2
     have HS2 := Lib.hid (tset hw.2 (.int .i64 k) (.string b) (.int .i64 n) (.int .i64 0))
     have HE := Lib.hid (below_tok hw.1 HUB.out (.int .i64 k) (.string b) (.int .i64 n) (.int .i64 0))
     clear hw hv hb
     go_wp2_with fail
     obtain ⟨⟨q0, q1, q2, q3⟩, _⟩ := tcell HS2.out
     refine bodyPost_ret (v := .tuple #[tokV k b n 0, .int .i64 z]) (by simp [results, Tryz.results75, go_sem, q0, q1, q2, q3]) rfl ⟨_, rfl, ?_, HE.out⟩
     rw [HN.out]
     exact HV.out
   ·have HN := Lib.hid (show Lx.cut (bs s) = Lx.cutNum (bs s) by rw [HD.out, Lx.cut, if_neg (by simp [hl]), if_pos hd])
    go_wp2_with fail
    refine (isLetter_any s[0] _).mono ?_
    rintro e W1 ⟨rfl, rfl⟩
    rw [hl]
    go_wp2_with fail
    refine (isDigit_any s[0] _).mono ?_
    rintro e W1 ⟨rfl, rfl⟩
    rw [hd]
    go_wp2_with fail
    refine (cutNum_any s _ hs).mono ?_
    rintro e W2 ⟨v, rfl, hv, hb⟩
    obtain ⟨k, b, n, z, rfl⟩ := hv.form
    have HV := Lib.hid hv
    have hw := cut_end HBel.out HX.out hb
    have HX2 := Lib.hid hw.2
    obtain ⟨⟨c0, c1, c2, c3⟩, f0, f1, f2, f3⟩ := tcell hw.2
    have HS2 := Lib.hid (tset hw.2 (.int .i64 k) (.string b) (.int .i64 n) (.int .i64 0))
    have HE := Lib.hid (below_tok hw.1 HUB.out (.int .i64 k) (.string b) (.int .i64 n) (.int .i64 0))
    clear hw hv hb
    go_wp2_with fail
    obtain ⟨⟨q0, q1, q2, q3⟩, _⟩ := tcell HS2.out
    refine bodyPost_ret (v := .tuple #[tokV k b n 0, .int .i64 z]) (by simp [results, Tryz.results75, go_sem, q0, q1, q2, q3]) rfl ⟨_, rfl, ?_, HE.out⟩
    rw [HN.out]
    exact HV.out
  ·have HN := Lib.hid (show Lx.cut (bs s) = Lx.cutWord (bs s) by rw [HD.out, Lx.cut, if_pos hl])
   go_wp2_with fail
   refine (isLetter_any s[0] _).mono ?_
   rintro e W1 ⟨rfl, rfl⟩
   rw [hl]
   go_wp2_with fail
   refine (cutWord_any s _ hs HT.out).mono ?_
   rintro e W2 ⟨v, rfl, hv, hb⟩
   obtain ⟨k, b, n, z, rfl⟩ := hv.form
   have HV := Lib.hid hv
   have hw := cut_end HBel.out HX.out hb
   have HX2 := Lib.hid hw.2
   obtain ⟨⟨c0, c1, c2, c3⟩, f0, f1, f2, f3⟩ := tcell hw.2
   have HS2 := Lib.hid (tset hw.2 (.int .i64 k) (.string b) (.int .i64 n) (.int .i64 0))
   have HE := Lib.hid (below_tok hw.1 HUB.out (.int .i64 k) (.string b) (.int .i64 n) (.int .i64 0))
   clear hw hv hb
   go_wp2_with fail
   obtain ⟨⟨q0, q1, q2, q3⟩, _⟩ := tcell HS2.out
   refine bodyPost_ret (v := .tuple #[tokV k b n 0, .int .i64 z]) (by simp [results, Tryz.results75, go_sem, q0, q1, q2, q3]) rfl ⟨_, rfl, ?_, HE.out⟩
   rw [HN.out]
   exact HV.out
end Go.Proofs.YtfjimoccliejdaaGreatDoor
end
