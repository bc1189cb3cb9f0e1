/-
  The document's parser in memory.
-/
import Derived.Test.YtfjimoccliejdaaGreatDoorE7
import Derived.Deep.QuietTactic
import Derived.BigQuiet
import Derived.Deep.Cut
import Derived.Maps.AppendAt
section
namespace Go.Proofs.YtfjimoccliejdaaGreatDoor
open Go.RowKit Go.Shelf

def ones : Lx.B := [40, 41, 44, 46, 42, 43, 45, 47, 37, 61, 60, 62]
theorem sign_two {c d : UInt8} {r : Lx.B} (h : (c = 60 ∧ d = 61) ∨ (c = 62 ∧ d = 61) ∨ (c = 60 ∧ d = 62)) : Lx.cutSign (c :: d :: r) = some (⟨5, [c, d], 0⟩, 2) := by
 rcases h with ⟨rfl, rfl⟩ | ⟨rfl, rfl⟩ | ⟨rfl, rfl⟩ <;> simp [Lx.cutSign, Lx.signs, List.find?, List.isPrefixOf]
theorem sign_one {c : UInt8} {r : Lx.B} (hc : c ∈ ones) (h : ∀ d r', r = d :: r' → ¬ ((c = 60 ∧ d = 61) ∨ (c = 62 ∧ d = 61) ∨ (c = 60 ∧ d = 62))) : Lx.cutSign (c :: r) = some (⟨5, [c], 0⟩, 1) := by
 simp only [ones, List.mem_cons, List.not_mem_nil, or_false] at hc
 cases r with
 | nil => rcases hc with rfl | rfl | rfl | rfl | rfl | rfl | rfl | rfl | rfl | rfl | rfl | rfl <;> simp [Lx.cutSign, Lx.signs, List.find?, List.isPrefixOf]
 | cons d r =>
  have h1 := h d r rfl
  rcases hc with rfl | rfl | rfl | rfl | rfl | rfl | rfl | rfl | rfl | rfl | rfl | rfl <;> simp [Lx.cutSign, Lx.signs, List.find?, List.isPrefixOf] at h1 ⊢
  ·have e1 : ((61 : UInt8) == d) = false := by rw [beq_eq_false_iff_ne]; exact fun e => h1.1 e.symm
   have e2 : ((62 : UInt8) == d) = false := by rw [beq_eq_false_iff_ne]; exact fun e => h1.2 e.symm
   simp [e1, e2]
  ·have e1 : ((61 : UInt8) == d) = false := by rw [beq_eq_false_iff_ne]; exact fun e => h1 e.symm
   simp [e1]
theorem sign_none {c : UInt8} {r : Lx.B} (hc : c ∉ ones) : Lx.cutSign (c :: r) = none := by
 simp only [ones, List.mem_cons, List.not_mem_nil, or_false, not_or] at hc
 obtain ⟨h1, h2, h3, h4, h5, h6, h7, h8, h9, h10, h11, h12⟩ := hc
 have e : ∀ x : UInt8, c ≠ x → (x == c) = false := fun x h => by rw [beq_eq_false_iff_ne]; exact fun e => h e.symm
 simp [Lx.cutSign, Lx.signs, List.find?, List.isPrefixOf, e _ h1, e _ h2, e _ h3, e _ h4, e _ h5, e _ h6, e _ h7, e _ h8, e _ h9, e _ h10, e _ h11, e _ h12]
def OneE (p : Nat) (o : Option (Lx.Tok × Nat)) (e : Ending) : Prop := match o with
 | some (t, z) => e = .returned (.tuple #[tokV (t.k : Int) ⟨t.s.toArray⟩ (t.n : Int) (p : Int), .int .i64 ((p + z : Nat) : Int), .bool true])
 | none => ∃ (k : Int) (b : ByteArray) (m a z : Int), e = .returned (.tuple #[tokV k b m a, .int .i64 z, .bool false])
theorem OneE.no {p : Nat} {o : Option (Lx.Tok × Nat)} (h : o = none) (k : Int) (b : ByteArray) (m a z : Int) : OneE p o (.returned (.tuple #[tokV k b m a, .int .i64 z, .bool false])) := by
 subst h; exact ⟨k, b, m, a, z, rfl⟩
theorem OneE.yes {p : Nat} {o : Option (Lx.Tok × Nat)} {t : Lx.Tok} {z : Nat} {k n a y : Int} {b : ByteArray} (h : o = some (t, z)) (hk : k = t.k) (hb : bs b = t.s) (hn : n = t.n) (ha : a = p) (hy : y = ((p + z : Nat) : Int)) : OneE p o (.returned (.tuple #[tokV k b n a, .int .i64 y, .bool true])) := by
 subst h hk hn ha hy; rw [ba_eq hb]; rfl
theorem txq_rest : ∀ {q : Bool} {l s o r : Lx.B}, Lx.txq q l s = some (o, r) → r.length ≤ l.length
 | true, [], s, o, r, h => by rw [Lx.txq] at h; cases h; exact Nat.le_refl _
 | false, [], s, o, r, h => by rw [Lx.txq] at h; cases h
 | true, c :: l, s, o, r, h => by
  rw [Lx.txq] at h
  split at h
  ·have := txq_rest h; simp only [List.length_cons]; omega
  ·cases h; exact Nat.le_refl _
 | false, c :: l, s, o, r, h => by
  rw [Lx.txq] at h
  split at h
  ·cases h
  ·split at h
   ·have := txq_rest h; simp only [List.length_cons]; omega
   ·have := txq_rest h; simp only [List.length_cons]; omega
theorem text_one {s : ByteArray} {p : Nat} {e : Ending} (hp : p < s.size) (hc : s[p] = 39) (h : TextE p s.size (Lx.txq false ((bs s).drop (p + 1)) []) e) : OneE p (Lx.cut ((bs s).drop p)) e := by
 have hD := bs_drop s p hp
 have hl : Lx.letter 39 = false := by decide
 have hg : Lx.digit 39 = false := by decide
 have hT : Lx.cut ((bs s).drop p) = (Lx.txq false ((bs s).drop (p + 1)) []).map fun x => (⟨4, x.1, 0⟩, ((bs s).drop p).length - x.2.length) := by
  rw [hD, hc, Lx.cut, hl, hg, if_neg (by simp), if_neg (by simp), if_pos rfl, Lx.cutText]; rfl
 rw [hT]
 cases hx : Lx.txq false ((bs s).drop (p + 1)) [] with
 | none => rw [hx] at h; exact h
 | some x =>
  obtain ⟨o, r⟩ := x
  rw [hx] at h
  have hr : r.length ≤ (bs s).length - (p + 1) := by
   have := txq_rest hx
   rw [List.length_drop] at this; exact this
  rw [bs_len] at hr
  have hz : p + (((bs s).drop p).length - r.length) = s.size - r.length := by rw [List.length_drop, bs_len]; omega
  show e = _
  rw [hz]
  exact h
structure TokF (w : World) (U : Nat) (w2 : World) : Prop where
 x0 : w2.cell? ⟨U, 0, none⟩ = some (.int .i64 0)
 x1 : w2.cell? ⟨U, 1, none⟩ = some (.string ⟨#[]⟩)
 x2 : w2.cell? ⟨U, 2, none⟩ = some (.int .i64 0)
 x3 : w2.cell? ⟨U, 3, none⟩ = some (.int .i64 0)
 f0 : w2.frozen? ⟨U, 0, none⟩ = false
 f1 : w2.frozen? ⟨U, 1, none⟩ = false
 f2 : w2.frozen? ⟨U, 2, none⟩ = false
 f3 : w2.frozen? ⟨U, 3, none⟩ = false
 b : ∀ b0 b1 b2 b3 : Value, Below w.heap.size w ((((w2.setCell ⟨U, 0, none⟩ b0).setCell ⟨U, 1, none⟩ b1).setCell ⟨U, 2, none⟩ b2).setCell ⟨U, 3, none⟩ b3)
theorem tokF_of {w wr w2 : World} {U : Nat} (hb : Below w.heap.size w wr) (hu : wr.heap[U]? = some (.cells #[.int .i64 0, .string ⟨#[]⟩, .int .i64 0, .int .i64 0] 66)) (hU : w.heap.size = U) (h : Below wr.heap.size wr w2) : TokF w U w2 := by
 have hu2 : w2.heap[U]? = some (.cells #[.int .i64 0, .string ⟨#[]⟩, .int .i64 0, .int .i64 0] 66) := (h.block U (Array.getElem?_eq_some_iff.1 hu).1).trans hu
 refine ⟨?_, ?_, ?_, ?_, ?_, ?_, ?_, ?_, fun b0 b1 b2 b3 => below_tok (bt hb h) (Nat.le_of_eq hU) b0 b1 b2 b3⟩
 all_goals first | (simp [World.cell?, hu2]; done) | (unfold World.frozen?; rw [hu2]; rfl)
theorem lett_of {c : UInt8} (h : Lx.digit c = true) : Lx.letter c = false := by
 cases hl : Lx.letter c with
 | false => rfl
 | true =>
  exfalso
  simp only [Lx.digit, Lx.letter, decide_eq_true_eq] at h hl
  rcases hl with rfl | hl | hl
  ·revert h; decide
  ·omega
  ·omega
theorem run_same : ∀ {l : Lx.B}, (∀ c ∈ l.takeWhile Lx.wordy, Lx.digit c = true) → l.takeWhile Lx.digit = l.takeWhile Lx.wordy
 | [], _ => rfl
 | c :: r, h => by
  cases hw : Lx.wordy c with
  | true =>
   rw [List.takeWhile_cons, hw, if_pos rfl] at h
   have hd := h c (List.mem_cons_self ..)
   rw [List.takeWhile_cons, List.takeWhile_cons, hw, hd, if_pos rfl, if_pos rfl, run_same fun x hx => h x (List.mem_cons_of_mem _ hx)]
  | false =>
   have hd : Lx.digit c = false := by unfold Lx.wordy at hw; exact (Bool.or_eq_false_iff.1 hw).2
   rw [List.takeWhile_cons, List.takeWhile_cons, hw, hd, if_neg (by simp), if_neg (by simp)]
theorem num_yes {l : Lx.B} (h : ∀ c ∈ l.takeWhile Lx.wordy, Lx.digit c = true) : Lx.cutNum l = if 9007199254740991 < Lx.val (l.takeWhile Lx.wordy) then none else some (⟨3, l.takeWhile Lx.wordy, Lx.val (l.takeWhile Lx.wordy)⟩, (l.takeWhile Lx.wordy).length) := by
 rw [Lx.cutNum]
 simp only [run_same h]
 rw [if_neg]
 intro hc
 cases hx : (l.drop (l.takeWhile Lx.wordy).length).head? with
 | none => rw [hx] at hc; cases hc
 | some x =>
  rw [hx] at hc
  have := Lx.takeWhile_next Lx.wordy l x hx
  unfold Lx.wordy at this
  have h2 := (Bool.or_eq_false_iff.1 this).1
  simp [h2] at hc
theorem run_no : ∀ {l : Lx.B}, (∃ c, c ∈ l.takeWhile Lx.wordy ∧ Lx.letter c = true) → (l.drop (l.takeWhile Lx.digit).length).head?.any Lx.letter = true
 | [], ⟨c, h, _⟩ => by simp at h
 | c :: r, ⟨x, hx, hl⟩ => by
  cases hw : Lx.wordy c with
  | false => rw [List.takeWhile_cons, hw, if_neg (by simp)] at hx; cases hx
  | true =>
   rw [List.takeWhile_cons, hw, if_pos rfl] at hx
   cases hd : Lx.digit c with
   | true =>
    rw [List.takeWhile_cons, hd, if_pos rfl]
    rcases List.mem_cons.1 hx with rfl | hx
    ·rw [lett_of hd] at hl; cases hl
    ·exact run_no ⟨x, hx, hl⟩
   | false =>
    have h1 : Lx.letter c = true := by unfold Lx.wordy at hw; rwa [hd, Bool.or_false] at hw
    rw [List.takeWhile_cons, hd, if_neg (by simp)]
    simp [h1]
theorem num_no {l : Lx.B} (h : ∃ c, c ∈ l.takeWhile Lx.wordy ∧ Lx.letter c = true) : Lx.cutNum l = none := by
 rw [Lx.cutNum]
 exact if_pos (run_no h)
theorem two_cut {s : ByteArray} {p : Nat} {c d : UInt8} (h : (s.extract p (p + 2)).toList = [c, d]) (hc : (c = 60 ∧ d = 61) ∨ (c = 62 ∧ d = 61) ∨ (c = 60 ∧ d = 62)) : Lx.cutSign ((bs s).drop p) = some (⟨5, [c, d], 0⟩, 2) ∧ bs (s.extract p (p + 2)) = [c, d] := by
 have e : bs (s.extract p (p + 2)) = [c, d] := by rw [← h, ByteArray.toList_eq]
 refine ⟨?_, e⟩
 rw [bs_extract, List.drop_take, show p + 2 - p = 2 by omega] at e
 have e2 : (bs s).drop p = c :: d :: ((bs s).drop p).drop 2 := by
  conv => lhs; rw [← List.take_append_drop 2 ((bs s).drop p), e]
  rfl
 rw [e2]
 exact sign_two hc
set_option maxRecDepth 100000 in
set_option maxHeartbeats 8000000 in
theorem refOne_any (s : ByteArray) (p : Nat) (w : World) (hs : s.size ≤ 16384) (hp : p < s.size) :
  Calls Tryz.prog 49 #[.string s, .int .i64 p] w fun e w' => OneE p (Lx.cut ((bs s).drop p)) e ∧ Below w.heap.size w w' := by
 obtain ⟨R, hR⟩ : ∃ R, Lx.cut ((bs s).drop p) = R := ⟨_, rfl⟩
 obtain ⟨W, hW⟩ : ∃ W, ((bs s).drop p).takeWhile Lx.wordy = W := ⟨_, rfl⟩
 obtain ⟨n, hn⟩ : ∃ n, W.length = n := ⟨_, rfl⟩
 have hle := Lx.takeWhile_le Lx.wordy ((bs s).drop p)
 rw [hW, hn, List.length_drop, bs_len] at hle
 obtain ⟨E, hE⟩ : ∃ E, p + n = E := ⟨_, rfl⟩
 have hEs : E ≤ s.size := by omega
 have HG := Lib.hid (show ∀ (k : Nat) (h : k < s.size), p ≤ k → k < E → Lx.wordy s[k] = true from fun k h h1 h2 => by
  refine Lx.takeWhile_mem Lx.wordy ((bs s).drop p) _ ?_
  rw [hW]
  refine List.mem_of_getElem? (i := k - p) ?_
  have e1 : ((bs s).drop p).take n = W := by rw [← hn, ← hW, Lx.takeWhile_take]
  rw [← e1, List.getElem?_take_of_lt (by omega), List.getElem?_drop, show p + (k - p) = k by omega, bs_get s k h])
 have HO := Lib.hid (show ∀ h : E < s.size, Lx.wordy s[E] = false from fun h => by
  exact Lx.takeWhile_next Lx.wordy ((bs s).drop p) s[E] (by rw [hW, hn, List.drop_drop, hE, bs_drop s E h]; rfl))
 have HX := Lib.hid (show bs (s.extract p E) = W by
  rw [bs_extract, List.drop_take, show E - p = n by omega, ← hn, ← hW, Lx.takeWhile_take])
 have HR := Lib.hid hR
 have HW := Lib.hid hW
 have HN := Lib.hid hn
 have HE := Lib.hid hE
 rw [hR]
 have HB := Lib.hid (ba w (.cells #[.int .i64 0, .string ⟨#[]⟩, .int .i64 0, .int .i64 0] 66))
 have HU := Lib.hid (MapKept.heap_alloc w (.cells #[.int .i64 0, .string ⟨#[]⟩, .int .i64 0, .int .i64 0] 66)).1
 clear hR hW hn hE hle
 go_enter Tryz.func49, Tryz.ntmps49
 go_wp2_with fail
 generalize w.alloc (.cells #[.int .i64 0, .string ⟨#[]⟩, .int .i64 0, .int .i64 0] 66) = W1 at HB HU ⊢
 obtain ⟨U, hU⟩ : ∃ U, w.heap.size = U := ⟨_, rfl⟩
 rw [hU] at HU ⊢
 have HUl := Lib.hid hU
 clear hU
 go_loopw [7] (fun i wr => ∃ k : Nat, p ≤ k ∧ k ≤ E ∧ i = .int .i64 k ∧ wr = W1) (fun i _ => s.size - (intOf i).toNat)
 case atStart => exact ⟨p, Nat.le_refl _, by have := HE.out; omega, rfl, rfl⟩
 case round =>
  obtain ⟨k, hpk, hkE, rfl, rfl⟩ := hrel
  by_cases hkn : k < E
  ·have hks : k < s.size := by omega
   have hwd := HG.out k hks hpk hkn
   cases hl : Lx.letter s[k] with
   | true =>
    go_wp2_with fail
    refine (refLetter_any s[k] _).mono ?_
    rintro e wr ⟨rfl, rfl⟩
    rw [hl]
    go_wp2_with fail
    go_roundw
    case rel => exact ⟨k + 1, by omega, by omega, by go_num, by first | rfl | trivial⟩
    case measure => simp [intOf]; omega
   | false =>
    have hd : Lx.digit s[k] = true := by
     unfold Lx.wordy at hwd
     rw [hl, Bool.false_or] at hwd
     exact hwd
    go_wp2_with fail
    refine (refLetter_any s[k] _).mono ?_
    rintro e wr ⟨rfl, rfl⟩
    rw [hl]
    go_wp2_with fail
    refine (refDigit_any s[k] _).mono ?_
    rintro e wr ⟨rfl, rfl⟩
    rw [hd]
    go_wp2_with fail
    go_roundw
    case rel => exact ⟨k + 1, by omega, by omega, by go_num, by first | rfl | trivial⟩
    case measure => simp [intOf]; omega
  ·obtain rfl : k = E := by omega
   clear hkn hkE hpk
   have HFc := Lib.hid (show ∀ w2, Below wr.heap.size wr w2 → TokF w U w2 from fun w2 hb => tokF_of HB.out HU.out HUl.out hb)
   have hpE : p ≤ k := by have := HE.out; omega
   by_cases hks : k < s.size
   case' pos =>
    have hwd := HO.out hks
    have hl : Lx.letter s[k] = false := by
     unfold Lx.wordy at hwd
     exact (Bool.or_eq_false_iff.1 hwd).1
    have hd : Lx.digit s[k] = false := by
     unfold Lx.wordy at hwd
     exact (Bool.or_eq_false_iff.1 hwd).2
    go_wp2_with fail
    refine (refLetter_any s[k] _).mono ?_
    rintro e wr ⟨rfl, rfl⟩
    rw [hl]
    go_wp2_with fail
    refine (refDigit_any s[k] _).mono ?_
    rintro e wr ⟨rfl, rfl⟩
    rw [hd]
    clear hwd hl hd
    go_upto_region 5 with fail
   case' neg => go_upto_region 5 with fail
   all_goals
    by_cases h39 : s[p] = 39
    ·have hz : (s[p].toNat : Int) = 39 := by rw [h39]; rfl
     have HT := Lib.hid (fun e (h : TextE p s.size (Lx.txq false ((bs s).drop (p + 1)) []) e) => text_one hp h39 h)
     clear h39
     go_wp2_with fail
     refine (refText_any s p _ hs hp).mono ?_
     rintro e w2 ⟨he, hb⟩
     have hO := HT.out e he
     rw [HR.out] at hO
     obtain ⟨x0, x1, x2, x3, f0, f1, f2, f3, hF⟩ := HFc.out w2 hb
     have HF := Lib.hid hF
     clear he hb hF
     cases R with
     | none =>
      obtain ⟨k0, b0, m0, a0, z0, rfl⟩ := hO
      go_wp2_with fail
      refine bodyPost_ret (v := .tuple #[tokV k0 b0 m0 a0, .int .i64 z0, .bool false]) (by simp [results, Tryz.results49, go_sem, x0, x1, x2, x3]) rfl ⟨OneE.no rfl _ _ _ _ _, HF.out _ _ _ _⟩
     | some tz =>
      obtain ⟨t, z⟩ := tz
      obtain rfl := hO
      go_wp2_with fail
      refine bodyPost_ret (v := .tuple #[tokV (t.k : Int) ⟨t.s.toArray⟩ (t.n : Int) (p : Int), .int .i64 ((p + z : Nat) : Int), .bool true]) (by simp [results, Tryz.results49, go_sem, x0, x1, x2, x3]) rfl ⟨rfl, HF.out _ _ _ _⟩
    ·have hz : ((s[p].toNat : Int) == 39) = false := by
      rw [beq_eq_false_iff_ne]
      intro e
      apply h39
      have : s[p].toNat = 39 := by omega
      exact UInt8.toNat_inj.1 this
     go_wp2_with fail
     refine (refDigit_any s[p] _).mono ?_
     rintro e wr ⟨rfl, rfl⟩
     cases hd : Lx.digit s[p] with
     | true =>
      have hlt : Lx.letter s[p] = false := lett_of hd
      have HY := Lib.hid (show (∀ c ∈ W, Lx.digit c = true) → R = if 9007199254740991 < Lx.val W then none else some (⟨3, W, Lx.val W⟩, n) from fun h => by
       have e := num_yes (l := (bs s).drop p) (by rw [HW.out]; exact h)
       rw [HW.out, HN.out] at e
       rw [← HR.out, ← e, bs_drop s p hp, Lx.cut, hlt, if_neg (by simp), hd, if_pos rfl])
      have HNo := Lib.hid (show (∃ c, c ∈ W ∧ Lx.letter c = true) → R = none from fun h => by
       have e := num_no (l := (bs s).drop p) (by rw [HW.out]; exact h)
       rw [← HR.out, ← e, bs_drop s p hp, Lx.cut, hlt, if_neg (by simp), hd, if_pos rfl])
      have hsz : (s.extract p k).size = n := by rw [← bs_len, HX.out, HN.out]
      have hnb : n ≤ 16384 := by have := HE.out; omega
      clear hlt hd hz h39 HR
      obtain ⟨S, hS⟩ : ∃ S, s.extract p k = S := ⟨_, rfl⟩
      rw [hS] at HX hsz ⊢
      clear hS
      go_wp2_with fail
      go_loopw [9] (fun i w2 => ∃ j : Nat, j ≤ n ∧ i = .int .i64 j ∧ (∀ c ∈ W.take j, Lx.digit c = true) ∧ w2 = wr) (fun i _ => n - (intOf i).toNat)
      case atStart => exact ⟨0, Nat.zero_le _, rfl, by simp, rfl⟩
      case round =>
       obtain ⟨j, hj, rfl, hjd, rfl⟩ := hrel
       obtain ⟨x0, x1, x2, x3, f0, f1, f2, f3, hF⟩ := HFc.out _ (Below.refl _ _)
       have HF := Lib.hid hF
       clear hF
       by_cases hjn : j < S.size
       ·have hget : W[j]? = some S[j] := by rw [← HX.out]; exact bs_get S j hjn
        cases hl : Lx.letter S[j] with
        | true =>
         have hNo := HNo.out ⟨_, List.mem_of_getElem? hget, hl⟩
         go_wp2_with fail
         refine (refLetter_any S[j] _).mono ?_
         rintro e w2 ⟨rfl, rfl⟩
         rw [hl]
         go_wp2_with fail
         refine bodyPost_ret (v := .tuple #[tokV 0 ⟨#[]⟩ 0 0, .int .i64 0, .bool false]) (by simp [results, Tryz.results49, go_sem, x0, x1, x2, x3]) rfl ⟨OneE.no hNo _ _ _ _ _, HF.out _ _ _ _⟩
        | false =>
         have hwd : Lx.wordy S[j] = true := Lx.takeWhile_mem Lx.wordy ((bs s).drop p) _ (by rw [HW.out]; exact List.mem_of_getElem? hget)
         have hdg : Lx.digit S[j] = true := by
          unfold Lx.wordy at hwd
          rwa [hl, Bool.false_or] at hwd
         have hjd' : ∀ c ∈ W.take (j + 1), Lx.digit c = true := by
          rw [List.take_add_one, hget]
          intro c hc
          rcases List.mem_append.1 hc with h | h
          ·exact hjd c h
          ·obtain rfl : c = S[j] := by simpa using h
           exact hdg
         clear hwd hdg hget
         go_wp2_with fail
         refine (refLetter_any S[j] _).mono ?_
         rintro e w2 ⟨rfl, rfl⟩
         rw [hl]
         go_wp2_with fail
         go_roundw
         case rel => exact ⟨j + 1, by omega, by go_num, hjd', by first | rfl | trivial⟩
         case measure => simp [intOf]; omega
       ·have hall : ∀ c ∈ W, Lx.digit c = true := by
         rw [List.take_of_length_le (by rw [HN.out]; omega)] at hjd
         exact hjd
        have hY := HY.out hall
        clear x0 x1 x2 x3 f0 f1 f2 f3
        go_wp2_with fail
        refine (refNumber_any S _ (by omega) (by rw [HX.out]; exact hall)).mono ?_
        rintro e w2 ⟨he, hb⟩
        obtain ⟨x0, x1, x2, x3, f0, f1, f2, f3, hF⟩ := HFc.out w2 hb
        have HF := Lib.hid hF
        clear hb hF
        unfold NumE at he
        rw [HX.out] at he
        by_cases hv : 9007199254740991 < Lx.val W
        ·rw [if_pos hv] at he hY
         subst he
         go_wp2_with fail
         refine bodyPost_ret (v := .tuple #[tokV 3 S 0 (p : Int), .int .i64 (k : Int), .bool false]) (by simp [results, Tryz.results49, go_sem, x0, x1, x2, x3]) rfl ⟨OneE.no hY _ _ _ _ _, HF.out _ _ _ _⟩
        ·rw [if_neg hv] at he hY
         subst he
         go_wp2_with fail
         refine bodyPost_ret (v := .tuple #[tokV 3 S (Lx.val W : Nat) (p : Int), .int .i64 (k : Int), .bool true]) (by simp [results, Tryz.results49, go_sem, x0, x1, x2, x3]) rfl ⟨OneE.yes hY rfl HX.out rfl rfl (by have := HE.out; omega), HF.out _ _ _ _⟩
     | false =>
      go_wp2_with fail
      refine (refLetter_any s[p] _).mono ?_
      rintro e wr ⟨rfl, rfl⟩
      cases hl : Lx.letter s[p] with
      | true =>
       have HZ := Lib.hid (show R = if 24 < n then none else some (⟨if Lx.key W then 2 else 1, W, 0⟩, n) by
        rw [← HR.out, bs_drop s p hp, Lx.cut, hl, if_pos rfl, ← bs_drop s p hp, Lx.cutWord]
        simp only [HW.out, HN.out])
       have hsz : (s.extract p k).size = n := by rw [← bs_len, HX.out, HN.out]
       have hnb : n ≤ 16384 := by have := HE.out; omega
       clear hl hd hz h39 HR
       go_wp2_with fail
       refine (refKey_any _ _).mono ?_
       rintro e w2 ⟨rfl, hb⟩
       obtain ⟨x0, x1, x2, x3, f0, f1, f2, f3, hF⟩ := HFc.out w2 hb
       have HF := Lib.hid hF
       clear hb hF
       rw [HX.out]
       cases hk : Lx.key W with
       | true =>
        go_wp2_with fail
        have hZ := HZ.out
        rw [hk] at hZ
        by_cases h24 : 24 < n
        ·rw [if_pos h24] at hZ
         rw [show decide ((n : Int) ≤ 24) = false from decide_eq_false (by omega)]
         refine bodyPost_ret (v := .tuple #[tokV 2 (s.extract p k) 0 (p : Int), .int .i64 (k : Int), .bool false]) (by simp [results, Tryz.results49, go_sem, x0, x1, x2, x3]) rfl ⟨OneE.no hZ _ _ _ _ _, HF.out _ _ _ _⟩
        ·rw [if_neg h24] at hZ
         rw [show decide ((n : Int) ≤ 24) = true from decide_eq_true (by omega)]
         refine bodyPost_ret (v := .tuple #[tokV 2 (s.extract p k) 0 (p : Int), .int .i64 (k : Int), .bool true]) (by simp [results, Tryz.results49, go_sem, x0, x1, x2, x3]) rfl ⟨OneE.yes hZ rfl HX.out rfl rfl (by have := HE.out; omega), HF.out _ _ _ _⟩
       | false =>
        go_wp2_with fail
        have hZ := HZ.out
        rw [hk] at hZ
        by_cases h24 : 24 < n
        ·rw [if_pos h24] at hZ
         rw [show decide ((n : Int) ≤ 24) = false from decide_eq_false (by omega)]
         refine bodyPost_ret (v := .tuple #[tokV 1 (s.extract p k) 0 (p : Int), .int .i64 (k : Int), .bool false]) (by simp [results, Tryz.results49, go_sem, x0, x1, x2, x3]) rfl ⟨OneE.no hZ _ _ _ _ _, HF.out _ _ _ _⟩
        ·rw [if_neg h24] at hZ
         rw [show decide ((n : Int) ≤ 24) = true from decide_eq_true (by omega)]
         refine bodyPost_ret (v := .tuple #[tokV 1 (s.extract p k) 0 (p : Int), .int .i64 (k : Int), .bool true]) (by simp [results, Tryz.results49, go_sem, x0, x1, x2, x3]) rfl ⟨OneE.yes hZ rfl HX.out rfl rfl (by have := HE.out; omega), HF.out _ _ _ _⟩
      | false =>
       have HS := Lib.hid (show R = Lx.cutSign ((bs s).drop p) from by
        rw [← HR.out, bs_drop s p hp, Lx.cut, hl, hd, if_neg (by simp), if_neg (by simp), if_neg h39])
       clear hl hd hz h39 HR
       obtain ⟨x0, x1, x2, x3, f0, f1, f2, f3, hF⟩ := HFc.out _ (Below.refl _ _)
       have HF := Lib.hid hF
       clear hF
       by_cases h2 : p + 2 ≤ s.size
       case' pos =>
        by_cases t1 : (s.extract p (p + 2)).toList = [60, 61]
        ·have hc := two_cut t1 (Or.inl ⟨rfl, rfl⟩)
         go_wp2_with fail
         refine bodyPost_ret (v := .tuple #[tokV 5 (s.extract p (p + 2)) 0 (p : Int), .int .i64 ((p : Int) + 2), .bool true]) (by simp [results, Tryz.results49, go_sem, x0, x1, x2, x3]) rfl ⟨OneE.yes (HS.out.trans hc.1) rfl hc.2 rfl rfl (by omega), HF.out _ _ _ _⟩
        by_cases t2 : (s.extract p (p + 2)).toList = [62, 61]
        ·have hc := two_cut t2 (Or.inr (Or.inl ⟨rfl, rfl⟩))
         go_wp2_with fail
         refine bodyPost_ret (v := .tuple #[tokV 5 (s.extract p (p + 2)) 0 (p : Int), .int .i64 ((p : Int) + 2), .bool true]) (by simp [results, Tryz.results49, go_sem, x0, x1, x2, x3]) rfl ⟨OneE.yes (HS.out.trans hc.1) rfl hc.2 rfl rfl (by omega), HF.out _ _ _ _⟩
        by_cases t3 : (s.extract p (p + 2)).toList = [60, 62]
        ·have hc := two_cut t3 (Or.inr (Or.inr ⟨rfl, rfl⟩))
         go_wp2_with fail
         refine bodyPost_ret (v := .tuple #[tokV 5 (s.extract p (p + 2)) 0 (p : Int), .int .i64 ((p : Int) + 2), .bool true]) (by simp [results, Tryz.results49, go_sem, x0, x1, x2, x3]) rfl ⟨OneE.yes (HS.out.trans hc.1) rfl hc.2 rfl rfl (by omega), HF.out _ _ _ _⟩
        have HM := Lib.hid (show ∀ d r', (bs s).drop (p + 1) = d :: r' → ¬ ((s[p] = 60 ∧ d = 61) ∨ (s[p] = 62 ∧ d = 61) ∨ (s[p] = 60 ∧ d = 62)) from fun d r' e hc => by
         have e2 : (s.extract p (p + 2)).toList = [s[p], d] := by
          rw [ByteArray.toList_eq]
          show bs (s.extract p (p + 2)) = _
          rw [bs_extract, List.drop_take, show p + 2 - p = 2 by omega, bs_drop s p hp, e]
          rfl
         rw [e2] at t1 t2 t3
         rcases hc with ⟨h, rfl⟩ | ⟨h, rfl⟩ | ⟨h, rfl⟩
         ·exact t1 (by rw [h])
         ·exact t2 (by rw [h])
         ·exact t3 (by rw [h]))
        go_wp2_with fail
        ·rename_i hx
         exfalso
         simp [t1, t2, t3] at hx
        clear t1 t2 t3
       case' neg =>
        have HM := Lib.hid (show ∀ d r', (bs s).drop (p + 1) = d :: r' → ¬ ((s[p] = 60 ∧ d = 61) ∨ (s[p] = 62 ∧ d = 61) ∨ (s[p] = 60 ∧ d = 62)) from fun d r' e => by
         rw [List.drop_eq_nil_of_le (by rw [bs_len]; omega)] at e
         cases e)
        go_wp2_with fail
       all_goals
        go_loopw [13] (fun i w2 => ∃ j : Nat, j ≤ 12 ∧ i = .int .i64 j ∧ (∀ c ∈ ones.take j, c ≠ s[p]) ∧ ∀ w3, Below w2.heap.size w2 w3 → TokF w U w3) (fun i _ => 12 - (intOf i).toNat)
        case atStart => exact ⟨0, Nat.zero_le _, rfl, by simp, HFc.out⟩
        case round =>
         obtain ⟨j, hj, rfl, hjd, hF2⟩ := hrel
         clear x0 x1 x2 x3 f0 f1 f2 f3
         by_cases hjn : j < 12
         ·have hos : (⟨#[40, 41, 44, 46, 42, 43, 45, 47, 37, 61, 60, 62]⟩ : ByteArray).size = 12 := rfl
          go_upto_region 27 with fail
          go_quiet (fail)
          have hF3 : ∀ w3, Below (wr.drewN nq).heap.size (wr.drewN nq) w3 → TokF w U w3 := fun w3 h => hF2 w3 ⟨h.os, h.tape, h.output, h.size, h.block⟩
          generalize wr.drewN nq = W1 at hF3 ⊢
          obtain ⟨x0, x1, x2, x3, f0, f1, f2, f3, hF⟩ := hF3 _ (Below.refl _ _)
          have HF := Lib.hid hF
          clear hF hF2
          have HF3 := Lib.hid hF3
          clear hF3
          have hgt : ones[j]? = some ((⟨#[40, 41, 44, 46, 42, 43, 45, 47, 37, 61, 60, 62]⟩ : ByteArray)[j]'hjn) := bs_get (⟨#[40, 41, 44, 46, 42, 43, 45, 47, 37, 61, 60, 62]⟩ : ByteArray) j hjn
          go_wp2_with fail
          ·rename_i hx
           rw [beq_iff_eq] at hx
           have hm : (⟨#[40, 41, 44, 46, 42, 43, 45, 47, 37, 61, 60, 62]⟩ : ByteArray)[j]'hjn = s[p] := UInt8.toNat_inj.1 (Int.ofNat.inj hx)
           rw [hm] at hgt
           have hY : R = some (⟨5, [s[p]], 0⟩, 1) := by
            rw [HS.out, bs_drop s p hp]
            exact sign_one (List.mem_of_getElem? hgt) HM.out
           have hb : bs (s.extract p (p + 1)) = [s[p]] := by
            rw [bs_extract, List.drop_take, show p + 1 - p = 1 by omega, bs_drop s p hp]
            rfl
           refine bodyPost_ret (v := .tuple #[tokV 5 (s.extract p (p + 1)) 0 (p : Int), .int .i64 ((p : Int) + 1), .bool true]) (by simp [results, Tryz.results49, go_sem, x0, x1, x2, x3]) rfl ⟨OneE.yes hY rfl hb rfl rfl (by omega), HF.out _ _ _ _⟩
          ·rename_i hx
           have hne : ∀ c ∈ ones.take (j + 1), c ≠ s[p] := by
            rw [List.take_add_one, hgt]
            intro c hc
            rcases List.mem_append.1 hc with h | h
            ·exact hjd c h
            ·obtain rfl : c = (⟨#[40, 41, 44, 46, 42, 43, 45, 47, 37, 61, 60, 62]⟩ : ByteArray)[j]'hjn := by simpa using h
             intro e
             rw [e] at hx
             simp at hx
           go_roundw
           case rel => exact ⟨j + 1, by omega, by go_num, hne, HF3.out⟩
           case measure => simp [intOf]; omega
         ·obtain rfl : j = 12 := by omega
          have hN : R = none := by
           rw [HS.out, bs_drop s p hp]
           exact sign_none fun hc => hjd _ (by simpa [ones] using hc) rfl
          obtain ⟨x0, x1, x2, x3, f0, f1, f2, f3, hF⟩ := hF2 _ (Below.refl _ _)
          have HF := Lib.hid hF
          clear hF hF2
          go_wp2_with fail
          refine bodyPost_ret (v := .tuple #[tokV 0 ⟨#[]⟩ 0 0, .int .i64 0, .bool false]) (by simp [results, Tryz.results49, go_sem, x0, x1, x2, x3]) rfl ⟨OneE.no hN _ _ _ _ _, HF.out _ _ _ _⟩
end Go.Proofs.YtfjimoccliejdaaGreatDoor
end
section
namespace Go.Proofs.YtfjimoccliejdaaGreatDoor
open Go.RowKit Go.Shelf

def TakE (m : Nat) (w : World) (t : Bool) (tk : Lx.Tok) (s' : Pa.Ps) (e : Ending) (w' : World) : Prop :=
 ∃ y : TkA, e = .returned (.tuple #[tkv y, .bool t]) ∧ (t = true → y.1 = tk) ∧ (t = false → y = (Pa.noTok, 0)) ∧ RdM w' m s' ∧ ButM m w w'
theorem ButM.cell {m : Nat} {w w' : World} (h : ButM m w w') {g o : Nat} {v : Value} (hg : g ≠ m) (hc : w.cell? ⟨g, o, none⟩ = some v) : w'.cell? ⟨g, o, none⟩ = some v := by
 have hlt : g < w.heap.size := by
  rcases Nat.lt_or_ge g w.heap.size with hh | hh
  ·exact hh
  ·simp [World.cell?, Array.getElem?_eq_none hh] at hc
 have e := h.block g hlt hg
 simp only [World.cell?] at hc ⊢
 rw [e]
 exact hc
theorem RdM.adv {m : Nat} {w w' : World} {s : Pa.Ps} {g off c : Nat} (h : RdM w m s) (hf : Pa.Fin s.ts) (e1 : w.heap[m]? = some (rbox (some ⟨g, off, none⟩) s.ts.length c s.bad)) (hb : ButM m w w')
  (he : w'.heap[m]? = some (rbox (some ⟨g, off + 4, none⟩) (s.ts.length - 1) (c - 1) false)) : RdM w' m ⟨s.ts.tail, false⟩ := by
 obtain ⟨A, c', q1, q2, q3⟩ := h
 rw [e1] at q1
 obtain ⟨rfl, rfl⟩ : A = some ⟨g, off, none⟩ ∧ c' = c := by
  have := Option.some.inj q1
  simp only [rbox, Obj.cells.injEq, Array.mk.injEq, List.cons.injEq, Value.slice.injEq] at this
  exact ⟨this.1.1.1.symm, this.1.1.2.2.symm⟩
 obtain ⟨ts, bad⟩ := s
 have hn := hf.ne
 cases ts with
 | nil => simp at hn
 | cons x l =>
  refine ⟨some ⟨g, off + 4, none⟩, c' - 1, by simpa using he, ?_, by have q4 := q3.1; simp only [List.length_cons, List.tail_cons] at q4 ⊢; omega, fun a ha => by cases ha; exact q3.2 ⟨g, off, none⟩ rfl⟩
  rcases q2 with q2 | ⟨g', off', eA, q2⟩
  ·cases q2
  ·cases eA
   have hgm : g ≠ m := by
    rintro rfl
    have := q2 3 (.int .i64 x.2) rfl
    simp [World.cell?, e1] at this
   refine .inr ⟨g, off + 4, rfl, fun j u hj => ?_⟩
   have := q2 (4 + j) u (by
    show (tkc x ++ tks l)[4 + j]? = some u
    rw [List.getElem?_append_right (by show 4 ≤ 4 + j; omega), show 4 + j - (tkc x).length = j by show 4 + j - 4 = j; omega]
    exact hj)
   rw [← Nat.add_assoc] at this
   exact hb.cell hgm this
set_option maxRecDepth 100000 in
set_option maxHeartbeats 4000000 in
theorem takeIfW_any (m : Nat) (s : Pa.Ps) (g : Nat) (b : ByteArray) (w : World) (h : RdM w m s) (hf : Pa.Fin s.ts) (hg : w.cell? ⟨g, 0, none⟩ = some (.string b)) :
  Calls Tryz.prog 83 #[.pointer (some ⟨m, 0, none⟩), .func (.func 84) #[] #[.pointer (some ⟨g, 0, none⟩)]] w fun e w' => TakE m w (Pa.takeW (bs b) s).1 s.tk (Pa.takeW (bs b) s).2 e w' := by
 have HB := Lib.hid (ba w (.cells #[.int .i64 0, .string ⟨#[]⟩, .int .i64 0, .int .i64 0] 66))
 have HU := Lib.hid (MapKept.heap_alloc w (.cells #[.int .i64 0, .string ⟨#[]⟩, .int .i64 0, .int .i64 0] 66)).1
 have H1 := Lib.hid (h.next HB.out)
 have HG1 := Lib.hid (cell_kept HB.out hg)
 clear hg
 go_enter Tryz.func83, Tryz.ntmps83
 go_wp2_with fail
 generalize w.alloc (.cells #[.int .i64 0, .string ⟨#[]⟩, .int .i64 0, .int .i64 0] 66) = W1 at HB HU H1 HG1 ⊢
 obtain ⟨U, hU⟩ : ∃ U, w.heap.size = U := ⟨_, rfl⟩
 rw [hU] at HU ⊢
 have HUl := Lib.hid hU
 clear hU
 refine (next_any m s _ H1.out hf).mono ?_
 rintro e W2 ⟨⟨x, hx, htk, hat, rfl⟩, hb2⟩
 have hb3 := ba W2 (.cells #[.int .i64 x.1.k, .string ⟨x.1.s.toArray⟩, .int .i64 x.1.n, .int .i64 x.2] 66)
 have h3 := (H1.out.next hb2).next hb3
 have hg3 := cell_kept hb3 (cell_kept hb2 HG1.out)
 have HFc := Lib.hid (show ∀ w2, Below (W2.alloc (.cells #[.int .i64 x.1.k, .string ⟨x.1.s.toArray⟩, .int .i64 x.1.n, .int .i64 x.2] 66)).heap.size (W2.alloc (.cells #[.int .i64 x.1.k, .string ⟨x.1.s.toArray⟩, .int .i64 x.1.n, .int .i64 x.2] 66)) w2 → TokF w U w2 from fun w2 hb => tokF_of HB.out HU.out HUl.out (bt hb2 (bt hb3 hb)))
 obtain ⟨x', g', off, c, q1, q2, q3, q4, q0, q5, q6⟩ := h3.head hf
 obtain rfl : x = x' := by rw [hx] at q2; exact Option.some.inj q2
 obtain ⟨r0, r1⟩ := rcell q1
 have HQ1 := Lib.hid q1
 have H3 := Lib.hid h3
 have HX := Lib.hid htk
 have Hb2 := Lib.hid hb2
 have HG3 := Lib.hid hg3
 obtain ⟨x0, x1, x2, x3, f0, f1, f2, f3, hF⟩ := HFc.out _ (Below.refl _ _)
 have HF := Lib.hid hF
 clear hb2 hb3 h3 hg3 q1 q2 q3 q4 q0 hx htk hat hF
 cases hbad : s.bad with
 | true =>
  rw [hbad] at r1
  have HT : Pa.takeW (bs b) s = (false, s) := by simp [Pa.takeW, hbad]
  go_wp2_with fail
  refine bodyPost_ret (v := .tuple #[tkv (Pa.noTok, 0), .bool false]) (by simp [results, Tryz.results83, go_sem, x0, x1, x2, x3, Pa.noTok]) rfl ⟨(Pa.noTok, 0), ?_, ?_, fun _ => rfl, ?_, ?_⟩
  ·rw [HT]
  ·intro e; rw [HT] at e; cases e
  ·rw [HT]; exact h.next (HF.out _ _ _ _)
  ·exact ButM.of (HF.out _ _ _ _)
 | false =>
  rw [hbad] at r1
  go_wp2_with fail
  ·refine (takeF_any x g b _ HG3.out).mono ?_
   rintro e W3 ⟨rfl, hb4⟩
   obtain ⟨x0, x1, x2, x3, f0, f1, f2, f3, hF⟩ := HFc.out _ hb4
   have HF := Lib.hid hF
   clear hF
   cases hw : Pa.isW (bs b) x.1 with
   | false =>
    have HT : Pa.takeW (bs b) s = (false, s) := by simp [Pa.takeW, hbad, HX.out, hw]
    clear hb4
    go_wp2_with fail
    refine bodyPost_ret (v := .tuple #[tkv (Pa.noTok, 0), .bool false]) (by simp [results, Tryz.results83, go_sem, x0, x1, x2, x3, Pa.noTok]) rfl ⟨(Pa.noTok, 0), ?_, ?_, fun _ => rfl, ?_, ?_⟩
    ·rw [HT]
    ·intro e; rw [HT] at e; cases e
    ·rw [HT]; exact h.next (HF.out _ _ _ _)
    ·exact ButM.of (HF.out _ _ _ _)
   | true =>
    have HT : Pa.takeW (bs b) s = (true, ⟨s.ts.tail, false⟩) := by simp [Pa.takeW, hbad, HX.out, hw]
    have hk6 : s.tk.k ≠ 6 := by
     rw [HX.out]
     intro e
     unfold Pa.isW at hw
     rw [e] at hw
     simp at hw
    obtain ⟨hft, hlt⟩ := hf.tail hk6
    have hl1 : 1 < s.ts.length := by have := hft.ne; omega
    have r0' := cell_kept hb4 r0
    have HQ3 := Lib.hid ((hb4.block m (Array.getElem?_eq_some_iff.1 HQ1.out).1).trans HQ1.out)
    have hfz : W3.frozen? ⟨m, 0, none⟩ = false := by unfold World.frozen?; rw [HQ3.out]; rfl
    have hb5 : W3.heap[W2.heap.size]? = some (.cells #[.int .i64 x.1.k, .string ⟨x.1.s.toArray⟩, .int .i64 x.1.n, .int .i64 x.2] 66) := (hb4.block _ (Array.getElem?_eq_some_iff.1 (MapKept.heap_alloc W2 _).1).1).trans (MapKept.heap_alloc W2 _).1
    have y0 : W3.cell? ⟨W2.heap.size, 0, none⟩ = some (.int .i64 x.1.k) := by simp [World.cell?, hb5]
    have y1 : W3.cell? ⟨W2.heap.size, 1, none⟩ = some (.string ⟨x.1.s.toArray⟩) := by simp [World.cell?, hb5]
    have y2 : W3.cell? ⟨W2.heap.size, 2, none⟩ = some (.int .i64 x.1.n) := by simp [World.cell?, hb5]
    have y3 : W3.cell? ⟨W2.heap.size, 3, none⟩ = some (.int .i64 x.2) := by simp [World.cell?, hb5]
    have hmw : m < w.heap.size := h.lt
    have hmU : m ≠ U := by have := HUl.out; omega
    have hUm : U ≠ m := fun e => hmU e.symm
    have hm2 : m ≠ W2.heap.size := by have := HB.out.size; have := Hb2.out.size; omega
    have h2m : W2.heap.size ≠ m := fun e => hm2 e.symm
    have HBw := Lib.hid (bt HB.out (bt Hb2.out (bt (ba W2 _) hb4)))
    clear hb4 hb5 r0 r1
    go_wp2_with fail
    have hB5 : ButM m w (((((W3.setCell ⟨m, 0, none⟩ (.slice (some ⟨g', off + 4, none⟩) (s.ts.length - 1) (c - 1))).setCell ⟨U, 0, none⟩ (.int .i64 x.1.k)).setCell ⟨U, 1, none⟩ (.string ⟨x.1.s.toArray⟩)).setCell ⟨U, 2, none⟩ (.int .i64 x.1.n)).setCell ⟨U, 3, none⟩ (.int .i64 x.2)) := by
     refine ⟨HBw.out.os, HBw.out.tape, HBw.out.output, by simp only [setc_size]; exact HBw.out.size, fun k hk hkm => ?_⟩
     have hkU : k ≠ U := by have := HUl.out; omega
     rw [setc_other hkU, setc_other hkU, setc_other hkU, setc_other hkU, setc_other hkm]
     exact HBw.out.block k hk
    have e1 : w.heap[m]? = some (rbox (some ⟨g', off, none⟩) s.ts.length c s.bad) := by rw [← HBw.out.block m hmw]; exact HQ3.out
    have he : (((((W3.setCell ⟨m, 0, none⟩ (.slice (some ⟨g', off + 4, none⟩) (s.ts.length - 1) (c - 1))).setCell ⟨U, 0, none⟩ (.int .i64 x.1.k)).setCell ⟨U, 1, none⟩ (.string ⟨x.1.s.toArray⟩)).setCell ⟨U, 2, none⟩ (.int .i64 x.1.n)).setCell ⟨U, 3, none⟩ (.int .i64 x.2)).heap[m]? = some (rbox (some ⟨g', off + 4, none⟩) (s.ts.length - 1) (c - 1) false) := by
     rw [setc_other hmU, setc_other hmU, setc_other hmU, setc_other hmU]
     have := HQ3.out
     rw [hbad] at this
     obtain ⟨hlt, hge⟩ := Array.getElem?_eq_some_iff.1 this
     simp [World.setCell, Array.getElem?_modify, this, rbox]
    refine bodyPost_ret (v := .tuple #[tkv x, .bool true]) (by simp [results, Tryz.results83, go_sem, x0, x1, x2, x3]) rfl ⟨x, ?_, fun _ => HX.out.symm, ?_, ?_, hB5⟩
    ·rw [HT]
    ·intro e; rw [HT] at e; cases e
    ·rw [HT]; exact h.adv hf e1 hB5 he
end Go.Proofs.YtfjimoccliejdaaGreatDoor
end
section
namespace Go.Proofs.YtfjimoccliejdaaGreatDoor
open Go.RowKit Go.Shelf

set_option maxRecDepth 100000 in
set_option maxHeartbeats 4000000 in
theorem takeIfK_any (m : Nat) (s : Pa.Ps) (g : Nat) (k : Nat) (hk6 : k ≠ 6) (w : World) (h : RdM w m s) (hf : Pa.Fin s.ts) (hg : w.cell? ⟨g, 0, none⟩ = some (.int .i64 k)) :
  Calls Tryz.prog 83 #[.pointer (some ⟨m, 0, none⟩), .func (.func 131) #[] #[.pointer (some ⟨g, 0, none⟩)]] w fun e w' => TakE m w (Pa.takeK k s).1.isSome s.tk (Pa.takeK k s).2 e w' := by
 have HB := Lib.hid (ba w (.cells #[.int .i64 0, .string ⟨#[]⟩, .int .i64 0, .int .i64 0] 66))
 have HU := Lib.hid (MapKept.heap_alloc w (.cells #[.int .i64 0, .string ⟨#[]⟩, .int .i64 0, .int .i64 0] 66)).1
 have H1 := Lib.hid (h.next HB.out)
 have HG1 := Lib.hid (cell_kept HB.out hg)
 clear hg
 go_enter Tryz.func83, Tryz.ntmps83
 go_wp2_with fail
 generalize w.alloc (.cells #[.int .i64 0, .string ⟨#[]⟩, .int .i64 0, .int .i64 0] 66) = W1 at HB HU H1 HG1 ⊢
 obtain ⟨U, hU⟩ : ∃ U, w.heap.size = U := ⟨_, rfl⟩
 rw [hU] at HU ⊢
 have HUl := Lib.hid hU
 clear hU
 refine (next_any m s _ H1.out hf).mono ?_
 rintro e W2 ⟨⟨x, hx, htk, hat, rfl⟩, hb2⟩
 have hb3 := ba W2 (.cells #[.int .i64 x.1.k, .string ⟨x.1.s.toArray⟩, .int .i64 x.1.n, .int .i64 x.2] 66)
 have h3 := (H1.out.next hb2).next hb3
 have hg3 := cell_kept hb3 (cell_kept hb2 HG1.out)
 have HFc := Lib.hid (show ∀ w2, Below (W2.alloc (.cells #[.int .i64 x.1.k, .string ⟨x.1.s.toArray⟩, .int .i64 x.1.n, .int .i64 x.2] 66)).heap.size (W2.alloc (.cells #[.int .i64 x.1.k, .string ⟨x.1.s.toArray⟩, .int .i64 x.1.n, .int .i64 x.2] 66)) w2 → TokF w U w2 from fun w2 hb => tokF_of HB.out HU.out HUl.out (bt hb2 (bt hb3 hb)))
 obtain ⟨x', g', off, c, q1, q2, q3, q4, q0, q5, q6⟩ := h3.head hf
 obtain rfl : x = x' := by rw [hx] at q2; exact Option.some.inj q2
 obtain ⟨r0, r1⟩ := rcell q1
 have HQ1 := Lib.hid q1
 have H3 := Lib.hid h3
 have HX := Lib.hid htk
 have Hb2 := Lib.hid hb2
 have HG3 := Lib.hid hg3
 obtain ⟨x0, x1, x2, x3, f0, f1, f2, f3, hF⟩ := HFc.out _ (Below.refl _ _)
 have HF := Lib.hid hF
 clear hb2 hb3 h3 hg3 q1 q2 q3 q4 q0 hx htk hat hF
 cases hbad : s.bad with
 | true =>
  rw [hbad] at r1
  have HT : Pa.takeK k s = (none, s) := by simp [Pa.takeK, hbad]
  go_wp2_with fail
  refine bodyPost_ret (v := .tuple #[tkv (Pa.noTok, 0), .bool false]) (by simp [results, Tryz.results83, go_sem, x0, x1, x2, x3, Pa.noTok]) rfl ⟨(Pa.noTok, 0), ?_, ?_, fun _ => rfl, ?_, ?_⟩
  ·rw [HT]; rfl
  ·intro e; rw [HT] at e; cases e
  ·rw [HT]; exact h.next (HF.out _ _ _ _)
  ·exact ButM.of (HF.out _ _ _ _)
 | false =>
  rw [hbad] at r1
  go_wp2_with fail
  ·refine (kindF_any x g k _ HG3.out).mono ?_
   rintro e W3 ⟨rfl, hb4⟩
   obtain ⟨x0, x1, x2, x3, f0, f1, f2, f3, hF⟩ := HFc.out _ hb4
   have HF := Lib.hid hF
   clear hF
   cases hw : (x.1.k == k) with
   | false =>
    have HT : Pa.takeK k s = (none, s) := by simp [Pa.takeK, hbad, HX.out, hw]
    clear hb4
    go_wp2_with fail
    refine bodyPost_ret (v := .tuple #[tkv (Pa.noTok, 0), .bool false]) (by simp [results, Tryz.results83, go_sem, x0, x1, x2, x3, Pa.noTok]) rfl ⟨(Pa.noTok, 0), ?_, ?_, fun _ => rfl, ?_, ?_⟩
    ·rw [HT]; rfl
    ·intro e; rw [HT] at e; cases e
    ·rw [HT]; exact h.next (HF.out _ _ _ _)
    ·exact ButM.of (HF.out _ _ _ _)
   | true =>
    have HT : Pa.takeK k s = (some s.tk, ⟨s.ts.tail, false⟩) := by simp [Pa.takeK, hbad, HX.out, hw]
    have hk7 : s.tk.k ≠ 6 := by
     rw [HX.out]
     intro e
     rw [e] at hw
     exact hk6 (eq_of_beq hw).symm
    obtain ⟨hft, hlt⟩ := hf.tail hk7
    have hl1 : 1 < s.ts.length := by have := hft.ne; omega
    have r0' := cell_kept hb4 r0
    have HQ3 := Lib.hid ((hb4.block m (Array.getElem?_eq_some_iff.1 HQ1.out).1).trans HQ1.out)
    have hfz : W3.frozen? ⟨m, 0, none⟩ = false := by unfold World.frozen?; rw [HQ3.out]; rfl
    have hb5 : W3.heap[W2.heap.size]? = some (.cells #[.int .i64 x.1.k, .string ⟨x.1.s.toArray⟩, .int .i64 x.1.n, .int .i64 x.2] 66) := (hb4.block _ (Array.getElem?_eq_some_iff.1 (MapKept.heap_alloc W2 _).1).1).trans (MapKept.heap_alloc W2 _).1
    have y0 : W3.cell? ⟨W2.heap.size, 0, none⟩ = some (.int .i64 x.1.k) := by simp [World.cell?, hb5]
    have y1 : W3.cell? ⟨W2.heap.size, 1, none⟩ = some (.string ⟨x.1.s.toArray⟩) := by simp [World.cell?, hb5]
    have y2 : W3.cell? ⟨W2.heap.size, 2, none⟩ = some (.int .i64 x.1.n) := by simp [World.cell?, hb5]
    have y3 : W3.cell? ⟨W2.heap.size, 3, none⟩ = some (.int .i64 x.2) := by simp [World.cell?, hb5]
    have hmw : m < w.heap.size := h.lt
    have hmU : m ≠ U := by have := HUl.out; omega
    have hUm : U ≠ m := fun e => hmU e.symm
    have hm2 : m ≠ W2.heap.size := by have := HB.out.size; have := Hb2.out.size; omega
    have h2m : W2.heap.size ≠ m := fun e => hm2 e.symm
    have HBw := Lib.hid (bt HB.out (bt Hb2.out (bt (ba W2 _) hb4)))
    clear hb4 hb5 r0 r1
    go_wp2_with fail
    have hB5 : ButM m w (((((W3.setCell ⟨m, 0, none⟩ (.slice (some ⟨g', off + 4, none⟩) (s.ts.length - 1) (c - 1))).setCell ⟨U, 0, none⟩ (.int .i64 x.1.k)).setCell ⟨U, 1, none⟩ (.string ⟨x.1.s.toArray⟩)).setCell ⟨U, 2, none⟩ (.int .i64 x.1.n)).setCell ⟨U, 3, none⟩ (.int .i64 x.2)) := by
     refine ⟨HBw.out.os, HBw.out.tape, HBw.out.output, by simp only [setc_size]; exact HBw.out.size, fun k hk hkm => ?_⟩
     have hkU : k ≠ U := by have := HUl.out; omega
     rw [setc_other hkU, setc_other hkU, setc_other hkU, setc_other hkU, setc_other hkm]
     exact HBw.out.block k hk
    have e1 : w.heap[m]? = some (rbox (some ⟨g', off, none⟩) s.ts.length c s.bad) := by rw [← HBw.out.block m hmw]; exact HQ3.out
    have he : (((((W3.setCell ⟨m, 0, none⟩ (.slice (some ⟨g', off + 4, none⟩) (s.ts.length - 1) (c - 1))).setCell ⟨U, 0, none⟩ (.int .i64 x.1.k)).setCell ⟨U, 1, none⟩ (.string ⟨x.1.s.toArray⟩)).setCell ⟨U, 2, none⟩ (.int .i64 x.1.n)).setCell ⟨U, 3, none⟩ (.int .i64 x.2)).heap[m]? = some (rbox (some ⟨g', off + 4, none⟩) (s.ts.length - 1) (c - 1) false) := by
     rw [setc_other hmU, setc_other hmU, setc_other hmU, setc_other hmU]
     have := HQ3.out
     rw [hbad] at this
     obtain ⟨hlt, hge⟩ := Array.getElem?_eq_some_iff.1 this
     simp [World.setCell, Array.getElem?_modify, this, rbox]
    refine bodyPost_ret (v := .tuple #[tkv x, .bool true]) (by simp [results, Tryz.results83, go_sem, x0, x1, x2, x3]) rfl ⟨x, ?_, fun _ => HX.out.symm, ?_, ?_, hB5⟩
    ·rw [HT]; rfl
    ·intro e; rw [HT] at e; cases e
    ·rw [HT]; exact h.adv hf e1 hB5 he
end Go.Proofs.YtfjimoccliejdaaGreatDoor
end
section
namespace Go.Proofs.YtfjimoccliejdaaGreatDoor
open Go.RowKit Go.Shelf

def TabO (w : World) : Prop := ∀ j, j < 17 → w.cell? ⟨0, j, none⟩ = some (.string ⟨(Pa.begins j).toArray⟩)
theorem TabO.low {m : Nat} {w w' : World} (h : TabO w) (hg : 0 < m) (hb : ∀ k, k < m → w'.heap[k]? = w.heap[k]?) : TabO w' := fun j hj => (World.cell?_of_block (hb _ hg)).trans (h j hj)
structure RS (m : Nat) (w : World) (s : Pa.Ps) : Prop where
 rd : RdM w m s
 fin : Pa.Fin s.ts
 tab : TabO w
 gm : 0 < m
theorem RS.low {m : Nat} {w w' : World} {s : Pa.Ps} (h : RS m w s) (hb : ∀ k, k ≤ m → w'.heap[k]? = w.heap[k]?) : RS m w' s := ⟨h.rd.low hb, h.fin, h.tab.low h.gm (fun k hk => hb k (Nat.le_of_lt hk)), h.gm⟩
theorem RS.lt {m : Nat} {w : World} {s : Pa.Ps} (h : RS m w s) : m < w.heap.size := h.rd.lt
theorem RS.next {m : Nat} {w w' : World} {s : Pa.Ps} (h : RS m w s) (hb : Below w.heap.size w w') : RS m w' s := h.low fun k hk => hb.block k (Nat.lt_of_le_of_lt hk h.lt)
theorem RS.tabs {m : Nat} {w w' : World} {s : Pa.Ps} (h : RS m w s) (hb : ButM m w w') : TabO w' := h.tab.low h.gm fun k hk => hb.block k (Nat.lt_trans hk h.lt) (Nat.ne_of_lt hk)
theorem bs_arr (l : Lx.B) : bs ⟨l.toArray⟩ = l := by simp [bs]
theorem RS.stuck {m : Nat} {w : World} {s : Pa.Ps} (h : RS m w s) : RS m (w.setCell ⟨m, 1, none⟩ (.bool true)) ⟨s.ts, true⟩ ∧ ButM m w (w.setCell ⟨m, 1, none⟩ (.bool true)) := by
 obtain ⟨A, c, h1, h2, h3, h4⟩ := h.rd
 have hM : ButM m w (w.setCell ⟨m, 1, none⟩ (.bool true)) := ⟨rfl, rfl, rfl, by rw [setc_size]; exact Nat.le_refl _, fun k _ hk => setc_other hk _⟩
 refine ⟨⟨⟨A, c, ?_, ?_, h3, h4⟩, h.fin, h.tabs hM, h.gm⟩, hM⟩
 ·simp [World.setCell, Array.getElem?_modify, h1, rbox]
 ·rcases h2 with h2 | ⟨g, off, rfl, h2⟩
  ·exact .inl h2
  ·have hg : g < m := h4 _ rfl
   exact .inr ⟨g, off, rfl, fun j u hj => (World.cell?_of_block (setc_other (by show g ≠ m; omega) _)).trans (h2 j u hj)⟩
theorem RS.frozen {m : Nat} {w : World} {s : Pa.Ps} (h : RS m w s) (j : Nat) : w.frozen? ⟨m, j, none⟩ = false := by
 obtain ⟨A, c, h1, _⟩ := h.rd
 simp [World.frozen?, h1, rbox]
theorem RS.c1 {m : Nat} {w : World} {s : Pa.Ps} (h : RS m w s) : w.cell? ⟨m, 1, none⟩ = some (.bool s.bad) := by
 obtain ⟨A, c, h1, _⟩ := h.rd
 exact (rcell h1).2
structure OnU (U : Nat) (w w' : World) : Prop where
 os : w'.os = w.os
 tape : w'.tape = w.tape
 output : w'.output = w.output
 size : w'.heap.size = w.heap.size
 block : ∀ k, k ≠ U → w'.heap[k]? = w.heap[k]?
theorem OnU.refl (U : Nat) (w : World) : OnU U w w := ⟨rfl, rfl, rfl, rfl, fun _ _ => rfl⟩
theorem OnU.set {U j : Nat} {w w' : World} {v : Value} (h : OnU U w w') : OnU U w (w'.setCell ⟨U, j, none⟩ v) :=
 ⟨h.os, h.tape, h.output, (setc_size _ _ _).trans h.size, fun k hk => (setc_other hk _).trans (h.block k hk)⟩
theorem OnU.trans {U : Nat} {a b c : World} (h : OnU U a b) (k : OnU U b c) : OnU U a c := ⟨k.os.trans h.os, k.tape.trans h.tape, k.output.trans h.output, k.size.trans h.size, fun q hq => (k.block q hq).trans (h.block q hq)⟩
theorem OnU.rs {m U : Nat} {w w' : World} {s : Pa.Ps} (h : OnU U w w') (hm : m < U) (hs : RS m w s) : RS m w' s := hs.low fun k hk => h.block k (by omega)
theorem OnU.but {m U : Nat} {w0 w w' : World} (h : OnU U w w') (hU : w0.heap.size ≤ U) (hs : ButM m w0 w) : ButM m w0 w' :=
 ⟨h.os.trans hs.os, h.tape.trans hs.tape, h.output.trans hs.output, by rw [h.size]; exact hs.size, fun k hk hkm => (h.block k (by omega)).trans (hs.block k hk hkm)⟩
def BxU (w : World) (U : Nat) (cs : Array Value) (T : TypeId) : Prop := w.heap[U]? = some (.cells cs T (0, 0))
theorem BxU.cell {w : World} {U : Nat} {cs : Array Value} {T : TypeId} (h : BxU w U cs T) (j : Nat) : w.cell? ⟨U, j, none⟩ = cs[j]? := by
 unfold BxU at h
 simp [World.cell?, h]
theorem cl8 {w : World} {U : Nat} {T : TypeId} {a0 a1 a2 a3 a4 a5 a6 a7 : Value} (h : BxU w U #[a0, a1, a2, a3, a4, a5, a6, a7] T) : w.cell? ⟨U, 0, none⟩ = some a0 ∧ w.cell? ⟨U, 1, none⟩ = some a1 ∧ w.cell? ⟨U, 2, none⟩ = some a2 ∧ w.cell? ⟨U, 3, none⟩ = some a3 ∧ w.cell? ⟨U, 4, none⟩ = some a4 ∧ w.cell? ⟨U, 5, none⟩ = some a5 ∧ w.cell? ⟨U, 6, none⟩ = some a6 ∧ w.cell? ⟨U, 7, none⟩ = some a7 :=
 ⟨h.cell 0, h.cell 1, h.cell 2, h.cell 3, h.cell 4, h.cell 5, h.cell 6, h.cell 7⟩
theorem cl10 {w : World} {U : Nat} {T : TypeId} {a0 a1 a2 a3 a4 a5 a6 a7 a8 a9 : Value} (h : BxU w U #[a0, a1, a2, a3, a4, a5, a6, a7, a8, a9] T) : w.cell? ⟨U, 0, none⟩ = some a0 ∧ w.cell? ⟨U, 1, none⟩ = some a1 ∧ w.cell? ⟨U, 2, none⟩ = some a2 ∧ w.cell? ⟨U, 3, none⟩ = some a3 ∧ w.cell? ⟨U, 4, none⟩ = some a4 ∧ w.cell? ⟨U, 5, none⟩ = some a5 ∧ w.cell? ⟨U, 6, none⟩ = some a6 ∧ w.cell? ⟨U, 7, none⟩ = some a7 ∧ w.cell? ⟨U, 8, none⟩ = some a8 ∧ w.cell? ⟨U, 9, none⟩ = some a9 :=
 ⟨h.cell 0, h.cell 1, h.cell 2, h.cell 3, h.cell 4, h.cell 5, h.cell 6, h.cell 7, h.cell 8, h.cell 9⟩
theorem cl11 {w : World} {U : Nat} {T : TypeId} {a0 a1 a2 a3 a4 a5 a6 a7 a8 a9 a10 : Value} (h : BxU w U #[a0, a1, a2, a3, a4, a5, a6, a7, a8, a9, a10] T) : w.cell? ⟨U, 0, none⟩ = some a0 ∧ w.cell? ⟨U, 1, none⟩ = some a1 ∧ w.cell? ⟨U, 2, none⟩ = some a2 ∧ w.cell? ⟨U, 3, none⟩ = some a3 ∧ w.cell? ⟨U, 4, none⟩ = some a4 ∧ w.cell? ⟨U, 5, none⟩ = some a5 ∧ w.cell? ⟨U, 6, none⟩ = some a6 ∧ w.cell? ⟨U, 7, none⟩ = some a7 ∧ w.cell? ⟨U, 8, none⟩ = some a8 ∧ w.cell? ⟨U, 9, none⟩ = some a9 ∧ w.cell? ⟨U, 10, none⟩ = some a10 :=
 ⟨h.cell 0, h.cell 1, h.cell 2, h.cell 3, h.cell 4, h.cell 5, h.cell 6, h.cell 7, h.cell 8, h.cell 9, h.cell 10⟩
theorem cl12 {w : World} {U : Nat} {T : TypeId} {a0 a1 a2 a3 a4 a5 a6 a7 a8 a9 a10 a11 : Value} (h : BxU w U #[a0, a1, a2, a3, a4, a5, a6, a7, a8, a9, a10, a11] T) : w.cell? ⟨U, 0, none⟩ = some a0 ∧ w.cell? ⟨U, 1, none⟩ = some a1 ∧ w.cell? ⟨U, 2, none⟩ = some a2 ∧ w.cell? ⟨U, 3, none⟩ = some a3 ∧ w.cell? ⟨U, 4, none⟩ = some a4 ∧ w.cell? ⟨U, 5, none⟩ = some a5 ∧ w.cell? ⟨U, 6, none⟩ = some a6 ∧ w.cell? ⟨U, 7, none⟩ = some a7 ∧ w.cell? ⟨U, 8, none⟩ = some a8 ∧ w.cell? ⟨U, 9, none⟩ = some a9 ∧ w.cell? ⟨U, 10, none⟩ = some a10 ∧ w.cell? ⟨U, 11, none⟩ = some a11 :=
 ⟨h.cell 0, h.cell 1, h.cell 2, h.cell 3, h.cell 4, h.cell 5, h.cell 6, h.cell 7, h.cell 8, h.cell 9, h.cell 10, h.cell 11⟩
theorem BxU.frozen {w : World} {U : Nat} {cs : Array Value} {T : TypeId} (h : BxU w U cs T) (j : Nat) : w.frozen? ⟨U, j, none⟩ = false := by
 unfold BxU at h
 simp [World.frozen?, h]
theorem BxU.next {w w' : World} {U : Nat} {cs : Array Value} {T : TypeId} (h : BxU w U cs T) (hb : Below w.heap.size w w') : BxU w' U cs T := by
 unfold BxU at h ⊢
 exact (hb.block U (Array.getElem?_eq_some_iff.1 h).1).trans h
theorem BxU.but {m : Nat} {w w' : World} {U : Nat} {cs : Array Value} {T : TypeId} (h : BxU w U cs T) (hm : m < U) (hb : ButM m w w') : BxU w' U cs T := by
 unfold BxU at h ⊢
 exact (hb.block U (Array.getElem?_eq_some_iff.1 h).1 (by omega)).trans h
theorem BxU.lt {w : World} {U : Nat} {cs : Array Value} {T : TypeId} (h : BxU w U cs T) : U < w.heap.size := (Array.getElem?_eq_some_iff.1 (show w.heap[U]? = _ from h)).1
theorem fin_on {m U : Nat} {w Wn W' : World} {s : Pa.Ps} (hO : OnU U Wn W') (hU : w.heap.size ≤ U) (hm : m < U) (hR : RS m Wn s) (hM : ButM m w Wn) : RS m W' s ∧ ButM m w W' := ⟨hO.rs hm hR, hO.but hU hM⟩
abbrev cs4 : Array Value := #[.int .i64 0, .string ⟨#[]⟩, .int .i64 0, .int .i64 0]
theorem field_tokS (k : Int) (b : ByteArray) (n a : Int) (w : World) : (Instr.field 66 (.agg #[.int .i64 k, .string b, .int .i64 n, .int .i64 a]) 1).run Tryz.prog w = .ok (.string b) w := by kernel_rfl
theorem field_tokN (k : Int) (b : ByteArray) (n a : Int) (w : World) : (Instr.field 66 (.agg #[.int .i64 k, .string b, .int .i64 n, .int .i64 a]) 2).run Tryz.prog w = .ok (.int .i64 n) w := by kernel_rfl
def TkE (m : Nat) (w : World) (t : Bool) (s' : Pa.Ps) (e : Ending) (w' : World) : Prop := e = .returned (.bool t) ∧ RS m w' s' ∧ ButM m w w'
set_option maxRecDepth 100000 in
theorem take_any (m : Nat) (s : Pa.Ps) (b : Lx.B) (w : World) (h : RS m w s) :
  Calls Tryz.prog 46 #[.pointer (some ⟨m, 0, none⟩), .string ⟨b.toArray⟩] w (TkE m w (Pa.takeW b s).1 (Pa.takeW b s).2) := by
 have HB := Lib.hid (ba w (.cells #[.string ⟨b.toArray⟩] 9))
 have hg : (w.alloc (.cells #[.string ⟨b.toArray⟩] 9)).cell? ⟨w.heap.size, 0, none⟩ = some (.string ⟨b.toArray⟩) := by rw [World.cell?, (MapKept.heap_alloc w _).1]; rfl
 have HT := Lib.hid (takeIfW_any m s w.heap.size ⟨b.toArray⟩ _ (h.rd.next HB.out) h.fin hg)
 rw [bs_arr] at HT
 have hf := (Pa.takeW_le b h.fin).1.fin
 obtain ⟨t, ht⟩ : ∃ t, (Pa.takeW b s).1 = t := ⟨_, rfl⟩
 obtain ⟨s', hs'⟩ : ∃ s', (Pa.takeW b s).2 = s' := ⟨_, rfl⟩
 rw [ht, hs'] at HT ⊢
 rw [hs'] at hf
 have HH := Lib.hid h
 have HF := Lib.hid hf
 clear h hf ht hs' hg
 go_enter Tryz.func46, Tryz.ntmps46
 go_wp2_with fail
 refine HT.out.mono ?_
 rintro e w' ⟨y, rfl, _, _, hR, hM⟩
 have HE := Lib.hid (show RS m w' s' ∧ ButM m w w' from ⟨⟨hR, HF.out, HH.out.tabs ((ButM.of HB.out).trans hM), HH.out.gm⟩, (ButM.of HB.out).trans hM⟩)
 clear hR hM
 go_wp2_with fail
 exact bodyPost_ret (v := .bool t) (by simp [results, Tryz.results46, go_sem]) rfl ⟨rfl, HE.out.1.next (ba w' _), HE.out.2.trans (ButM.of (ba w' _))⟩
def TkK (m : Nat) (w : World) (t : Bool) (tk : Lx.Tok) (s' : Pa.Ps) (e : Ending) (w' : World) : Prop :=
 ∃ y : TkA, e = .returned (.tuple #[tkv y, .bool t]) ∧ (t = true → y.1 = tk) ∧ (t = false → y = (Pa.noTok, 0)) ∧ RS m w' s' ∧ ButM m w w'
set_option maxRecDepth 100000 in
theorem kind_any (m : Nat) (s : Pa.Ps) (k : Nat) (hk : k ≠ 6) (w : World) (h : RS m w s) :
  Calls Tryz.prog 85 #[.pointer (some ⟨m, 0, none⟩), .int .i64 k] w (TkK m w (Pa.takeK k s).1.isSome s.tk (Pa.takeK k s).2) := by
 have hb0 := ba w (.cells #[.int .i64 k] 3)
 have hb1 := ba (w.alloc (.cells #[.int .i64 k] 3)) (.cells cs4 66)
 have HB := Lib.hid (bt hb0 hb1)
 have hg : (w.alloc (.cells #[.int .i64 k] 3)).cell? ⟨w.heap.size, 0, none⟩ = some (.int .i64 k) := by rw [World.cell?, (MapKept.heap_alloc w _).1]; rfl
 have hU : BxU ((w.alloc (.cells #[.int .i64 k] 3)).alloc (.cells cs4 66)) (w.heap.size + 1) cs4 66 := by
  have := (MapKept.heap_alloc (w.alloc (.cells #[.int .i64 k] 3)) (.cells cs4 66)).1
  rw [World.size_alloc] at this
  exact this
 have HU := Lib.hid hU
 have HT := Lib.hid (takeIfK_any m s w.heap.size k hk _ (h.rd.next HB.out) h.fin (cell_kept hb1 hg))
 have hf := (Pa.takeK_le hk h.fin).1.fin
 have hmU : m < w.heap.size + 1 := Nat.lt_succ_of_lt h.lt
 obtain ⟨t, ht⟩ : ∃ t, (Pa.takeK k s).1.isSome = t := ⟨_, rfl⟩
 obtain ⟨s', hs'⟩ : ∃ s', (Pa.takeK k s).2 = s' := ⟨_, rfl⟩
 obtain ⟨tk, htk⟩ : ∃ tk, s.tk = tk := ⟨_, rfl⟩
 rw [ht, hs', htk] at HT ⊢
 rw [hs'] at hf
 have HH := Lib.hid h
 have HF := Lib.hid hf
 have HmU := Lib.hid hmU
 clear h hf ht hs' hg htk hb0 hb1 hU hmU
 go_enter Tryz.func85, Tryz.ntmps85
 go_wp2_with fail
 refine HT.out.mono ?_
 rintro e w' ⟨y, rfl, h1, h2, hR, hM⟩
 have hU' := HU.out.but HmU.out hM
 have c0 : w'.cell? ⟨w.heap.size + 1, 0, none⟩ = some (.int .i64 0) := hU'.cell 0
 have c1 : w'.cell? ⟨w.heap.size + 1, 1, none⟩ = some (.string ⟨#[]⟩) := hU'.cell 1
 have c2 : w'.cell? ⟨w.heap.size + 1, 2, none⟩ = some (.int .i64 0) := hU'.cell 2
 have c3 : w'.cell? ⟨w.heap.size + 1, 3, none⟩ = some (.int .i64 0) := hU'.cell 3
 have f0 := hU'.frozen 0
 have f1 := hU'.frozen 1
 have f2 := hU'.frozen 2
 have f3 := hU'.frozen 3
 have HM := Lib.hid ((ButM.of HB.out).trans hM)
 have HR := Lib.hid (show RS m w' s' from ⟨hR, HF.out, HH.out.tabs HM.out, HH.out.gm⟩)
 have HE := Lib.hid (And.intro h1 h2)
 clear hR hM h1 h2 hU'
 go_wp2_with fail
 exact bodyPost_ret (v := .tuple #[tkv y, .bool t]) (by simp [results, Tryz.results85, go_sem, c0, c1, c2, c3]) rfl ⟨y, rfl, HE.out.1, HE.out.2, fin_on (OnU.refl _ _).set.set.set.set (Nat.le_succ _) HmU.out HR.out HM.out⟩
def MuE (m : Nat) (w : World) (s' : Pa.Ps) (e : Ending) (w' : World) : Prop := e = .returned (.tuple #[]) ∧ RS m w' s' ∧ ButM m w w'
set_option maxRecDepth 100000 in
theorem must_any (m : Nat) (s : Pa.Ps) (b : Lx.B) (w : World) (h : RS m w s) :
  Calls Tryz.prog 76 #[.pointer (some ⟨m, 0, none⟩), .string ⟨b.toArray⟩] w (MuE m w (Pa.mustW b s)) := by
 have HT := Lib.hid (take_any m s b w h)
 have hno := (Pa.takeW_le b h.fin).2.2
 have hE : Pa.mustW b s = if (Pa.takeW b s).1 then (Pa.takeW b s).2 else ⟨s.ts, true⟩ := rfl
 rw [hE]
 obtain ⟨t, ht⟩ : ∃ t, (Pa.takeW b s).1 = t := ⟨_, rfl⟩
 obtain ⟨s', hs'⟩ : ∃ s', (Pa.takeW b s).2 = s' := ⟨_, rfl⟩
 rw [ht, hs'] at HT hno ⊢
 clear hE ht hs' h
 cases t with
 | true =>
  rw [if_pos rfl]
  clear hno
  go_enter Tryz.func76, Tryz.ntmps76
  go_wp2_with fail
  refine HT.out.mono ?_
  rintro e w' ⟨rfl, hR, hM⟩
  have HE := Lib.hid (And.intro hR hM)
  clear hR hM
  go_wp2_with fail
  exact bodyPost_ret (v := .tuple #[]) (by simp [results, Tryz.results76, go_sem]) rfl ⟨rfl, HE.out.1, HE.out.2⟩
 | false =>
  rw [if_neg (by simp)]
  obtain rfl := hno rfl
  clear hno
  go_enter Tryz.func76, Tryz.ntmps76
  go_wp2_with fail
  refine HT.out.mono ?_
  rintro e w' ⟨rfl, hR, hM⟩
  have HE := Lib.hid (show RS m (w'.setCell ⟨m, 1, none⟩ (.bool true)) ⟨s'.ts, true⟩ ∧ ButM m w (w'.setCell ⟨m, 1, none⟩ (.bool true)) from ⟨hR.stuck.1, hM.trans hR.stuck.2⟩)
  have c1 := hR.c1
  have f1 := hR.frozen 1
  clear hR hM
  go_wp2_with fail
  exact bodyPost_ret (v := .tuple #[]) (by simp [results, Tryz.results76, go_sem]) rfl ⟨rfl, HE.out.1, HE.out.2⟩
set_option maxRecDepth 100000 in
theorem mustK_any (m : Nat) (s : Pa.Ps) (k : Nat) (hk : k ≠ 6) (w : World) (h : RS m w s) :
  Calls Tryz.prog 47 #[.pointer (some ⟨m, 0, none⟩), .int .i64 k] w fun e w' => (∃ y : TkA, e = .returned (tkv y) ∧ y.1 = (Pa.mustK k s).1) ∧ RS m w' (Pa.mustK k s).2 ∧ ButM m w w' := by
 have HB := Lib.hid (ba w (.cells cs4 66))
 have HU := Lib.hid (show BxU _ _ cs4 66 from (MapKept.heap_alloc w (.cells cs4 66)).1)
 have HT := Lib.hid (kind_any m s k hk _ (h.next HB.out))
 have HmU := Lib.hid h.lt
 obtain ⟨_, hyes, hno⟩ := Pa.takeK_le hk h.fin
 have hE : (∃ t0, (Pa.takeK k s).1 = some t0 ∧ s.tk = t0 ∧ Pa.mustK k s = (t0, (Pa.takeK k s).2)) ∨ ((Pa.takeK k s).1 = none ∧ (Pa.takeK k s).2 = s ∧ Pa.mustK k s = (Pa.noTok, ⟨s.ts, true⟩)) := by
  unfold Pa.mustK
  generalize Pa.takeK k s = q at hyes hno
  obtain ⟨q1, q2⟩ := q
  cases q1 with
  | some t0 => exact .inl ⟨t0, rfl, (hyes t0 rfl).2.1.symm, rfl⟩
  | none => obtain rfl := hno rfl; exact .inr ⟨rfl, rfl, rfl⟩
 clear hyes hno h
 rcases hE with ⟨t0, hE1, hE2, hE3⟩ | ⟨hE1, hE2, hE3⟩
 ·rw [hE3]
  rw [hE1, hE2] at HT
  simp only [Option.isSome_some] at HT
  obtain ⟨s', hs'⟩ : ∃ s', (Pa.takeK k s).2 = s' := ⟨_, rfl⟩
  rw [hs'] at HT ⊢
  clear hE1 hE2 hE3 hs'
  go_enter Tryz.func47, Tryz.ntmps47
  go_wp2_with fail
  refine HT.out.mono ?_
  rintro e w' ⟨y, rfl, h1, _, hR, hM⟩
  have HE := Lib.hid (h1 rfl)
  have hU' := HU.out.but HmU.out hM
  have HM := Lib.hid ((ButM.of HB.out).trans hM)
  have HR := Lib.hid hR
  have hbv := ba w' (.cells #[.int .i64 y.1.k, .string ⟨y.1.s.toArray⟩, .int .i64 y.1.n, .int .i64 y.2] 66)
  have hU2 := hU'.next hbv
  have c0 : (w'.alloc (.cells #[.int .i64 y.1.k, .string ⟨y.1.s.toArray⟩, .int .i64 y.1.n, .int .i64 y.2] 66)).cell? ⟨w.heap.size, 0, none⟩ = some (.int .i64 0) := hU2.cell 0
  have c1 : (w'.alloc (.cells #[.int .i64 y.1.k, .string ⟨y.1.s.toArray⟩, .int .i64 y.1.n, .int .i64 y.2] 66)).cell? ⟨w.heap.size, 1, none⟩ = some (.string ⟨#[]⟩) := hU2.cell 1
  have c2 : (w'.alloc (.cells #[.int .i64 y.1.k, .string ⟨y.1.s.toArray⟩, .int .i64 y.1.n, .int .i64 y.2] 66)).cell? ⟨w.heap.size, 2, none⟩ = some (.int .i64 0) := hU2.cell 2
  have c3 : (w'.alloc (.cells #[.int .i64 y.1.k, .string ⟨y.1.s.toArray⟩, .int .i64 y.1.n, .int .i64 y.2] 66)).cell? ⟨w.heap.size, 3, none⟩ = some (.int .i64 0) := hU2.cell 3
  have f0 := hU2.frozen 0
  have f1 := hU2.frozen 1
  have f2 := hU2.frozen 2
  have f3 := hU2.frozen 3
  have HR2 := Lib.hid (hR.next hbv)
  have HM2 := Lib.hid (HM.out.trans (ButM.of hbv))
  clear hR hM h1 hU' hU2 hbv
  go_wp2_with fail
  exact bodyPost_ret (v := tkv y) (by simp [results, Tryz.results47, go_sem, c0, c1, c2, c3]) rfl ⟨⟨y, rfl, HE.out⟩, fin_on (OnU.refl _ _).set.set.set.set (Nat.le_refl _) HmU.out HR2.out HM2.out⟩
 ·rw [hE3]
  rw [hE1, hE2] at HT
  simp only [Option.isSome_none] at HT
  obtain ⟨tk, htk⟩ : ∃ tk, s.tk = tk := ⟨_, rfl⟩
  rw [htk] at HT
  clear hE1 hE2 hE3 htk
  go_enter Tryz.func47, Tryz.ntmps47
  go_wp2_with fail
  refine HT.out.mono ?_
  rintro e w' ⟨y, rfl, _, h2, hR, hM⟩
  have HY := Lib.hid (h2 rfl)
  have hU' := HU.out.but HmU.out hM
  have HM := Lib.hid ((ButM.of HB.out).trans hM)
  have HR := Lib.hid hR
  have hbv := ba w' (.cells #[.int .i64 y.1.k, .string ⟨y.1.s.toArray⟩, .int .i64 y.1.n, .int .i64 y.2] 66)
  have hU2 := hU'.next hbv
  have c0 : (w'.alloc (.cells #[.int .i64 y.1.k, .string ⟨y.1.s.toArray⟩, .int .i64 y.1.n, .int .i64 y.2] 66)).cell? ⟨w.heap.size, 0, none⟩ = some (.int .i64 0) := hU2.cell 0
  have c1 : (w'.alloc (.cells #[.int .i64 y.1.k, .string ⟨y.1.s.toArray⟩, .int .i64 y.1.n, .int .i64 y.2] 66)).cell? ⟨w.heap.size, 1, none⟩ = some (.string ⟨#[]⟩) := hU2.cell 1
  have c2 : (w'.alloc (.cells #[.int .i64 y.1.k, .string ⟨y.1.s.toArray⟩, .int .i64 y.1.n, .int .i64 y.2] 66)).cell? ⟨w.heap.size, 2, none⟩ = some (.int .i64 0) := hU2.cell 2
  have c3 : (w'.alloc (.cells #[.int .i64 y.1.k, .string ⟨y.1.s.toArray⟩, .int .i64 y.1.n, .int .i64 y.2] 66)).cell? ⟨w.heap.size, 3, none⟩ = some (.int .i64 0) := hU2.cell 3
  have f0 := hU2.frozen 0
  have f1 := hU2.frozen 1
  have f2 := hU2.frozen 2
  have f3 := hU2.frozen 3
  have HR2 := Lib.hid (hR.next hbv)
  have HM2 := Lib.hid (HM.out.trans (ButM.of hbv))
  have b1 := HR2.out.c1
  have g1 := HR2.out.frozen 1
  have hmne : m ≠ w.heap.size := Nat.ne_of_lt HmU.out
  have hmne2 : m ≠ w'.heap.size := Nat.ne_of_lt HR.out.lt
  have hmne3 := hmne.symm
  have hmne4 := hmne2.symm
  have HS := Lib.hid (And.intro HR2.out.stuck.1 (HM2.out.trans HR2.out.stuck.2))
  clear hR hM h2 hU' hU2 hbv
  go_wp2_with fail
  exact bodyPost_ret (v := tkv y) (by simp [results, Tryz.results47, go_sem, c0, c1, c2, c3]) rfl ⟨⟨y, rfl, by rw [HY.out]⟩, fin_on (OnU.refl _ _).set.set.set.set (Nat.le_refl _) HmU.out HS.out.1 HS.out.2⟩
set_option maxRecDepth 100000 in
theorem pname_any (m : Nat) (s : Pa.Ps) (w : World) (h : RS m w s) :
  Calls Tryz.prog 82 #[.pointer (some ⟨m, 0, none⟩)] w fun e w' => e = .returned (.string ⟨(Pa.nameP s).1.toArray⟩) ∧ RS m w' (Pa.nameP s).2 ∧ ButM m w w' := by
 have HT := Lib.hid (mustK_any m s 1 (by decide) w h)
 have hE : Pa.nameP s = ((Pa.mustK 1 s).1.s, (Pa.mustK 1 s).2) := rfl
 rw [hE]
 obtain ⟨t, ht⟩ : ∃ t, (Pa.mustK 1 s).1 = t := ⟨_, rfl⟩
 obtain ⟨s', hs'⟩ : ∃ s', (Pa.mustK 1 s).2 = s' := ⟨_, rfl⟩
 rw [ht, hs'] at HT ⊢
 clear hE ht hs' h
 go_enter Tryz.func82, Tryz.ntmps82
 go_wp2_with fail
 refine HT.out.mono ?_
 rintro e w' ⟨⟨y, rfl, rfl⟩, hR, hM⟩
 have HE := Lib.hid (And.intro hR hM)
 have hfd := field_tokS y.1.k ⟨y.1.s.toArray⟩ y.1.n y.2 w'
 clear hR hM
 go_wp2_with fail
 exact bodyPost_ret (v := .string ⟨y.1.s.toArray⟩) (by simp [results, Tryz.results82, go_sem]) rfl ⟨rfl, HE.out.1, HE.out.2⟩
end Go.Proofs.YtfjimoccliejdaaGreatDoor
end
section
namespace Go.Proofs.YtfjimoccliejdaaGreatDoor
open Go.RowKit Go.Shelf

abbrev Lay (α : Type) := (Nat → Prop) → World → α → List Value → Prop
structure LayOk {α : Type} (P : Lay α) (sz : Nat) : Prop where
 go : ∀ {B B' : Nat → Prop} {w w' : World} {x : α} {c : List Value}, (∀ k, B k → w'.heap[k]? = w.heap[k]?) → (∀ k, B k → B' k) → P B w x c → P B' w' x c
 len : ∀ {B : Nat → Prop} {w : World} {x : α} {c : List Value}, P B w x c → c.length = sz
 one : ∀ {B : Nat → Prop} {w : World} {x : α} {c : List Value}, P B w x c → ∀ u ∈ c, u.oneCell' = true
inductive Alls {α : Type} (R : α → List Value → Prop) : List α → List (List Value) → Prop
 | nil : Alls R [] []
 | cons {x c l q} : R x c → Alls R l q → Alls R (x :: l) (c :: q)
theorem Alls.imp {α : Type} {R R' : α → List Value → Prop} (hR : ∀ x c, R x c → R' x c) {l : List α} {q : List (List Value)} (h : Alls R l q) : Alls R' l q := by
 induction h with
 | nil => exact .nil
 | cons h1 _ ih => exact .cons (hR _ _ h1) ih
theorem Alls.snoc {α : Type} {R : α → List Value → Prop} {l : List α} {q : List (List Value)} (h : Alls R l q) {x : α} {c : List Value} (hx : R x c) : Alls R (l ++ [x]) (q ++ [c]) := by
 induction h with
 | nil => exact .cons hx .nil
 | cons h1 _ ih => exact .cons h1 ih
theorem Alls.len {α : Type} {R : α → List Value → Prop} {sz : Nat} (hR : ∀ x c, R x c → c.length = sz) {l : List α} {q : List (List Value)} (h : Alls R l q) : q.flatten.length = l.length * sz := by
 induction h with
 | nil => simp
 | cons h1 _ ih => rw [List.flatten_cons, List.length_append, ih, hR _ _ h1, List.length_cons, Nat.succ_mul]; omega
theorem Alls.at {α : Type} {R : α → List Value → Prop} {sz : Nat} (hR : ∀ x c, R x c → c.length = sz) : ∀ {l : List α} {q : List (List Value)}, Alls R l q → ∀ {i : Nat} {x : α}, l[i]? = some x → ∃ c, R x c ∧ ∀ j u, c[j]? = some u → q.flatten[i * sz + j]? = some u
 | _, _, .nil, i, x, hi => by simp at hi
 | _, _, .cons (c := c) (q := q) h1 h2, 0, x, hi => by
  simp only [List.getElem?_cons_zero, Option.some.injEq] at hi
  subst hi
  refine ⟨c, h1, fun j u hj => ?_⟩
  rw [Nat.zero_mul, Nat.zero_add, List.flatten_cons, List.getElem?_append_left (List.getElem?_eq_some_iff.1 hj).1]
  exact hj
 | _, _, .cons (c := c) (q := q) h1 h2, i + 1, x, hi => by
  obtain ⟨d, hd, hc⟩ := Alls.at hR h2 (i := i) (by simpa using hi)
  refine ⟨d, hd, fun j u hj => ?_⟩
  have hl := hR _ _ h1
  rw [List.flatten_cons, List.getElem?_append_right (by rw [hl, Nat.succ_mul]; omega), hl, show (i + 1) * sz + j - sz = i * sz + j by rw [Nat.succ_mul]; omega]
  exact hc j u hj
def Ls {α : Type} (P : Lay α) (B : Nat → Prop) (w : World) (l : List α) (A : Option Addr) : Prop :=
 ∃ q, Alls (P B w) l q ∧ (l = [] ∨ ∃ g o, A = some ⟨g, o, none⟩ ∧ B g ∧ ∀ j u, q.flatten[j]? = some u → w.cell? ⟨g, o + j, none⟩ = some u)
theorem Ls.nil {α : Type} (P : Lay α) (B : Nat → Prop) (w : World) (A : Option Addr) : Ls P B w ([] : List α) A := ⟨[], .nil, .inl rfl⟩
theorem Ls.go {α : Type} {P : Lay α} {sz : Nat} (ok : LayOk P sz) {B B' : Nat → Prop} {w w' : World} (hb : ∀ k, B k → w'.heap[k]? = w.heap[k]?) (hB : ∀ k, B k → B' k) {l : List α} {A : Option Addr} (h : Ls P B w l A) : Ls P B' w' l A := by
 obtain ⟨q, h1, h2⟩ := h
 refine ⟨q, h1.imp fun x c hx => ok.go hb hB hx, ?_⟩
 rcases h2 with h2 | ⟨g, o, hA, hg, h2⟩
 ·exact .inl h2
 ·exact .inr ⟨g, o, hA, hB g hg, fun j u hj => (World.cell?_of_block (hb g hg)).trans (h2 j u hj)⟩
theorem Ls.at {α : Type} {P : Lay α} {sz : Nat} (ok : LayOk P sz) {B : Nat → Prop} {w : World} {l : List α} {A : Option Addr} (h : Ls P B w l A) {i : Nat} {x : α} (hi : l[i]? = some x) :
  ∃ g o c, A = some ⟨g, o, none⟩ ∧ B g ∧ P B w x c ∧ ∀ j u, c[j]? = some u → w.cell? ⟨g, o + i * sz + j, none⟩ = some u := by
 obtain ⟨q, h1, h2⟩ := h
 rcases h2 with rfl | ⟨g, o, hA, hg, h2⟩
 ·simp at hi
 ·obtain ⟨c, hc, hj⟩ := h1.at (fun x c hx => ok.len hx) hi
  exact ⟨g, o, c, hA, hg, hc, fun j u hu => by rw [Nat.add_assoc]; exact h2 _ _ (hj j u hu)⟩
theorem Ls.tail {α : Type} {P : Lay α} {sz : Nat} (ok : LayOk P sz) {B : Nat → Prop} {w : World} {x : α} {l : List α} {g o : Nat} (h : Ls P B w (x :: l) (some ⟨g, o, none⟩)) : Ls P B w l (some ⟨g, o + sz, none⟩) := by
 obtain ⟨q, h1, h2⟩ := h
 cases h1 with
 | @cons _ c _ q hx hq =>
  rcases h2 with h2 | ⟨g', o', hA, hg, h2⟩
  ·cases h2
  ·simp only [Option.some.injEq, Addr.mk.injEq] at hA
   obtain ⟨rfl, rfl, _⟩ := hA
   refine ⟨q, hq, .inr ⟨g, o + sz, rfl, hg, fun j u hj => ?_⟩⟩
   have := h2 (sz + j) u (by rw [List.flatten_cons, List.getElem?_append_right (by rw [ok.len hx]; omega), ok.len hx, Nat.add_sub_cancel_left]; exact hj)
   rwa [← Nat.add_assoc] at this
def Ow {α : Type} (P : Lay α) (ty : TypeId) (sz base : Nat) (W : World) (v : Value) (l : List α) : Prop :=
 base ≤ W.heap.size ∧ ∃ q, Alls (P (Ot base W v) W) l q ∧ W.ownsRow base ty sz v l.length q.flatten
section
variable {α : Type} {P : Lay α} {ty : TypeId} {sz base : Nat} {W W' : World} {v v' : Value} {l : List α}
theorem Ow.nil (hb : base ≤ W.heap.size) : Ow P ty sz base W (.slice none 0 0) ([] : List α) := ⟨hb, [], .nil, World.ownsRow_nil _ _ _ _⟩
theorem Ow.slice (h : Ow P ty sz base W v l) : ∃ A cap, v = .slice A l.length cap ∧ l.length ≤ cap := by
 obtain ⟨_, q, _, ho⟩ := h
 rcases ho.2 with ⟨rfl, h0⟩ | ⟨g, cap, cur, hv, _, _, hc, _⟩
 ·exact ⟨none, 0, by rw [h0], by omega⟩
 ·exact ⟨_, cap, hv, hc⟩
theorem Ow.go (ok : LayOk P sz) (h : Ow P ty sz base W v l) (hb : ∀ k, base ≤ k → k < W.heap.size → W'.heap[k]? = W.heap[k]?) (hs : W.heap.size ≤ W'.heap.size) : Ow P ty sz base W' v l := by
 obtain ⟨h0, q, h1, ho⟩ := h
 refine ⟨Nat.le_trans h0 hs, q, h1.imp fun x c hx => ok.go (fun k hk => hb k hk.1 hk.2.1) (fun k hk => ⟨hk.1, Nat.lt_of_lt_of_le hk.2.1 hs, hk.2.2⟩) hx, ho.1, ?_⟩
 rcases ho.2 with hn | ⟨g, cap, cur, hv, hb1, hg, hc, hm, hsz, ht⟩
 ·exact .inl hn
 ·have hgl : g < W.heap.size := by
   rcases Nat.lt_or_ge g W.heap.size with h | h
   ·exact h
   ·rw [Array.getElem?_eq_none h] at hg; cases hg
  exact .inr ⟨g, cap, cur, hv, hb1, (hb g hb1 hgl).trans hg, hc, hm, hsz, ht⟩
theorem Ow.below (ok : LayOk P sz) (h : Ow P ty sz base W v l) (hb : Below W.heap.size W W') : Ow P ty sz base W' v l :=
 h.go ok (fun k _ hk => hb.block k hk) hb.size
theorem Ow.read (ok : LayOk P sz) (h : Ow P ty sz base W v l) : ∃ A cap, v = .slice A l.length cap ∧ l.length ≤ cap ∧ Ls P (Bn base W) W l A := by
 obtain ⟨_, q, h1, ho⟩ := h
 have h1' := h1.imp (R' := P (Bn base W) W) fun x c hx => ok.go (fun _ _ => rfl) (fun k hk => ⟨hk.1, hk.2.1⟩) hx
 have hlen := h1.len (sz := sz) fun x c hx => ok.len hx
 rcases ho.2 with ⟨rfl, h0⟩ | ⟨g, cap, cur, hv, hb1, hg, hc, hm, hsz, ht⟩
 ·obtain rfl : l = [] := List.eq_nil_of_length_eq_zero h0
  exact ⟨none, 0, rfl, Nat.le_refl _, Ls.nil _ _ _ _⟩
 ·have hgl : g < W.heap.size := by
   rcases Nat.lt_or_ge g W.heap.size with h | h
   ·exact h
   ·rw [Array.getElem?_eq_none h] at hg; cases hg
  refine ⟨_, cap, hv, hc, q, h1', .inr ⟨g, 0, rfl, ⟨hb1, hgl⟩, fun j u hj => ?_⟩⟩
  have hjl := (List.getElem?_eq_some_iff.1 hj).1
  rw [hlen] at hjl
  have e : cur.toList[j]? = q.flatten[j]? := by rw [← ht, List.getElem?_take_of_lt hjl]
  rw [Nat.zero_add]
  simp only [World.cell?, hg]
  rw [← Array.getElem?_toList, e, hj]
  simp
theorem Ow.made (ok : LayOk P sz) {x : α} {c : List Value} (hx : P (Bn base W) W x c) (hb : base ≤ W.heap.size) : Ow P ty sz base (W.alloc (.cells c.toArray ty)) (.slice (some ⟨W.heap.size, 0, none⟩) 1 1) [x] := by
 have hk := (ba W (.cells c.toArray ty))
 have hg := (MapKept.heap_alloc W (.cells c.toArray ty)).1
 refine ⟨Nat.le_trans hb hk.size, [c], .cons (ok.go (fun k hk' => hk.block k hk'.2) (fun k hk' => ⟨hk'.1, by have := hk'.2; have := hk.size; omega, fun e => ?_⟩) hx) .nil, ?_, .inr ⟨W.heap.size, 1, c.toArray, rfl, hb, hg, Nat.le_refl _, by decide, ?_, ?_⟩⟩
 ·have := hk'.2; simp [Value.ownBlock] at e; omega
 ·simp [ok.len hx]
 ·simp [ok.len hx]
 ·have := ok.len hx
  simp only [List.flatten_cons, List.flatten_nil, List.append_nil]
  exact List.take_of_length_le (by rw [this]; simp)
theorem Ow.grow (ok : LayOk P sz) (h : Ow P ty sz base W v l) {q : List (List Value)} (hq : Alls (P (Ot base W v) W) l q) {x : α} {c : List Value} (hx : P (Ot base W v) W x c)
  {o : Obj} (ho : W'.ownsRow base ty sz v' (l.length + 1) (q.flatten ++ c)) (hg : (W.alloc o).grownBy W' v.ownBlock) (hat : v'.ownBlock = v.ownBlock ∨ v'.ownBlock = some (W.alloc o).heap.size) : Ow P ty sz base W' v' (l ++ [x]) := by
 have hle := h.1
 have hs := hg.size
 rw [World.size_alloc] at hs hat
 have hb : ∀ k, Ot base W v k → W'.heap[k]? = W.heap[k]? := fun k hk => (hg.block k (by rw [World.size_alloc]; have := hk.2.1; omega) (fun e => hk.2.2 e.symm)).trans ((ba W o).block k hk.2.1)
 have hB : ∀ k, Ot base W v k → Ot base W' v' k := fun k hk => ⟨hk.1, by have := hk.2.1; omega, fun e => by
  rcases hat with h1 | h1
  ·exact hk.2.2 (h1.symm.trans e)
  ·rw [h1] at e; have := hk.2.1; simp at e; omega⟩
 refine ⟨by omega, q ++ [c], (hq.imp fun y d hy => ok.go hb hB hy).snoc (ok.go hb hB hx), ?_⟩
 rw [List.flatten_append, List.length_append]
 simpa using ho
theorem Ow.apart {W0 : World} (h : Ow P ty sz base W0 v l) {k : Nat} (hk : Bn W0.heap.size W k) : Ot base W v k := by
 obtain ⟨h0, q, _, ho⟩ := h
 refine ⟨Nat.le_trans h0 hk.1, hk.2, fun e => ?_⟩
 have := (ho.lt k e).2
 have := hk.1
 omega
end
theorem news_of (w : World) (c : List Value) (ty : TypeId) (j : Nat) (u : Value) (h : c[j]? = some u) : (w.alloc (.cells c.toArray ty)).cell? ((⟨w.heap.size, 0, none⟩ : Addr).add j) = some u := by
 have e2 : (⟨w.heap.size, 0, none⟩ : Addr).add j = ⟨w.heap.size, j, none⟩ := by simp only [Addr.add]; split <;> simp_all
 have hn := (MapKept.heap_alloc w (.cells c.toArray ty)).1
 rw [e2]
 unfold World.cell?
 rw [hn]
 simp [h]
end Go.Proofs.YtfjimoccliejdaaGreatDoor
end
section
namespace Go.Proofs.YtfjimoccliejdaaGreatDoor
open Go.RowKit Go.Shelf

def exC : Lay Ex := fun B w e c => ∃ x : XQ, c = xcell x ∧ XR B w e x
theorem exC_ok : LayOk exC 8 :=
 ⟨fun hb hB ⟨x, hc, hx⟩ => ⟨x, hc, hx.go hb hB⟩, fun ⟨x, hc, _⟩ => by rw [hc]; rfl, fun ⟨x, hc, _⟩ => by rw [hc]; exact xcell_one x⟩
abbrev st (b : Lx.B) : Value := .string ⟨b.toArray⟩
def itC : Lay Pa.Itm := fun B w i c => ∃ x : XQ, c = .bool i.star :: (xcell x ++ [st i.nm]) ∧ XR B w i.e x
theorem itC_ok : LayOk itC 10 :=
 ⟨fun hb hB ⟨x, hc, hx⟩ => ⟨x, hc, hx.go hb hB⟩, fun ⟨x, hc, _⟩ => by rw [hc]; rfl, fun ⟨x, hc, _⟩ => by
  rw [hc]
  intro u hu
  rcases List.mem_cons.1 hu with rfl | hu
  ·rfl
  ·rcases List.mem_append.1 hu with hu | hu
   ·exact xcell_one x u hu
   ·obtain rfl := List.mem_singleton.1 hu; rfl⟩
def srC : Lay Pa.Src := fun B w s c => ∃ x : XQ, c = st s.tb :: st s.nm :: .int .i64 s.join :: xcell x ∧ XR B w s.on x
theorem srC_ok : LayOk srC 11 :=
 ⟨fun hb hB ⟨x, hc, hx⟩ => ⟨x, hc, hx.go hb hB⟩, fun ⟨x, hc, _⟩ => by rw [hc]; rfl, fun ⟨x, hc, _⟩ => by
  rw [hc]
  intro u hu
  rcases List.mem_cons.1 hu with rfl | hu
  ·rfl
  rcases List.mem_cons.1 hu with rfl | hu
  ·rfl
  rcases List.mem_cons.1 hu with rfl | hu
  ·rfl
  exact xcell_one x u hu⟩
def kyC : Lay Pa.Ky := fun _ _ k c => c = [st k.nm, .bool k.down]
theorem kyC_ok : LayOk kyC 2 :=
 ⟨fun _ _ hc => hc, fun hc => by rw [hc]; rfl, fun hc => by
  rw [hc]
  intro u hu
  simp at hu
  rcases hu with rfl | rfl <;> rfl⟩
theorem Ls.xsB {B : Nat → Prop} {w : World} : ∀ {l : List Ex} {A : Option Addr}, Ls exC B w l A → XsB B w l A
 | [], _, _ => by rw [XsB]; trivial
 | .mk h l :: r, A, H => by
  obtain ⟨g, o, c, rfl, hg, ⟨x, rfl, e1, e2, e3, e4⟩, hc⟩ := H.at exC_ok (i := 0) (x := .mk h l) rfl
  rw [XsB]
  refine ⟨g, o, rfl, hg, ⟨x.2.1, x.2.2.2, ?_, e3, e4⟩, Ls.xsB (H.tail exC_ok)⟩
  simp only [Nat.zero_mul, Nat.add_zero] at hc
  simp only [Ex.hd, Ex.kids] at e1 e2
  rw [← e2, ← e1]
  exact ⟨hc 0 _ rfl, hc 1 _ rfl, hc 2 _ rfl, hc 3 _ rfl, hc 4 _ rfl, hc 5 _ rfl, hc 6 _ rfl, hc 7 _ rfl⟩
def slC : Lay Pa.Sel := fun B w s c => ∃ (iA fA gA : Option Addr) (ic fc gc : Nat) (x : XQ),
 c = .bool s.dist :: .slice iA s.its.length ic :: .slice fA s.frs.length fc :: (xcell x ++ [.slice gA s.grp.length gc]) ∧
 (s.its.length ≤ ic ∧ s.frs.length ≤ fc ∧ s.grp.length ≤ gc) ∧ Ls itC B w s.its iA ∧ Ls srC B w s.frs fA ∧ XR B w s.wh x ∧ XsB B w s.grp gA
theorem slC_ok : LayOk slC 12 :=
 ⟨fun hb hB ⟨iA, fA, gA, ic, fc, gc, x, hc, hl, h1, h2, h3, h4⟩ => ⟨iA, fA, gA, ic, fc, gc, x, hc, hl, h1.go itC_ok hb hB, h2.go srC_ok hb hB, h3.go hb hB, XsB.go hb hB _ _ h4⟩,
  fun ⟨iA, fA, gA, ic, fc, gc, x, hc, _⟩ => by rw [hc]; rfl, fun ⟨iA, fA, gA, ic, fc, gc, x, hc, _⟩ => by
  rw [hc]
  intro u hu
  rcases List.mem_cons.1 hu with rfl | hu
  ·rfl
  rcases List.mem_cons.1 hu with rfl | hu
  ·rfl
  rcases List.mem_cons.1 hu with rfl | hu
  ·rfl
  rcases List.mem_append.1 hu with hu | hu
  ·exact xcell_one x u hu
  ·obtain rfl := List.mem_singleton.1 hu; rfl⟩
def quC : Lay Pa.Qu := fun B w q c => ∃ (pA oA : Option Addr) (pc oc : Nat), c = [.slice pA q.parts.length pc, .slice oA q.order.length oc, .int .i64 q.lim] ∧
 (q.parts.length ≤ pc ∧ q.order.length ≤ oc) ∧ Ls slC B w q.parts pA ∧ Ls kyC B w q.order oA
theorem quC_go {B B' : Nat → Prop} {w w' : World} {x : Pa.Qu} {c : List Value} (hb : ∀ k, B k → w'.heap[k]? = w.heap[k]?) (hB : ∀ k, B k → B' k) (h : quC B w x c) : quC B' w' x c := by
 obtain ⟨pA, oA, pc, oc, hc, hl, h1, h2⟩ := h
 exact ⟨pA, oA, pc, oc, hc, hl, h1.go slC_ok hb hB, h2.go kyC_ok hb hB⟩
def RuE {α : Type} (P : Lay α) (m : Nat) (w : World) (x : α) (s' : Pa.Ps) (e : Ending) (w' : World) : Prop :=
 ∃ c, e = .returned (.agg c.toArray) ∧ P (Bn w.heap.size w') w' x c ∧ RS m w' s' ∧ ButM m w w'
theorem LayOk.but {α : Type} {P : Lay α} {sz : Nat} (ok : LayOk P sz) {m b : Nat} {w w' : World} {x : α} {c : List Value} (hm : m < b) (hb : ButM m w w') (h : P (Bn b w) w x c) : P (Bn b w') w' x c :=
 ok.go (fun k hk => hb.block k hk.2 (by have := hk.1; omega)) (fun _ hk => ⟨hk.1, Nat.lt_of_lt_of_le hk.2 hb.size⟩) h
theorem LayOk.low {α : Type} {P : Lay α} {sz : Nat} (ok : LayOk P sz) {b b' : Nat} {w : World} {x : α} {c : List Value} (hm : b' ≤ b) (h : P (Bn b w) w x c) : P (Bn b' w) w x c :=
 ok.go (fun _ _ => rfl) (fun _ hk => ⟨Nat.le_trans hm hk.1, hk.2⟩) h
theorem LayOk.nxt {α : Type} {P : Lay α} {sz : Nat} (ok : LayOk P sz) {b : Nat} {w w' : World} {x : α} {c : List Value} (hb : Below w.heap.size w w') (h : P (Bn b w) w x c) : P (Bn b w') w' x c :=
 ok.go (fun _ hk => hb.block _ hk.2) (fun _ hk => ⟨hk.1, Nat.lt_of_lt_of_le hk.2 hb.size⟩) h
theorem exC_leaf (B : Nat → Prop) (w : World) (h : Hd) : exC B w (.mk h []) (xcell (h, none, 0, 0)) := ⟨_, rfl, rfl, rfl, Nat.le_refl _, by show XsB B w [] none; rw [XsB]; trivial⟩
end Go.Proofs.YtfjimoccliejdaaGreatDoor
end
section
namespace Go.Proofs.YtfjimoccliejdaaGreatDoor
open Go.RowKit Go.Shelf

abbrev pbox (A : Option Addr) (n c k : Nat) (b : Bool) : Obj := .cells #[.slice A n c, .int .i64 k, .bool b] 64
structure RP (m : Nat) (w : World) (s : Pa.Ps) : Prop where
 ex : ∃ (g off c : Nat) (l : List TkA) (k : Nat), w.heap[m]? = some (pbox (some ⟨g, off, none⟩) l.length c k s.bad) ∧ TkAt w (some ⟨g, off, none⟩) l ∧ s.ts = l.drop k ∧ g < m ∧ l.length ≤ 5000 ∧ l.length ≤ c
 fin : Pa.Fin s.ts
theorem RP.lt {m : Nat} {w : World} {s : Pa.Ps} (h : RP m w s) : m < w.heap.size := by
 obtain ⟨g, off, c, l, k, h1, _⟩ := h.ex
 exact (Array.getElem?_eq_some_iff.1 h1).1
theorem tkat_blk {w w' : World} {g off : Nat} {l : List TkA} (h : TkAt w (some ⟨g, off, none⟩) l) (hb : w'.heap[g]? = w.heap[g]?) : TkAt w' (some ⟨g, off, none⟩) l := by
 rcases h with h | ⟨g', off', hA, h⟩
 ·exact .inl h
 ·simp only [Option.some.injEq, Addr.mk.injEq] at hA
  obtain ⟨rfl, rfl, _⟩ := hA
  exact .inr ⟨g, off, rfl, fun j u hj => (World.cell?_of_block hb).trans (h j u hj)⟩
theorem RP.low {m : Nat} {w w' : World} {s : Pa.Ps} (h : RP m w s) (hb : ∀ k, k ≤ m → w'.heap[k]? = w.heap[k]?) : RP m w' s := by
 obtain ⟨g, off, c, l, k, h1, h2, h3, h4, h5⟩ := h.ex
 exact ⟨⟨g, off, c, l, k, (hb m (Nat.le_refl _)).trans h1, tkat_blk h2 (hb g (Nat.le_of_lt h4)), h3, h4, h5⟩, h.fin⟩
theorem RP.next {m : Nat} {w w' : World} {s : Pa.Ps} (h : RP m w s) (hb : Below w.heap.size w w') : RP m w' s := h.low fun k hk => hb.block k (Nat.lt_of_le_of_lt hk h.lt)
theorem OnU.rp {m U : Nat} {w w' : World} {s : Pa.Ps} (h : OnU U w w') (hm : m < U) (hs : RP m w s) : RP m w' s := hs.low fun k hk => h.block k (by omega)
theorem onu_low {U : Nat} {w v W : World} (h : OnU U v W) (hU : w.heap.size ≤ U) (hb : Below w.heap.size w v) : Below w.heap.size w W :=
 ⟨h.os.trans hb.os, h.tape.trans hb.tape, h.output.trans hb.output, by rw [h.size]; exact hb.size, fun k hk => (h.block k (by omega)).trans (hb.block k hk)⟩
theorem RP.frozen {m : Nat} {w : World} {s : Pa.Ps} (h : RP m w s) (j : Nat) : w.frozen? ⟨m, j, none⟩ = false := by
 obtain ⟨g, off, c, l, k, h1, _⟩ := h.ex
 simp [World.frozen?, h1, pbox]
theorem RP.c2 {m : Nat} {w : World} {s : Pa.Ps} (h : RP m w s) : w.cell? ⟨m, 2, none⟩ = some (.bool s.bad) := by
 obtain ⟨g, off, c, l, k, h1, _⟩ := h.ex
 simp [World.cell?, h1]
theorem RP.head {m : Nat} {w : World} {s : Pa.Ps} (h : RP m w s) : ∃ (x : TkA) (g off c n k : Nat), w.cell? ⟨m, 0, none⟩ = some (.slice (some ⟨g, off, none⟩) n c) ∧ w.cell? ⟨m, 1, none⟩ = some (.int .i64 k) ∧ w.cell? ⟨m, 2, none⟩ = some (.bool s.bad) ∧
  k < n ∧ n ≤ 5000 ∧ s.tk = x.1 ∧ s.at = x.2 ∧ s.ts.head? = some x ∧ TC w g (off + k * 4) x := by
 obtain ⟨g, off, c, l, k, h1, h2, h3, h4, h5, h6⟩ := h.ex
 have hn := h.fin.ne
 rw [h3, List.length_drop] at hn
 have hk : k < l.length := by omega
 obtain ⟨x, hx⟩ : ∃ x, l[k]? = some x := ⟨_, List.getElem?_eq_getElem hk⟩
 obtain ⟨g', off', hA, hc⟩ := h2.at hx
 simp only [Option.some.injEq, Addr.mk.injEq] at hA
 obtain ⟨rfl, rfl, _⟩ := hA
 have hd : s.ts.head? = some x := by rw [h3, List.head?_drop, hx]
 have hh : s.ts.headD (⟨6, [], 0⟩, 0) = x := by
  cases ht : s.ts with
  | nil => rw [ht] at hd; cases hd
  | cons y r => rw [ht] at hd; exact Option.some.inj hd
 refine ⟨x, g, off, c, l.length, k, ?_, ?_, ?_, hk, h5, by rw [Pa.Ps.tk, hh], by rw [Pa.Ps.at, hh], hd, hc⟩ <;> simp [World.cell?, h1]
theorem RP.stuck {m : Nat} {w : World} {s : Pa.Ps} (h : RP m w s) : RP m (w.setCell ⟨m, 2, none⟩ (.bool true)) ⟨s.ts, true⟩ ∧ ButM m w (w.setCell ⟨m, 2, none⟩ (.bool true)) := by
 obtain ⟨g, off, c, l, k, h1, h2, h3, h4, h5⟩ := h.ex
 refine ⟨⟨⟨g, off, c, l, k, ?_, tkat_blk h2 (setc_other (by show g ≠ m; omega) _), h3, h4, h5⟩, h.fin⟩, ⟨rfl, rfl, rfl, by rw [setc_size]; exact Nat.le_refl _, fun k _ hk => setc_other hk _⟩⟩
 simp [World.setCell, Array.getElem?_modify, h1, pbox]
theorem RP.took {m : Nat} {w : World} {s : Pa.Ps} (h : RP m w s) (hk6 : s.tk.k ≠ 6) {k : Nat} (hk : w.cell? ⟨m, 1, none⟩ = some (.int .i64 k)) :
  RP m (w.setCell ⟨m, 1, none⟩ (.int .i64 ((k : Int) + 1))) ⟨s.ts.tail, s.bad⟩ ∧ ButM m w (w.setCell ⟨m, 1, none⟩ (.int .i64 ((k : Int) + 1))) := by
 obtain ⟨g, off, c, l, k', h1, h2, h3, h4, h5⟩ := h.ex
 have hkk : k' = k := by
  have : w.cell? ⟨m, 1, none⟩ = some (.int .i64 k') := by simp [World.cell?, h1]
  rw [hk] at this
  have h2 : (k : Int) = (k' : Int) := by simpa using this
  omega
 subst hkk
 refine ⟨⟨⟨g, off, c, l, k' + 1, ?_, tkat_blk h2 (setc_other (by show g ≠ m; omega) _), ?_, h4, h5⟩, (h.fin.tail hk6).1⟩, ⟨rfl, rfl, rfl, by rw [setc_size]; exact Nat.le_refl _, fun k _ hk => setc_other hk _⟩⟩
 ·simp [World.setCell, Array.getElem?_modify, h1, pbox]
 ·show s.ts.tail = _
  rw [h3, List.tail_drop]
def RyE {α : Type} (P : Lay α) (m : Nat) (w : World) (x : α) (s' : Pa.Ps) (e : Ending) (w' : World) : Prop :=
 ∃ c y, e = .returned (.agg c.toArray) ∧ P (Bn w.heap.size w') w' y c ∧ (s'.bad = false → y = x) ∧ RP m w' s' ∧ ButM m w w'
end Go.Proofs.YtfjimoccliejdaaGreatDoor
end
