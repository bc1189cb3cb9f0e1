/-
  Texts of expressions are those of one expression alone, but for columns' places.
The document's Check, Size, SameList.
The document's Large.
  The document's contracts, of values that hold expressions; what they come to.
aggType, opType.
typeOf, its closure, each of ints; Type.
-/
import Derived.Test.YtofhaokaldpmaaaGreatDoorZ8
section
namespace Go.Proofs.YtofhaokaldpmaaaGreatDoor
open Go.RowKit Go.Shelf

/-- What may follow an expression's text. -/
def Fol (r : Lx.B) : Prop := ∀ c, r.head? = some c → c = 32 ∨ c = 41
theorem fol_nil : Fol [] := by intro c h; simp at h
theorem fol_par (r : Lx.B) : Fol (41 :: r) := by intro c h; simp at h; exact .inr h.symm
theorem fol_blank (r : Lx.B) : Fol (32 :: r) := by intro c h; simp at h; exact .inl h.symm
theorem head_eq {w w' r r' : Lx.B} {t t' : Lx.Tok} (h : Lx.TokOf w t) (h' : Lx.TokOf w' t') (hf : Lx.Foll w r.head?) (hf' : Lx.Foll w' r'.head?) (e : w ++ r = w' ++ r') : t = t' ∧ w = w' ∧ r = r' := by
  have e1 := Lx.cut_of h hf
  have e2 := Lx.cut_of h' hf'
  rw [e, e2] at e1
  simp only [Option.some.injEq, Prod.mk.injEq] at e1
  obtain ⟨e0, hl⟩ := e1
  have := List.append_inj e hl.symm
  exact ⟨e0.symm, this.1, this.2⟩
theorem foll_sep {w : Lx.B} {o : Option UInt8} (h : ∀ c, o = some c → c = 32 ∨ c = 41 ∨ c = 40 ∨ c = 46) : Lx.Foll w o := by
  intro x hx
  rcases h x hx with rfl | rfl | rfl | rfl <;> exact ⟨fun _ => by decide, fun _ => by decide, fun _ => by decide, fun _ => by decide⟩
theorem foll_paren (o : Option UInt8) : Lx.Foll [40] o := by
  intro x _
  refine ⟨?_, ?_, ?_, ?_⟩
  · rintro ⟨c, r, hc, hw⟩
    simp only [List.cons.injEq] at hc
    obtain ⟨rfl, _⟩ := hc
    exact absurd hw (by decide)
  · rintro ⟨r, hr⟩; simp at hr
  · intro h; simp at h
  · intro h; simp at h

/-! Digits. -/
theorem valq_snoc (l : Lx.B) (c : UInt8) : Lx.val (l ++ [c]) = 10 * Lx.val l + (c.toNat - 48) := by simp [Lx.val]
theorem digit_at {d : Nat} (h : d < 10) : (UInt8.ofNat (48 + d)).toNat = 48 + d := by
  have : ∀ d : Fin 10, (UInt8.ofNat (48 + d.1)).toNat = 48 + d.1 := by decide
  exact this ⟨d, h⟩
theorem dec_plain : ∀ u : Nat, Lx.val (Lib.decDigits u) = u ∧ (∀ x ∈ Lib.decDigits u, Lx.digit x = true) ∧ Lib.decDigits u ≠ [] := by
  intro u
  induction u using Nat.strongRecOn with
  | _ u ih =>
    by_cases h : u < 10
    · rw [Lib.decDigits, dif_pos h]
      have e := digit_at h
      refine ⟨by simp only [Lx.val, List.foldl_cons, List.foldl_nil, e]; omega, fun x hx => ?_, by simp⟩
      obtain rfl : x = UInt8.ofNat (48 + u) := by simpa using hx
      simp only [Lx.digit, decide_eq_true_eq, e]; omega
    · rw [Lib.decDigits, dif_neg h]
      obtain ⟨h1, h2, _⟩ := ih (u / 10) (by omega)
      have e := digit_at (show u % 10 < 10 by omega)
      refine ⟨by rw [valq_snoc, h1, e]; omega, fun x hx => ?_, by simp⟩
      rcases List.mem_append.1 hx with hx | hx
      · exact h2 x hx
      · obtain rfl : x = UInt8.ofNat (48 + u % 10) := by simpa using hx
        simp only [Lx.digit, decide_eq_true_eq, e]; omega
theorem dec_tok {u : Nat} (h : u ≤ 9007199254740991) : Lx.TokOf (Lib.decDigits u) ⟨3, Lib.decDigits u, u⟩ := by
  obtain ⟨h1, h2, h3⟩ := dec_plain u
  cases hd : Lib.decDigits u with
  | nil => exact absurd hd h3
  | cons c r =>
    have := Lx.TokOf.num (w := Lib.decDigits u) (c := c) (r := r) hd h2 (by omega)
    rw [h1, hd] at this
    exact this
theorem itoa_dec {n : Int} (h : 0 ≤ n) : Lib.itoa n = Lib.decDigits n.toNat := by
  unfold Lib.itoa
  rw [if_neg (by omega)]

/-! Literals. -/
def litT (k n : Int) (s : ByteArray) : Lx.Tok :=
  if k = 1 then (if n = 1 then ⟨2, [84, 82, 85, 69], 0⟩ else ⟨2, [70, 65, 76, 83, 69], 0⟩)
  else if k = 2 then ⟨3, Lib.decDigits n.toNat, n.toNat⟩ else if k = 3 then ⟨4, bs s, 0⟩ else ⟨2, [78, 85, 76, 76], 0⟩
theorem key_tok {w : Lx.B} (h : Lx.key w = true) (hl : ∃ c r, w = c :: r ∧ Lx.letter c = true) (ha : w.all Lx.wordy = true) (hn : w.length ≤ 24) : Lx.TokOf w ⟨2, w, 0⟩ := by
  obtain ⟨c, r, hw, hc⟩ := hl
  have := Lx.TokOf.word hw hc (fun x hx => List.all_eq_true.1 ha x hx) hn
  rwa [if_pos h] at this
theorem lit_tok {k n : Int} {s : ByteArray} (h : litB k n s = true) : Lx.TokOf (showL k n s) (litT k n s) := by
  have hok : okV k n s = true := by
    cases ho : okV k n s with
    | true => rfl
    | false => rw [litB, ho] at h; cases h
  unfold showL litT
  rw [if_pos hok]
  by_cases h1 : k = 1
  · rw [if_pos h1, if_pos h1]
    split
    · exact key_tok (by decide +kernel) ⟨84, [82, 85, 69], rfl, by decide⟩ (by decide) (by decide)
    · exact key_tok (by decide +kernel) ⟨70, [65, 76, 83, 69], rfl, by decide⟩ (by decide) (by decide)
  · rw [if_neg h1, if_neg h1]
    by_cases h2 : k = 2
    · subst h2
      rw [if_pos rfl, if_pos rfl]
      have hb : n ≤ 9007199254740991 := by simp [okV] at hok; exact hok.1.2
      have h0 : 0 ≤ n := by rw [litB, hok] at h; simpa using h
      rw [itoa_dec h0]
      exact dec_tok (by omega)
    · rw [if_neg h2, if_neg h2]
      by_cases h3 : k = 3
      · subst h3
        rw [if_pos rfl, if_pos rfl]
        have h64 : s.size ≤ 64 := by simp [okV] at hok; exact hok.2
        exact Lx.TokOf.text (s := bs s) (by simpa using h64)
      · rw [if_neg h3, if_neg h3]
        exact key_tok (by decide +kernel) ⟨78, [85, 76, 76], rfl, by decide⟩ (by decide) (by decide)
theorem ba_eq {a b : ByteArray} (h : bs a = bs b) : a = b := by
  apply ByteArray.ext
  exact Array.toList_inj.1 h
theorem ba_nil {a : ByteArray} (h : a.size = 0) : a = ⟨#[]⟩ := by
  apply ba_eq
  apply List.eq_nil_of_length_eq_zero
  simpa using h
theorem lit_inj {k n k' n' : Int} {s s' : ByteArray} (h : litB k n s = true) (h' : litB k' n' s' = true) (e : litT k n s = litT k' n' s') : k = k' ∧ n = n' ∧ s = s' := by
  have ok : ∀ {k n : Int} {s : ByteArray}, litB k n s = true → (k = 0 ∧ n = 0 ∧ s = ⟨#[]⟩) ∨ (k = 1 ∧ (n = 0 ∨ n = 1) ∧ s = ⟨#[]⟩) ∨ (k = 2 ∧ 0 ≤ n ∧ s = ⟨#[]⟩) ∨ (k = 3 ∧ n = 0) := by
    intro k n s h
    have hok : okV k n s = true := by
      cases ho : okV k n s with
      | true => rfl
      | false => rw [litB, ho] at h; cases h
    have hz : s.toList = [] → s = ⟨#[]⟩ := fun h => ba_eq (by rw [ByteArray.toList_eq] at h; simpa using h)
    by_cases h0 : k = 0
    · subst h0; simp [okV] at hok; exact .inl ⟨rfl, hok.1, hz hok.2⟩
    by_cases h1 : k = 1
    · subst h1; simp [okV] at hok; exact .inr (.inl ⟨rfl, hok.1, hz hok.2⟩)
    by_cases h2 : k = 2
    · subst h2; rw [litB, hok] at h; simp [okV] at hok; exact .inr (.inr (.inl ⟨rfl, by simpa using h, hz hok.2⟩))
    by_cases h3 : k = 3
    · subst h3; simp [okV] at hok; exact .inr (.inr (.inr ⟨rfl, hok.1⟩))
    · simp [okV, h0, h1, h2, h3] at hok
  have hd : ∀ {n n' : Int}, 0 ≤ n → 0 ≤ n' → n.toNat = n'.toNat → n = n' := by intro n n' h1 h2 h3; omega
  rcases ok h with ⟨rfl, rfl, rfl⟩ | ⟨rfl, hn, rfl⟩ | ⟨rfl, hn, rfl⟩ | ⟨rfl, rfl⟩ <;> rcases ok h' with ⟨rfl, rfl, rfl⟩ | ⟨rfl, hn', rfl⟩ | ⟨rfl, hn', rfl⟩ | ⟨rfl, rfl⟩
  all_goals try exact ⟨rfl, rfl, rfl⟩
  all_goals simp only [litT] at e
  all_goals try (rcases hn with rfl | rfl <;> simp at e <;> done)
  all_goals try (rcases hn' with rfl | rfl <;> simp at e <;> done)
  all_goals try (simp at e; done)
  · rcases hn with rfl | rfl <;> rcases hn' with rfl | rfl <;> simp at e <;> exact ⟨rfl, rfl, rfl⟩
  · simp at e; exact ⟨rfl, hd hn hn' e.2, rfl⟩
  · simp at e; exact ⟨rfl, rfl, ba_eq (by simpa using e)⟩

/-! Columns. -/
theorem name_tok {s : ByteArray} (h : isName s = true) : Lx.TokOf (bs s) ⟨1, bs s, 0⟩ := by
  unfold isName at h
  cases hc : Lx.cut (bs s) with
  | none => rw [hc] at h; cases h
  | some tz =>
    obtain ⟨t, z⟩ := tz
    rw [hc] at h
    simp only [Bool.and_eq_true, decide_eq_true_eq] at h
    have hne : bs s ≠ [] := by
      intro e
      rw [e, Lx.cut] at hc
      simp only [Option.some.injEq, Prod.mk.injEq] at hc
      have := h.1
      rw [← hc.1] at this
      cases this
    obtain ⟨h1, h2, _⟩ := Lx.cut_inv hne hc
    have hz : (bs s).take z = bs s := List.take_of_length_le (by rw [h.2]; simp)
    rw [hz] at h2
    have h1 := h.1
    clear hz hc hne h
    generalize bs s = L at h2
    cases h2 with
    | word hw hl ha hn =>
      by_cases hk : Lx.key L = true
      · rw [if_pos hk] at h1; cases h1
      · have e := Lx.TokOf.word hw hl ha hn
        rw [if_neg hk] at e
        exact e
    | num hw ha hn => cases h1
    | text hs => cases h1
    | sign hs => cases h1
/-- What is left of a column's text behind its first word. -/
theorem col_form {t c : ByteArray} (h : colB t c = true) : (t = ⟨#[]⟩ ∧ colX t c = bs c ++ [] ∧ Lx.TokOf (bs c) ⟨1, bs c, 0⟩) ∨ (colX t c = bs t ++ 46 :: bs c ∧ Lx.TokOf (bs t) ⟨1, bs t, 0⟩ ∧ Lx.TokOf (bs c) ⟨1, bs c, 0⟩) := by
  rw [colB, Bool.and_eq_true] at h
  have hc := name_tok h.1
  unfold colX
  cases ht : t.toList.isEmpty with
  | true =>
    refine .inl ⟨ba_eq ?_, by simp, hc⟩
    rw [ByteArray.toList_eq] at ht
    simpa using ht
  | false =>
    rw [ht, Bool.false_or] at h
    exact .inr ⟨by simp, name_tok h.2, hc⟩
theorem vless {h : Hd} (hv : valuelessB h = true) : h.vk = 0 ∧ h.vn = 0 ∧ h.vs = ⟨#[]⟩ := by
  simp only [valuelessB, eqV, Bool.and_eq_true, beq_iff_eq] at hv
  refine ⟨hv.1.1, hv.1.2, ba_eq ?_⟩
  have := hv.2
  rw [ByteArray.toList_eq, ByteArray.toList_eq] at this
  exact this
theorem nless {h : Hd} (hv : namelessB h = true) : h.tab = ⟨#[]⟩ ∧ h.col = ⟨#[]⟩ := by
  simp only [namelessB, Bool.and_eq_true] at hv
  rw [ByteArray.toList_eq, ByteArray.toList_eq] at hv
  exact ⟨ba_eq (by simpa using hv.1), ba_eq (by simpa using hv.2)⟩

/-! Its first token. -/
def aggW (n : Int) : Lx.B := if n = 3 then [83, 85, 77] else if n = 4 then [77, 73, 78] else if n = 5 then [77, 65, 88] else [67, 79, 85, 78, 84]
theorem aggW_tok (n : Int) : Lx.TokOf (aggW n) ⟨2, aggW n, 0⟩ := by
  unfold aggW
  repeat' split
  · exact key_tok (by decide +kernel) ⟨83, [85, 77], rfl, by decide⟩ (by decide) (by decide)
  · exact key_tok (by decide +kernel) ⟨77, [73, 78], rfl, by decide⟩ (by decide) (by decide)
  · exact key_tok (by decide +kernel) ⟨77, [65, 88], rfl, by decide⟩ (by decide) (by decide)
  · exact key_tok (by decide +kernel) ⟨67, [79, 85, 78, 84], rfl, by decide⟩ (by decide) (by decide)
theorem aggX_form (n : Int) (f : List UInt8) (h : 1 ≤ n ∧ n ≤ 5) : aggX n f = aggW n ++ 40 :: (if n = 1 then [42, 41] else f ++ [41]) := by
  rcases (show n = 1 ∨ n = 2 ∨ n = 3 ∨ n = 4 ∨ n = 5 by omega) with rfl | rfl | rfl | rfl | rfl <;> simp [aggX, aggW]
/-- Which kind a first token tells. -/
def clsT (t : Lx.Tok) : Int := if t.k = 1 then 2 else if t.k = 5 then 3 else if t.k = 2 ∧ (t.s = [83, 85, 77] ∨ t.s = [77, 73, 78] ∨ t.s = [77, 65, 88] ∨ t.s = [67, 79, 85, 78, 84]) then 4 else 1
structure FstT (x : Ex) (w : Lx.B) (t : Lx.Tok) (s : Lx.B) : Prop where
  tok : Lx.TokOf w t
  eq : shwX x = w ++ s
  foll : ∀ r, Fol r → Lx.Foll w (s ++ r).head?
  cls : clsT t = x.hd.k
  notn : ¬ (t.k = 2 ∧ t.s = [78, 79, 84]) ∧ ¬ (t.k = 5 ∧ t.s ≠ [40])
theorem clsT_lit {k n : Int} {s : ByteArray} : clsT (litT k n s) = 1 := by
  unfold litT
  repeat' split
  all_goals simp [clsT]
theorem fst_of : ∀ (h : Hd) (l : List Ex), fitsB h l.length = true → ∃ w t s, FstT (.mk h l) w t s := by
  intro h l hf
  unfold fitsB at hf
  by_cases h1 : h.k = 1
  · rw [if_pos h1] at hf
    simp only [Bool.and_eq_true] at hf
    refine ⟨_, _, [], lit_tok hf.1.1.1, by rw [shwX, if_pos h1, List.append_nil], fun r hr => foll_sep fun c hc => ?_, by rw [clsT_lit]; exact h1.symm, ?_⟩
    · rcases hr c hc with h | h
      · exact .inl h
      · exact .inr (.inl h)
    · unfold litT
      repeat' split
      all_goals simp
  · rw [if_neg h1] at hf
    by_cases h2 : h.k = 2
    · rw [if_pos h2] at hf
      simp only [Bool.and_eq_true] at hf
      rcases col_form hf.1.1.1.1 with ⟨_, e, ht⟩ | ⟨e, ht, _⟩
      · refine ⟨_, _, [], ht, by rw [shwX, if_neg h1, if_pos h2]; exact e, fun r hr => foll_sep fun c hc => ?_, by simp [clsT]; exact h2.symm, by simp⟩
        rcases hr c hc with h | h
        · exact .inl h
        · exact .inr (.inl h)
      · refine ⟨_, _, _, ht, by rw [shwX, if_neg h1, if_pos h2]; exact e, fun r hr => foll_sep fun c hc => ?_, by simp [clsT]; exact h2.symm, by simp⟩
        simp at hc; exact .inr (.inr (.inr hc.symm))
    · rw [if_neg h2] at hf
      by_cases h3 : h.k = 3
      · refine ⟨[40], ⟨5, [40], 0⟩, _, .sign (by decide), by rw [shwX, if_neg h1, if_neg h2, if_neg (by omega), List.append_assoc], fun r _ => foll_paren _, by simp [clsT]; exact h3.symm, by simp⟩
      · rw [if_neg h3] at hf
        by_cases h4 : h.k = 4
        · rw [if_pos h4] at hf
          simp only [Bool.and_eq_true] at hf
          have ha := hf.1.1
          have hn : 1 ≤ h.n ∧ h.n ≤ 5 := by
            unfold aggB at ha
            split at ha
            · omega
            · simp only [Bool.and_eq_true, decide_eq_true_eq] at ha; omega
          refine ⟨_, _, _, aggW_tok h.n, by rw [shwX, if_neg h1, if_neg h2, if_pos h4]; exact aggX_form h.n _ hn, fun r _ => foll_sep fun c hc => ?_, ?_, ?_⟩
          · simp at hc; exact .inr (.inr (.inl hc.symm))
          · rw [show (Ex.mk h l).hd.k = h.k from rfl, h4]
            unfold aggW
            repeat' split
            all_goals simp [clsT]
          · unfold aggW
            repeat' split
            all_goals simp
        · rw [if_neg h4] at hf; cases hf
/-- Without columns' places. -/
def plnH (h : Hd) : Hd := if h.k = 2 then { h with n := 0 } else h
mutual
def plnX : Ex → Ex
  | .mk h l => .mk (plnH h) (plnXs l)
def plnXs : List Ex → List Ex
  | [] => []
  | x :: r => plnX x :: plnXs r
end
theorem btw_inj : ∀ {m m' : Nat} {u u' : Lx.B}, 1 ≤ m ∧ m ≤ 14 ∧ m ≠ 3 → 1 ≤ m' ∧ m' ≤ 14 ∧ m' ≠ 3 → btw.getD m [] ++ 32 :: u = btw.getD m' [] ++ 32 :: u' → m = m' ∧ u = u' := by
  intro m m' u u' hm hm' e
  have ht : ∀ {m : Nat} {u : Lx.B}, 1 ≤ m ∧ m ≤ 14 ∧ m ≠ 3 → (btw.getD m [] ++ 32 :: u).takeWhile (fun c => c != 32) = btw.getD m [] := by
    intro m u hm
    refine Lx.takeWhile_all ?_ (by intro x hx; simp at hx; subst hx; decide)
    have : ∀ k : Fin 15, ∀ x ∈ btw.getD k.1 [], (x != 32) = true := by decide +kernel
    exact this ⟨m, by omega⟩
  have h1 := ht (u := u) hm
  rw [e, ht hm'] at h1
  have : ∀ k k' : Fin 15, btw.getD k.1 [] = btw.getD k'.1 [] → 1 ≤ k.1 ∧ k.1 ≠ 3 → 1 ≤ k'.1 ∧ k'.1 ≠ 3 → k.1 = k'.1 := by decide +kernel
  have hk := this ⟨m', by omega⟩ ⟨m, by omega⟩ h1 ⟨hm'.1, hm'.2.2⟩ ⟨hm.1, hm.2.2⟩
  simp only at hk
  subst hk
  exact ⟨rfl, by simpa using e⟩
theorem btw_is {m : Nat} {u v : Lx.B} (hm : 1 ≤ m ∧ m ≤ 14 ∧ m ≠ 3) : btw.getD m [] ++ 32 :: u ≠ 73 :: v := by
  have : ∀ k : Fin 15, (btw.getD k.1 []).head? ≠ some 73 ∧ ((1 ≤ k.1 ∧ k.1 ≠ 3) → btw.getD k.1 [] ≠ []) := by decide +kernel
  have := this ⟨m, by omega⟩
  simp only at this
  intro e
  cases hb : btw.getD m [] with
  | nil => exact this.2 ⟨hm.1, hm.2.2⟩ hb
  | cons c r =>
    rw [hb] at e this
    have h1 := this.1
    simp at h1 e
    exact h1 e.1

/-- What an operator is, with its parts. -/
theorem op_form {h : Hd} {l : List Ex} (hk : h.k = 3) (hf : fitsB h l.length = true) :
    (h.vk = 0 ∧ h.vn = 0 ∧ h.vs = ⟨#[]⟩ ∧ h.tab = ⟨#[]⟩ ∧ h.col = ⟨#[]⟩) ∧
    ((∃ x, l = [x] ∧ (h.n = 3 ∨ h.n = 15 ∨ h.n = 16 ∨ h.n = 17)) ∨ (∃ x y, l = [x, y] ∧ ∃ m : Nat, h.n = m ∧ 1 ≤ m ∧ m ≤ 14 ∧ m ≠ 3)) := by
  unfold fitsB at hf
  rw [if_neg (by omega), if_neg (by omega), if_pos hk] at hf
  simp only [Bool.and_eq_true, decide_eq_true_eq, beq_iff_eq] at hf
  obtain ⟨⟨⟨ha, hl⟩, hn⟩, hv⟩ := hf
  obtain ⟨v1, v2, v3⟩ := vless hv
  obtain ⟨n1, n2⟩ := nless hn
  refine ⟨⟨v1, v2, v3, n1, n2⟩, ?_⟩
  unfold arI at ha hl
  by_cases hu : h.n = 3 ∨ h.n = 15 ∨ h.n = 16 ∨ h.n = 17
  · rw [if_pos hu] at hl
    obtain ⟨x, rfl⟩ := List.length_eq_one_iff.1 (show l.length = 1 by omega)
    exact .inl ⟨x, rfl, hu⟩
  · rw [if_neg hu] at ha hl
    by_cases hv : 1 ≤ h.n ∧ h.n ≤ 17
    · rw [if_pos hv] at hl
      obtain ⟨x, y, rfl⟩ := len2 (show l.length = 2 by omega)
      exact .inr ⟨x, y, rfl, h.n.toNat, by omega, by omega, by omega, by omega⟩
    · rw [if_neg hv] at ha; omega
theorem agg_form {h : Hd} {l : List Ex} (hk : h.k = 4) (hf : fitsB h l.length = true) :
    (h.vk = 0 ∧ h.vn = 0 ∧ h.vs = ⟨#[]⟩ ∧ h.tab = ⟨#[]⟩ ∧ h.col = ⟨#[]⟩) ∧ ((h.n = 1 ∧ l = []) ∨ (∃ x, l = [x] ∧ 2 ≤ h.n ∧ h.n ≤ 5)) := by
  unfold fitsB at hf
  rw [if_neg (by omega), if_neg (by omega), if_neg (by omega), if_pos hk] at hf
  simp only [Bool.and_eq_true] at hf
  obtain ⟨⟨ha, hn⟩, hv⟩ := hf
  obtain ⟨v1, v2, v3⟩ := vless hv
  obtain ⟨n1, n2⟩ := nless hn
  refine ⟨⟨v1, v2, v3, n1, n2⟩, ?_⟩
  unfold aggB at ha
  by_cases h1 : h.n = 1
  · rw [if_pos h1] at ha
    exact .inl ⟨h1, List.eq_nil_of_length_eq_zero (by simpa using ha)⟩
  · rw [if_neg h1] at ha
    simp only [Bool.and_eq_true, decide_eq_true_eq, beq_iff_eq] at ha
    obtain ⟨x, rfl⟩ := List.length_eq_one_iff.1 (show l.length = 1 by omega)
    exact .inr ⟨x, rfl, by omega, by omega⟩
theorem hd_ext {h h' : Hd} (e1 : h.k = h'.k) (e2 : h.n = h'.n) (e3 : h.vk = h'.vk) (e4 : h.vn = h'.vn) (e5 : h.vs = h'.vs) (e6 : h.tab = h'.tab) (e7 : h.col = h'.col) : h = h' := by
  cases h; cases h'; simp_all
theorem opX_pre {n : Int} (f s : Lx.B) : (n = 3 → opX n f s = 78 :: 79 :: 84 :: 32 :: f) ∧ (n = 15 → opX n f s = 45 :: 32 :: f) ∧ (n = 16 → opX n f s = f ++ 32 :: 73 :: 83 :: 32 :: 78 :: 85 :: [76, 76]) ∧ (n = 17 → opX n f s = f ++ 32 :: 73 :: 83 :: 32 :: 78 :: 79 :: [84, 32, 78, 85, 76, 76]) := by
  refine ⟨?_, ?_, ?_, ?_⟩ <;> rintro rfl <;> simp [opX]
theorem opX_bin {m : Nat} (f s : Lx.B) (hm : 1 ≤ m ∧ m ≤ 14 ∧ m ≠ 3) : opX m f s = f ++ 32 :: (btw.getD m [] ++ 32 :: s) := by
  unfold opX
  rw [if_neg (by omega), if_neg (by omega), if_neg (by omega), if_neg (by omega), Int.toNat_natCast]
  simp
/-- The text of a fitting one never begins with NOT and a blank, nor with a sign but a bracket. -/
theorem not_first {x : Ex} (hf : FitX x) (r u : Lx.B) (hr : Fol r) : shwX x ++ r ≠ 78 :: 79 :: 84 :: 32 :: u ∧ shwX x ++ r ≠ 45 :: 32 :: u ∧ shwX x ++ r ≠ 42 :: 41 :: u := by
  obtain ⟨h, l⟩ := x
  rw [FitX] at hf
  obtain ⟨w, t, s, F⟩ := fst_of h l hf.1
  have hN : Lx.TokOf [78, 79, 84] ⟨2, [78, 79, 84], 0⟩ := key_tok (by decide +kernel) ⟨78, [79, 84], rfl, by decide⟩ (by decide) (by decide)
  rw [F.eq, List.append_assoc]
  refine ⟨fun e => ?_, fun e => ?_, fun e => ?_⟩
  · obtain ⟨rfl, _, _⟩ := head_eq (w' := [78, 79, 84]) (r' := 32 :: u) F.tok hN (F.foll r hr) (foll_sep (by intro c hc; simp at hc; exact .inl hc.symm)) (by simpa using e)
    exact F.notn.1 ⟨rfl, rfl⟩
  · obtain ⟨rfl, _, _⟩ := head_eq (w' := [45]) (r' := 32 :: u) F.tok (.sign (by decide)) (F.foll r hr) (foll_sep (by intro c hc; simp at hc; exact .inl hc.symm)) (by simpa using e)
    exact F.notn.2 ⟨rfl, by decide⟩
  · obtain ⟨rfl, _, _⟩ := head_eq (w' := [42]) (r' := 41 :: u) F.tok (.sign (by decide)) (F.foll r hr) (foll_sep (by intro c hc; simp at hc; exact .inr (.inl hc.symm))) (by simpa using e)
    exact F.notn.2 ⟨rfl, by decide⟩
set_option maxHeartbeats 4000000 in
theorem read_n : ∀ (n : Nat) (x y : Ex), cnt x ≤ n → FitX x → FitX y → ∀ (r r' : Lx.B), Fol r → Fol r' → shwX x ++ r = shwX y ++ r' → r = r' ∧ plnX x = plnX y := by
  intro n
  induction n with
  | zero => intro x y hc; have := cnt_pos x; omega
  | succ n ih =>
    intro x y hc hfx hfy r r' hr hr' e
    obtain ⟨h, l⟩ := x
    obtain ⟨h', l'⟩ := y
    have gx := hfx
    have gy := hfy
    rw [FitX] at gx gy
    rw [cnt_mk] at hc
    obtain ⟨w, t, s, F⟩ := fst_of h l gx.1
    obtain ⟨w', t', s', F'⟩ := fst_of h' l' gy.1
    have e0 := e
    rw [F.eq, F'.eq, List.append_assoc, List.append_assoc] at e0
    obtain ⟨et, ew, es⟩ := head_eq F.tok F'.tok (F.foll r hr) (F'.foll r' hr') e0
    have hk : h.k = h'.k := by
      have h1 := F.cls
      have h2 := F'.cls
      rw [et, h2] at h1
      exact h1.symm
    clear F F' e0 et ew es w w' t t' s s'
    have fx := gx.1
    have fy := gy.1
    unfold fitsB at fx fy
    by_cases h1 : h.k = 1
    · have h1' : h'.k = 1 := by omega
      rw [if_pos h1] at fx
      rw [if_pos h1'] at fy
      simp only [Bool.and_eq_true, beq_iff_eq] at fx fy
      obtain ⟨⟨⟨a1, a2⟩, a3⟩, a4⟩ := fx
      obtain ⟨⟨⟨b1, b2⟩, b3⟩, b4⟩ := fy
      obtain ⟨n1, n2⟩ := nless a3
      obtain ⟨m1, m2⟩ := nless b3
      obtain rfl : l = [] := List.eq_nil_of_length_eq_zero (by omega)
      obtain rfl : l' = [] := List.eq_nil_of_length_eq_zero (by omega)
      rw [shwX, if_pos h1, shwX, if_pos h1'] at e
      have fw : ∀ {r : Lx.B} {w : Lx.B}, Fol r → Lx.Foll w r.head? := fun hr => foll_sep fun c hc => (hr c hc).elim .inl fun h => .inr (.inl h)
      obtain ⟨et, _, er⟩ := head_eq (lit_tok a1) (lit_tok b1) (fw hr) (fw hr') e
      obtain ⟨q1, q2, q3⟩ := lit_inj a1 b1 et
      exact ⟨er, by rw [hd_ext hk (by rw [a2, b2]) q1 q2 q3 (by rw [n1, m1]) (by rw [n2, m2])]⟩
    · have h1' : ¬ h'.k = 1 := by omega
      by_cases h2 : h.k = 2
      · have h2' : h'.k = 2 := by omega
        rw [if_neg h1, if_pos h2] at fx
        rw [if_neg h1', if_pos h2'] at fy
        simp only [Bool.and_eq_true, beq_iff_eq] at fx fy
        obtain ⟨⟨⟨⟨a1, _⟩, _⟩, a3⟩, a4⟩ := fx
        obtain ⟨⟨⟨⟨b1, _⟩, _⟩, b3⟩, b4⟩ := fy
        obtain ⟨n1, n2, n3⟩ := vless a3
        obtain ⟨m1, m2, m3⟩ := vless b3
        obtain rfl : l = [] := List.eq_nil_of_length_eq_zero (by omega)
        obtain rfl : l' = [] := List.eq_nil_of_length_eq_zero (by omega)
        rw [shwX, if_neg h1, if_pos h2, shwX, if_neg h1', if_pos h2'] at e
        have fw : ∀ {r : Lx.B} {w : Lx.B}, Fol r → Lx.Foll w r.head? := fun hr => foll_sep fun c hc => (hr c hc).elim .inl fun h => .inr (.inl h)
        have fd : ∀ {r : Lx.B} {w : Lx.B}, Lx.Foll w (46 :: r).head? := fun {r w} => foll_sep fun c hc => by simp at hc; exact .inr (.inr (.inr hc.symm))
        have done : h.tab = h'.tab → h.col = h'.col → plnX (.mk h []) = plnX (.mk h' []) := fun q1 q2 => by
          rw [plnX, plnX]
          refine congrArg (fun z => Ex.mk z _) (hd_ext ?_ ?_ ?_ ?_ ?_ ?_ ?_) <;> unfold plnH <;> rw [if_pos h2, if_pos h2'] <;> simp_all
        have bad : ∀ {r u : Lx.B}, Fol r → r ≠ 46 :: u := fun hr e => by
          have := hr 46 (by rw [e]; rfl)
          rcases this with h | h <;> cases h
        rcases col_form a1 with ⟨t1, c1, k1⟩ | ⟨c1, k1, k2⟩ <;> rcases col_form b1 with ⟨t2, c2, k3⟩ | ⟨c2, k3, k4⟩ <;> rw [c1, c2, List.append_assoc, List.append_assoc] at e
        · obtain ⟨_, ew, er⟩ := head_eq k1 k3 (fw hr) (fw hr') e
          exact ⟨er, done (by rw [t1, t2]) (ba_eq ew)⟩
        · obtain ⟨_, ew, er⟩ := head_eq k1 k3 (fw hr) fd e
          exact absurd er (bad hr)
        · obtain ⟨_, ew, er⟩ := head_eq k1 k3 fd (fw hr') e
          exact absurd er.symm (bad hr')
        · obtain ⟨_, ew, er⟩ := head_eq k1 k3 fd fd e
          have er : bs h.col ++ r = bs h'.col ++ r' := by simpa using er
          obtain ⟨_, ew2, er2⟩ := head_eq k2 k4 (fw hr) (fw hr') er
          exact ⟨er2, done (ba_eq ew) (ba_eq ew2)⟩
      · have h2' : ¬ h'.k = 2 := by omega
        clear fx fy
        have kid : ∀ x' y' : Ex, cnt x' ≤ cntL l → FitX x' → FitX y' → ∀ (u u' : Lx.B), Fol u → Fol u' → shwX x' ++ u = shwX y' ++ u' → u = u' ∧ plnX x' = plnX y' := fun x' y' q => ih x' y' (by omega)
        have pl : plnH h = h := by unfold plnH; rw [if_neg h2]
        have pl' : plnH h' = h' := by unfold plnH; rw [if_neg h2']
        by_cases h3 : h.k = 3
        · have h3' : h'.k = 3 := by omega
          obtain ⟨⟨v1, v2, v3, v4, v5⟩, fo⟩ := op_form h3 gx.1
          obtain ⟨⟨u1, u2, u3, u4, u5⟩, fo'⟩ := op_form h3' gy.1
          have hn : h.n = h'.n → h = h' := fun q => hd_ext hk q (by rw [v1, u1]) (by rw [v2, u2]) (by rw [v3, u3]) (by rw [v4, u4]) (by rw [v5, u5])
          rw [shwX, if_neg h1, if_neg h2, if_neg (by omega), shwX, if_neg h1', if_neg h2', if_neg (by omega)] at e
          simp only [List.cons_append, List.nil_append, List.append_assoc, List.cons.injEq, true_and] at e
          rw [plnX, plnX, pl, pl']
          have tail : ∀ u : Lx.B, Fol (41 :: u) := fol_par
          rcases fo with ⟨a, rfl, ha⟩ | ⟨a, b, rfl, m, hm, hmb⟩ <;> rcases fo' with ⟨a', rfl, ha'⟩ | ⟨a', b', rfl, m', hm', hmb'⟩
          · simp only [shwXs, List.getD_cons_zero, List.getD_cons_succ, List.getD_nil] at e
            rw [FitXs] at gx gy
            have fa := gx.2.1
            have fa' := gy.2.1
            have ca : cnt a ≤ cntL [a] := by simp [cntL]
            have go : ∀ (u u' : Lx.B), Fol u → Fol u' → shwX a ++ u = shwX a' ++ u' → u = u' ∧ plnX a = plnX a' := kid a a' ca fa fa'
            obtain ⟨p1, p2, p3, p4⟩ := opX_pre (n := h.n) (shwX a) []
            obtain ⟨p1', p2', p3', p4'⟩ := opX_pre (n := h'.n) (shwX a') []
            rcases ha with q | q | q | q <;> rcases ha' with q' | q' | q' | q'
            · rw [p1 q, p1' q'] at e
              obtain ⟨er, ep⟩ := go (41 :: r) (41 :: r') (tail r) (tail r') (by simpa using e)
              exact ⟨by simpa using er, by rw [hn (by rw [q, q']), plnXs, plnXs, plnXs, plnXs, ep]⟩
            · rw [p1 q, p2' q'] at e; simp at e
            · rw [p1 q, p3' q'] at e
              exact absurd (show shwX a' ++ (32 :: 73 :: 83 :: 32 :: 78 :: 85 :: [76, 76, 41] ++ r') = 78 :: 79 :: 84 :: 32 :: (shwX a ++ 41 :: r) by simpa using e.symm) (not_first fa' _ _ (fol_blank _)).1
            · rw [p1 q, p4' q'] at e
              exact absurd (show shwX a' ++ (32 :: 73 :: 83 :: 32 :: 78 :: 79 :: [84, 32, 78, 85, 76, 76, 41] ++ r') = 78 :: 79 :: 84 :: 32 :: (shwX a ++ 41 :: r) by simpa using e.symm) (not_first fa' _ _ (fol_blank _)).1
            · rw [p2 q, p1' q'] at e; simp at e
            · rw [p2 q, p2' q'] at e
              obtain ⟨er, ep⟩ := go (41 :: r) (41 :: r') (tail r) (tail r') (by simpa using e)
              exact ⟨by simpa using er, by rw [hn (by rw [q, q']), plnXs, plnXs, plnXs, plnXs, ep]⟩
            · rw [p2 q, p3' q'] at e
              exact absurd (show shwX a' ++ (32 :: 73 :: 83 :: 32 :: 78 :: 85 :: [76, 76, 41] ++ r') = 45 :: 32 :: (shwX a ++ 41 :: r) by simpa using e.symm) (not_first fa' _ _ (fol_blank _)).2.1
            · rw [p2 q, p4' q'] at e
              exact absurd (show shwX a' ++ (32 :: 73 :: 83 :: 32 :: 78 :: 79 :: [84, 32, 78, 85, 76, 76, 41] ++ r') = 45 :: 32 :: (shwX a ++ 41 :: r) by simpa using e.symm) (not_first fa' _ _ (fol_blank _)).2.1
            · rw [p3 q, p1' q'] at e
              exact absurd (show shwX a ++ (32 :: 73 :: 83 :: 32 :: 78 :: 85 :: [76, 76, 41] ++ r) = 78 :: 79 :: 84 :: 32 :: (shwX a' ++ 41 :: r') by simpa using e) (not_first fa _ _ (fol_blank _)).1
            · rw [p3 q, p2' q'] at e
              exact absurd (show shwX a ++ (32 :: 73 :: 83 :: 32 :: 78 :: 85 :: [76, 76, 41] ++ r) = 45 :: 32 :: (shwX a' ++ 41 :: r') by simpa using e) (not_first fa _ _ (fol_blank _)).2.1
            · rw [p3 q, p3' q'] at e
              obtain ⟨er, ep⟩ := go (32 :: 73 :: 83 :: 32 :: 78 :: 85 :: [76, 76, 41] ++ r) (32 :: 73 :: 83 :: 32 :: 78 :: 85 :: [76, 76, 41] ++ r') (fol_blank _) (fol_blank _) (by simpa using e)
              exact ⟨by simpa using er, by rw [hn (by rw [q, q']), plnXs, plnXs, plnXs, plnXs, ep]⟩
            · rw [p3 q, p4' q'] at e
              obtain ⟨er, ep⟩ := go (32 :: 73 :: 83 :: 32 :: 78 :: 85 :: [76, 76, 41] ++ r) (32 :: 73 :: 83 :: 32 :: 78 :: 79 :: [84, 32, 78, 85, 76, 76, 41] ++ r') (fol_blank _) (fol_blank _) (by simpa using e)
              simp at er
            · rw [p4 q, p1' q'] at e
              exact absurd (show shwX a ++ (32 :: 73 :: 83 :: 32 :: 78 :: 79 :: [84, 32, 78, 85, 76, 76, 41] ++ r) = 78 :: 79 :: 84 :: 32 :: (shwX a' ++ 41 :: r') by simpa using e) (not_first fa _ _ (fol_blank _)).1
            · rw [p4 q, p2' q'] at e
              exact absurd (show shwX a ++ (32 :: 73 :: 83 :: 32 :: 78 :: 79 :: [84, 32, 78, 85, 76, 76, 41] ++ r) = 45 :: 32 :: (shwX a' ++ 41 :: r') by simpa using e) (not_first fa _ _ (fol_blank _)).2.1
            · rw [p4 q, p3' q'] at e
              obtain ⟨er, ep⟩ := go (32 :: 73 :: 83 :: 32 :: 78 :: 79 :: [84, 32, 78, 85, 76, 76, 41] ++ r) (32 :: 73 :: 83 :: 32 :: 78 :: 85 :: [76, 76, 41] ++ r') (fol_blank _) (fol_blank _) (by simpa using e)
              simp at er
            · rw [p4 q, p4' q'] at e
              obtain ⟨er, ep⟩ := go (32 :: 73 :: 83 :: 32 :: 78 :: 79 :: [84, 32, 78, 85, 76, 76, 41] ++ r) (32 :: 73 :: 83 :: 32 :: 78 :: 79 :: [84, 32, 78, 85, 76, 76, 41] ++ r') (fol_blank _) (fol_blank _) (by simpa using e)
              exact ⟨by simpa using er, by rw [hn (by rw [q, q']), plnXs, plnXs, plnXs, plnXs, ep]⟩
          · simp only [shwXs, List.getD_cons_zero, List.getD_cons_succ, List.getD_nil] at e
            rw [FitXs] at gx
            rw [FitXs, FitXs] at gy
            have fa := gx.2.1
            have fa' := gy.2.1
            have ca : cnt a ≤ cntL [a] := by simp [cntL]
            have go : ∀ (u u' : Lx.B), Fol u → Fol u' → shwX a ++ u = shwX a' ++ u' → u = u' ∧ plnX a = plnX a' := kid a a' ca fa fa'
            obtain ⟨p1, p2, p3, p4⟩ := opX_pre (n := h.n) (shwX a) []
            rw [hm', opX_bin _ _ hmb'] at e
            rcases ha with q | q | q | q
            · rw [p1 q] at e
              exact absurd (show shwX a' ++ (32 :: (btw.getD m' [] ++ 32 :: (shwX b' ++ 41 :: r'))) = 78 :: 79 :: 84 :: 32 :: (shwX a ++ 41 :: r) by simpa using e.symm) (not_first fa' _ _ (fol_blank _)).1
            · rw [p2 q] at e
              exact absurd (show shwX a' ++ (32 :: (btw.getD m' [] ++ 32 :: (shwX b' ++ 41 :: r'))) = 45 :: 32 :: (shwX a ++ 41 :: r) by simpa using e.symm) (not_first fa' _ _ (fol_blank _)).2.1
            · rw [p3 q] at e
              obtain ⟨er, ep⟩ := go (32 :: 73 :: 83 :: 32 :: 78 :: 85 :: [76, 76, 41] ++ r) (32 :: (btw.getD m' [] ++ 32 :: (shwX b' ++ 41 :: r'))) (fol_blank _) (fol_blank _) (by simpa using e)
              simp only [List.cons_append, List.cons.injEq, true_and] at er
              exact absurd er.symm (btw_is hmb')
            · rw [p4 q] at e
              obtain ⟨er, ep⟩ := go (32 :: 73 :: 83 :: 32 :: 78 :: 79 :: [84, 32, 78, 85, 76, 76, 41] ++ r) (32 :: (btw.getD m' [] ++ 32 :: (shwX b' ++ 41 :: r'))) (fol_blank _) (fol_blank _) (by simpa using e)
              simp only [List.cons_append, List.cons.injEq, true_and] at er
              exact absurd er.symm (btw_is hmb')
          · simp only [shwXs, List.getD_cons_zero, List.getD_cons_succ, List.getD_nil] at e
            rw [FitXs, FitXs] at gx
            rw [FitXs] at gy
            have fa := gx.2.1
            have fa' := gy.2.1
            have ca : cnt a ≤ cntL [a, b] := by simp [cntL]
            have go : ∀ (u u' : Lx.B), Fol u → Fol u' → shwX a ++ u = shwX a' ++ u' → u = u' ∧ plnX a = plnX a' := kid a a' ca fa fa'
            obtain ⟨p1, p2, p3, p4⟩ := opX_pre (n := h'.n) (shwX a') []
            rw [hm, opX_bin _ _ hmb] at e
            rcases ha' with q | q | q | q
            · rw [p1 q] at e
              exact absurd (show shwX a ++ (32 :: (btw.getD m [] ++ 32 :: (shwX b ++ 41 :: r))) = 78 :: 79 :: 84 :: 32 :: (shwX a' ++ 41 :: r') by simpa using e) (not_first fa _ _ (fol_blank _)).1
            · rw [p2 q] at e
              exact absurd (show shwX a ++ (32 :: (btw.getD m [] ++ 32 :: (shwX b ++ 41 :: r))) = 45 :: 32 :: (shwX a' ++ 41 :: r') by simpa using e) (not_first fa _ _ (fol_blank _)).2.1
            · rw [p3 q] at e
              obtain ⟨er, ep⟩ := go (32 :: (btw.getD m [] ++ 32 :: (shwX b ++ 41 :: r))) (32 :: 73 :: 83 :: 32 :: 78 :: 85 :: [76, 76, 41] ++ r') (fol_blank _) (fol_blank _) (by simpa using e)
              simp only [List.cons_append, List.cons.injEq, true_and] at er
              exact absurd er (btw_is hmb)
            · rw [p4 q] at e
              obtain ⟨er, ep⟩ := go (32 :: (btw.getD m [] ++ 32 :: (shwX b ++ 41 :: r))) (32 :: 73 :: 83 :: 32 :: 78 :: 79 :: [84, 32, 78, 85, 76, 76, 41] ++ r') (fol_blank _) (fol_blank _) (by simpa using e)
              simp only [List.cons_append, List.cons.injEq, true_and] at er
              exact absurd er (btw_is hmb)
          · simp only [shwXs, List.getD_cons_zero, List.getD_cons_succ] at e
            rw [FitXs, FitXs] at gx gy
            have ca : cnt a ≤ cntL [a, b] := by simp [cntL]
            have cb : cnt b ≤ cntL [a, b] := by simp [cntL]
            rw [hm, hm', opX_bin _ _ hmb, opX_bin _ _ hmb'] at e
            obtain ⟨er, ep⟩ := kid a a' ca gx.2.1 gy.2.1 (32 :: (btw.getD m [] ++ 32 :: (shwX b ++ 41 :: r))) (32 :: (btw.getD m' [] ++ 32 :: (shwX b' ++ 41 :: r'))) (fol_blank _) (fol_blank _) (by simpa using e)
            simp only [List.cons.injEq, true_and] at er
            obtain ⟨em, eu⟩ := btw_inj hmb hmb' er
            obtain ⟨er2, ep2⟩ := kid b b' cb gx.2.2.1 gy.2.2.1 (41 :: r) (41 :: r') (tail r) (tail r') eu
            exact ⟨by simpa using er2, by rw [hn (by rw [hm, hm', em]), plnXs, plnXs, plnXs, plnXs, plnXs, plnXs, ep, ep2]⟩
        · have h3' : ¬ h'.k = 3 := by omega
          have h4 : h.k = 4 := by
            by_cases h4 : h.k = 4
            · exact h4
            · have := gx.1; unfold fitsB at this; rw [if_neg h1, if_neg h2, if_neg h3, if_neg h4] at this; cases this
          have h4' : h'.k = 4 := by omega
          obtain ⟨⟨v1, v2, v3, v4, v5⟩, fo⟩ := agg_form h4 gx.1
          obtain ⟨⟨u1, u2, u3, u4, u5⟩, fo'⟩ := agg_form h4' gy.1
          have hn : h.n = h'.n → h = h' := fun q => hd_ext hk q (by rw [v1, u1]) (by rw [v2, u2]) (by rw [v3, u3]) (by rw [v4, u4]) (by rw [v5, u5])
          have bd : 1 ≤ h.n ∧ h.n ≤ 5 := by rcases fo with ⟨q, _⟩ | ⟨_, _, q⟩ <;> omega
          have bd' : 1 ≤ h'.n ∧ h'.n ≤ 5 := by rcases fo' with ⟨q, _⟩ | ⟨_, _, q⟩ <;> omega
          rw [shwX, if_neg h1, if_neg h2, if_pos h4, shwX, if_neg h1', if_neg h2', if_pos h4', aggX_form _ _ bd, aggX_form _ _ bd', List.append_assoc, List.append_assoc] at e
          have fp : ∀ {r : Lx.B} {w : Lx.B}, Lx.Foll w (40 :: r).head? := fun {r w} => foll_sep fun c hc => by simp at hc; exact .inr (.inr (.inl hc.symm))
          obtain ⟨_, ew, er⟩ := head_eq (aggW_tok h.n) (aggW_tok h'.n) fp fp e
          rw [plnX, plnX, pl, pl']
          have er : (if h.n = 1 then [42, 41] else (shwXs l).getD 0 [] ++ [41]) ++ r = (if h'.n = 1 then [42, 41] else (shwXs l').getD 0 [] ++ [41]) ++ r' := by simpa using er
          rcases fo with ⟨q, rfl⟩ | ⟨a, rfl, q1, q2⟩ <;> rcases fo' with ⟨q', rfl⟩ | ⟨a', rfl, q1', q2'⟩
          · rw [if_pos q, if_pos q'] at er
            exact ⟨by simpa using er, by rw [hn (by omega)]⟩
          · rw [if_pos q, if_neg (by omega)] at er
            simp only [shwXs, List.getD_cons_zero] at er
            rw [FitXs] at gy
            exact absurd (show shwX a' ++ (41 :: r') = 42 :: 41 :: r by simpa using er.symm) (not_first gy.2.1 _ _ (fol_par _)).2.2
          · rw [if_neg (by omega), if_pos q'] at er
            simp only [shwXs, List.getD_cons_zero] at er
            rw [FitXs] at gx
            exact absurd (show shwX a ++ (41 :: r) = 42 :: 41 :: r' by simpa using er) (not_first gx.2.1 _ _ (fol_par _)).2.2
          · rw [if_neg (by omega), if_neg (by omega)] at er
            simp only [shwXs, List.getD_cons_zero] at er
            rw [FitXs] at gx gy
            have ca : cnt a ≤ cntL [a] := by simp [cntL]
            obtain ⟨er2, ep⟩ := kid a a' ca gx.2.1 gy.2.1 (41 :: r) (41 :: r') (fol_par _) (fol_par _) (by simpa using er)
            have en : h.n = h'.n := by
              have h2 : ∀ n : Int, 2 ≤ n ∧ n ≤ 5 → (n = 2 ∧ aggW n = [67, 79, 85, 78, 84]) ∨ (n = 3 ∧ aggW n = [83, 85, 77]) ∨ (n = 4 ∧ aggW n = [77, 73, 78]) ∨ (n = 5 ∧ aggW n = [77, 65, 88]) := by
                intro n hn
                rcases (show n = 2 ∨ n = 3 ∨ n = 4 ∨ n = 5 by omega) with rfl | rfl | rfl | rfl <;> simp [aggW]
              rcases h2 h.n ⟨q1, q2⟩ with ⟨z, zw⟩ | ⟨z, zw⟩ | ⟨z, zw⟩ | ⟨z, zw⟩ <;> rcases h2 h'.n ⟨q1', q2'⟩ with ⟨z', zw'⟩ | ⟨z', zw'⟩ | ⟨z', zw'⟩ | ⟨z', zw'⟩ <;> rw [zw, zw'] at ew <;> first | (rw [z, z']; done) | (simp at ew)
            exact ⟨by simpa using er2, by rw [hn en, plnXs, plnXs, plnXs, plnXs, ep]⟩
theorem read_one {x y : Ex} (hx : FitX x) (hy : FitX y) (e : shwX x = shwX y) : plnX x = plnX y :=
  (read_n _ x y (Nat.le_refl _) hx hy [] [] fol_nil fol_nil (by rw [e])).2
mutual
theorem shw_pln : ∀ x : Ex, shwX (plnX x) = shwX x
  | .mk h l => by
    have hk : (plnH h).k = h.k := by unfold plnH; split <;> rfl
    rw [plnX, shwX, shwX, shws_pln l, hk]
    by_cases h2 : h.k = 2
    · have : plnH h = { h with n := 0 } := by unfold plnH; rw [if_pos h2]
      rw [this]
      simp [h2]
    · have : plnH h = h := by unfold plnH; rw [if_neg h2]
      rw [this]
theorem shws_pln : ∀ l : List Ex, shwXs (plnXs l) = shwXs l
  | [] => by rw [plnXs]
  | x :: r => by rw [plnXs, shwXs, shwXs, shw_pln x, shws_pln r]
end
theorem hdEq_iff (h h' : Hd) : hdEq h h' = true ↔ h = h' := by
  constructor
  · intro e
    simp only [hdEq, eqV, Bool.and_eq_true, beq_iff_eq, ByteArray.toList_eq] at e
    obtain ⟨⟨⟨⟨a, b⟩, ⟨c, d⟩, f⟩, g⟩, i⟩ := e
    exact hd_ext a b c d (ba_eq f) (ba_eq g) (ba_eq i)
  · rintro rfl; simp [hdEq, eqV]
mutual
theorem sameX_iff : ∀ x y : Ex, sameX x y = true ↔ x = y
  | .mk h l, .mk h' l' => by
    rw [sameX, Bool.and_eq_true, hdEq_iff, sameXs_iff l l', Ex.mk.injEq]
theorem sameXs_iff : ∀ l l' : List Ex, sameXs l l' = true ↔ l = l'
  | [], [] => by simp [sameXs]
  | [], _ :: _ => by simp [sameXs]
  | _ :: _, [] => by simp [sameXs]
  | x :: r, y :: r' => by rw [sameXs, Bool.and_eq_true, sameX_iff x y, sameXs_iff r r', List.cons.injEq]
end
theorem bstr_toList (l : List UInt8) : (bstr l).toList = l := by rw [ByteArray.toList_eq]; simp [bstr]
/-- One text, one expression, but for places. -/
theorem texts_plain {x y : Ex} (hx : FitX x) (hy : FitX y) : ((bstr (shwX x)).toList == (bstr (shwX y)).toList) = sameX (plnX x) (plnX y) := by
  rw [bstr_toList, bstr_toList]
  cases hs : sameX (plnX x) (plnX y) with
  | true =>
    have := (sameX_iff _ _).1 hs
    have e : shwX x = shwX y := by rw [← shw_pln x, ← shw_pln y, this]
    rw [e]; simp
  | false =>
    have hne : ¬ shwX x = shwX y := fun e => by
      have := (sameX_iff _ _).2 (read_one hx hy e)
      rw [hs] at this; cases this
    simpa using hne
end Go.Proofs.YtofhaokaldpmaaaGreatDoor
end
section
namespace Go.Proofs.YtofhaokaldpmaaaGreatDoor
open Go.RowKit Go.Shelf

theorem walkV_1 (x : Ex) : walkV x 1 false = if okX x = true then .tuple #[.int .i64 (cnt x), .bool true] else .tuple #[.int .i64 0, .bool false] := by
  unfold walkV okX
  by_cases h : goodB x 1 false = true ∧ cnt x ≤ 512
  · rw [if_pos h, if_pos (by simp [h.1, h.2])]
  · rw [if_neg h, if_neg (by simpa using h)]
def sizN (x : Ex) : Nat := if okX x = true then cnt x else 0
theorem refCheck10_any (h : Hd) (l : List Ex) (w : World) (A : Option Addr) (cap : Nat) (hc : cnt (.mk h l) ≤ 1000000) (hs : AllSm (.mk h l)) (hX : XsAt w.heap.size w l A) :
    Calls Tryz.prog 31 #[XV h A l.length cap] w fun e w' => e = .returned (.bool (okX (.mk h l))) ∧ Below w.heap.size w w' := by
  have hba := ba w (xbox h A l.length cap)
  have HBa := Lib.hid hba
  obtain ⟨⟨x0, x1, x2, x3, x4, x5, x6, x7⟩, _⟩ := cell8 (MapKept.heap_alloc w (xbox h A l.length cap)).1
  have HC := Lib.hid (walk_n _ h l hc (Nat.le_refl _) hs (w.alloc (xbox h A l.length cap)) A cap 1 false (XsAt.next hX hba) (by omega))
  rw [walkV_1] at HC
  clear hX hs hba
  cases ho : okX (.mk h l)
  all_goals
    rw [ho] at HC
    clear ho
    simp only [if_true, Bool.false_eq_true, if_false] at HC
    go_enter Tryz.func31, Tryz.ntmps31
    go_wp2_with fail
    refine (show Calls Tryz.prog 48 #[XV h A l.length cap, .int .i64 1, .bool false] _ _ from HC.out).mono ?_
    rintro e w1 ⟨rfl, hb⟩
    have HB1 := Lib.hid (bt HBa.out hb)
    clear hb
    go_wp2_with fail
    go_ret
    exact ⟨rfl, HB1.out⟩
theorem refSame_any (h h' : Hd) (l l' : List Ex) (w : World) (A : Option Addr) (cap : Nat) (B : Option Addr) (cap' : Nat) (hX : XsAt w.heap.size w l A) (hcap : l.length ≤ cap) (hY : XsAt w.heap.size w l' B) (hcap' : l'.length ≤ cap') (hc : cnt (.mk h l) ≤ 1000000) (hc' : cnt (.mk h' l') ≤ 1000000) :
    Calls Tryz.prog 17 #[XV h A l.length cap, XV h' B l'.length cap'] w fun e w' => e = .returned (.bool (sameX (.mk h l) (.mk h' l'))) ∧ Below w.heap.size w w' :=
  refSame_n _ h h' l l' hc (Nat.le_refl _) hc' w A cap B cap' hX hcap hY hcap'
end Go.Proofs.YtofhaokaldpmaaaGreatDoor
end
section
namespace Go.Proofs.YtofhaokaldpmaaaGreatDoor
section
open Go.RowKit Go.Shelf

/-- Is one too much to be looked at, but for its parts? -/
def bigH (h : Hd) : Prop := 200 < h.tab.size ∨ 200 < h.col.size ∨ 500 < h.vs.size
instance (h : Hd) : Decidable (bigH h) := by unfold bigH; exact inferInstance
mutual
/-- Is it too large, so deep, with so many ahead; and how many there are then? -/
def lrgX : Ex → Nat → Nat → Bool × Nat
  | .mk h l, d, c => if 60 < d ∨ 1000 < c + 1 ∨ bigH h then (true, c + 1) else lrgXs l (d + 1) (c + 1)
def lrgXs : List Ex → Nat → Nat → Bool × Nat
  | [], _, c => (false, c)
  | x :: r, d, c => if (lrgX x d c).1 = true then lrgX x d c else lrgXs r d (lrgX x d c).2
end
mutual
theorem lrg_no : ∀ (x : Ex) (d c : Nat), (lrgX x d c).1 = false → AllSm x ∧ (lrgX x d c).2 = c + cnt x ∧ (lrgX x d c).2 ≤ 1000
  | .mk h l, d, c, H => by
    rw [lrgX] at H ⊢
    by_cases hb : 60 < d ∨ 1000 < c + 1 ∨ bigH h
    · rw [if_pos hb] at H; cases H
    · rw [if_neg hb] at H ⊢
      have hn : ¬ bigH h := fun e => hb (.inr (.inr e))
      have hc : ¬ 1000 < c + 1 := fun e => hb (.inr (.inl e))
      obtain ⟨h1, h2, h3⟩ := lrgs_no l (d + 1) (c + 1) (by omega) H
      refine ⟨?_, by rw [cnt_mk]; omega, h3⟩
      rw [AllSm]
      unfold bigH at hn
      exact ⟨⟨by omega, by omega, by omega⟩, h1⟩
theorem lrgs_no : ∀ (l : List Ex) (d c : Nat), c ≤ 1000 → (lrgXs l d c).1 = false → AllSmL l ∧ (lrgXs l d c).2 = c + cntL l ∧ (lrgXs l d c).2 ≤ 1000
  | [], d, c, hc, H => by
    rw [lrgXs]
    exact ⟨by rw [AllSmL]; trivial, by rw [cntL]; rfl, hc⟩
  | x :: r, d, c, hc, H => by
    rw [lrgXs] at H ⊢
    cases hx : (lrgX x d c).1 with
    | true => rw [if_pos hx, hx] at H; cases H
    | false =>
      rw [hx, if_neg (by simp)] at H
      rw [if_neg (by simp)]
      obtain ⟨a1, a2, a3⟩ := lrg_no x d c hx
      obtain ⟨b1, b2, b3⟩ := lrgs_no r d _ a3 H
      exact ⟨by rw [AllSmL]; exact ⟨a1, b1⟩, by rw [cntL]; omega, b3⟩
end
theorem lrgXs_take {l : List Ex} {k : Nat} {x : Ex} (h : l[k]? = some x) (d c : Nat) (hf : (lrgXs (l.take k) d c).1 = false) : lrgXs (l.take (k + 1)) d c = lrgX x d (lrgXs (l.take k) d c).2 := by
  induction l generalizing k c with
  | nil => simp at h
  | cons y r ih =>
    cases k with
    | zero =>
      obtain rfl : y = x := by simpa using h
      simp only [List.take_zero, List.take_succ_cons, lrgXs, List.take_zero]
      cases hy : (lrgX y d c).1 with
      | true => simp
      | false => simp; exact Prod.ext (by simp [hy]) rfl
    | succ k =>
      rw [List.take_succ_cons, lrgXs] at hf ⊢
      rw [List.take_succ_cons, lrgXs]
      cases hy : (lrgX y d c).1 with
      | true => rw [hy, if_pos rfl, hy] at hf; cases hf
      | false =>
        rw [hy, if_neg (by simp)] at hf
        rw [if_neg (by simp), if_neg (by simp)]
        exact ih (by simpa using h) _ hf
theorem lrgXs_yes {l : List Ex} {k : Nat} {d c : Nat} (h : (lrgXs (l.take k) d c).1 = true) : lrgXs l d c = lrgXs (l.take k) d c := by
  induction l generalizing k c with
  | nil => simp
  | cons y r ih =>
    cases k with
    | zero => simp [lrgXs] at h
    | succ k =>
      rw [List.take_succ_cons, lrgXs] at h ⊢
      rw [lrgXs]
      cases hy : (lrgX y d c).1 with
      | true => simp
      | false =>
        rw [hy, if_neg (by simp)] at h
        rw [if_neg (by simp), if_neg (by simp)]
        exact ih h
theorem Rd.bx {b b' : Nat} {W W' : World} {o : Obj} (h : Rd (fun k => k = b) W W') (hk : W.heap[b']? = some o) (hb : b' ≠ b) : W'.heap[b']? = some o :=
  (h.block b' (Array.getElem?_eq_some_iff.1 hk).1 hb).trans hk
set_option maxRecDepth 100000 in
set_option maxHeartbeats 8000000 in
theorem large_n : ∀ (N : Nat) (h : Hd) (l : List Ex), cnt (.mk h l) ≤ N → ∀ (w : World) (n₀ b d c : Nat) (A : Option Addr) (cap : Nat), XsAt n₀ w l A → n₀ ≤ b → Boxed w b 3 (.int .i64 c) → c ≤ 1000 → d ≤ 61 →
    Calls Tryz.prog 28 #[XV h A l.length cap, .int .i64 d, .pointer (some ⟨b, 0, none⟩)] w fun e w' =>
      e = .returned (.bool (lrgX (.mk h l) d c).1) ∧ Boxed w' b 3 (.int .i64 (lrgX (.mk h l) d c).2) ∧ Rd (fun k => k = b) w w' := by
  intro N
  induction N with
  | zero => intro h l hc; have := cnt_pos (.mk h l); omega
  | succ N ih =>
    intro h l hc w n₀ b d c A cap hX hnb hB hcc hd
    rw [cnt_mk] at hc
    have hbl := hB.lt
    have hb0 := hB.alloc (xbox h A l.length cap)
    have k0 := hb0.cell
    have g0 := hb0.frozen
    have hb1 := (hB.set (.int .i64 ((c : Int) + 1))).alloc (xbox h A l.length cap)
    have k1 := hb1.cell
    have HX1 := Lib.hid (show ((w.setCell ⟨b, 0, none⟩ (.int .i64 ((c : Int) + 1))).alloc (xbox h A l.length cap)).heap[w.heap.size]? = some _ by have := (MapKept.heap_alloc (w.setCell ⟨b, 0, none⟩ (.int .i64 ((c : Int) + 1))) (xbox h A l.length cap)).1; rwa [setc_size] at this)
    obtain ⟨⟨x0, x1, x2, x3, x4, x5, x6, x7⟩, _⟩ := cell8 HX1.out
    have HB1 := Lib.hid hb1
    have HR1 := Lib.hid (((Rd.refl (fun k => k = b) w).set (b := b) (j := 0) rfl (.int .i64 ((c : Int) + 1))).alloc (xbox h A l.length cap))
    have HXs := Lib.hid hX
    have HI := Lib.hid ih
    have HC := Lib.hid hc
    have HE := Lib.hid (show lrgX (.mk h l) d c = if 60 < d ∨ 1000 < c + 1 ∨ bigH h then (true, c + 1) else lrgXs l (d + 1) (c + 1) by rw [lrgX])
    clear hX ih hB hb0 hb1 hc
    obtain ⟨k, n, vk, vn, vs, tab, col⟩ := h
    have HBg := Lib.hid (show bigH ⟨k, n, vk, vn, vs, tab, col⟩ ↔ 200 < tab.size ∨ 200 < col.size ∨ 500 < vs.size from Iff.rfl)
    by_cases hbad : 60 < d ∨ 1000 < c + 1 ∨ bigH ⟨k, n, vk, vn, vs, tab, col⟩
    · have HL := Lib.hid (HE.out.trans (if_pos hbad))
      have hcases : (60 < d) ∨ (¬ 60 < d ∧ 1000 < c + 1) ∨ (¬ 60 < d ∧ ¬ 1000 < c + 1 ∧ 200 < tab.size) ∨ (¬ 60 < d ∧ ¬ 1000 < c + 1 ∧ ¬ 200 < tab.size ∧ 200 < col.size) ∨ (¬ 60 < d ∧ ¬ 1000 < c + 1 ∧ ¬ 200 < tab.size ∧ ¬ 200 < col.size ∧ 500 < vs.size) := by
        rw [HBg.out] at hbad; omega
      clear hbad
      rcases hcases with z1 | ⟨z1, z2⟩ | ⟨z1, z2, z3⟩ | ⟨z1, z2, z3, z4⟩ | ⟨z1, z2, z3, z4, z5⟩
      case' inl => have y1 : (60 : Int) < (d : Int) := by omega
      case' inr.inl => have y1 : ¬ (60 : Int) < (d : Int) := by omega
      case' inr.inl => have y2 : (1000 : Int) < (c : Int) + 1 := by omega
      case' inr.inr.inl => have y1 : ¬ (60 : Int) < (d : Int) := by omega
      case' inr.inr.inl => have y2 : ¬ (1000 : Int) < (c : Int) + 1 := by omega
      case' inr.inr.inl => have y3 : (200 : Int) < (tab.size : Int) := by omega
      case' inr.inr.inr.inl => have y1 : ¬ (60 : Int) < (d : Int) := by omega
      case' inr.inr.inr.inl => have y2 : ¬ (1000 : Int) < (c : Int) + 1 := by omega
      case' inr.inr.inr.inl => have y3 : ¬ (200 : Int) < (tab.size : Int) := by omega
      case' inr.inr.inr.inl => have y4 : (200 : Int) < (col.size : Int) := by omega
      case' inr.inr.inr.inr => have y1 : ¬ (60 : Int) < (d : Int) := by omega
      case' inr.inr.inr.inr => have y2 : ¬ (1000 : Int) < (c : Int) + 1 := by omega
      case' inr.inr.inr.inr => have y3 : ¬ (200 : Int) < (tab.size : Int) := by omega
      case' inr.inr.inr.inr => have y4 : ¬ (200 : Int) < (col.size : Int) := by omega
      case' inr.inr.inr.inr => have y5 : (500 : Int) < (vs.size : Int) := by omega
      all_goals
        go_enter Tryz.func28, Tryz.ntmps28
        go_wp2_with fail
        go_ret
        exact ⟨ret_bool (by rw [HL.out]), by rw [HL.out]; exact HB1.out, HR1.out⟩
    · have HL := Lib.hid (HE.out.trans (if_neg hbad))
      rw [HBg.out] at hbad
      have z1 : ¬ (60 : Int) < (d : Int) := by omega
      have z2 : ¬ (1000 : Int) < (c : Int) + 1 := by omega
      have z3 : ¬ (200 : Int) < (tab.size : Int) := by omega
      have z4 : ¬ (200 : Int) < (col.size : Int) := by omega
      have z5 : ¬ (500 : Int) < (vs.size : Int) := by omega
      clear hbad
      obtain ⟨W1, hW1⟩ : ∃ W1, (w.setCell ⟨b, 0, none⟩ (.int .i64 ((c : Int) + 1))).alloc (xbox ⟨k, n, vk, vn, vs, tab, col⟩ A l.length cap) = W1 := ⟨_, rfl⟩
      have HW1 := Lib.hid hW1
      have hsz : W1.heap.size = w.heap.size + 1 := by rw [← hW1, World.size_alloc, setc_size]
      clear hW1
      go_enter Tryz.func28, Tryz.ntmps28
      go_wp2_with fail
      go_loopw [7] (fun i W => ∃ (j : Nat), j ≤ l.length ∧ i = .int .i64 j ∧ Hid ((lrgXs (l.take j) (d + 1) (c + 1)).1 = false ∧ Boxed W b 3 (.int .i64 (lrgXs (l.take j) (d + 1) (c + 1)).2) ∧ Rd (fun k => k = b) W1 W)) (fun i _ => l.length - (intOf i).toNat)
      case atStart =>
        refine ⟨0, Nat.zero_le _, rfl, Lib.hid ⟨by simp [lrgXs], ?_, ?_⟩⟩
        · simpa [lrgXs] using HB1.out
        · rw [HW1.out]; exact Rd.refl _ _
      case round =>
        obtain ⟨j, hj, rfl, HJ⟩ := hrel
        obtain ⟨⟨v0, v1, v2, v3, v4, v5, v6, v7⟩, _⟩ := cell8 (HJ.out.2.2.bx (by rw [← HW1.out]; exact HX1.out) (by omega))
        by_cases hjl : j < l.length
        · obtain ⟨y, hy⟩ : ∃ y, l[j]? = some y := ⟨_, List.getElem?_eq_getElem hjl⟩
          obtain ⟨h', l'⟩ := y
          obtain ⟨g, off, A', cap', rfl, hg, hXc, hle', hl'⟩ := HXs.out.at hy
          have hgw : ∀ q, q < n₀ → wr.heap[q]? = w.heap[q]? := fun q hq => by
            have h1 := HJ.out.2.2.block q (by omega) (by omega)
            rw [h1, ← HW1.out]
            exact ((ba _ _).block q (by rw [setc_size]; omega)).trans (setc_other (by omega) _)
          obtain ⟨a0, a1, a2, a3, a4, a5, a6, a7⟩ := hXc.of (hgw g hg)
          obtain ⟨e1, e2, e3⟩ := lrgs_no (l.take j) (d + 1) (c + 1) (by omega) HJ.out.1
          have hjc : j ≤ 1000 := by have := cntL_len (l.take j); rw [List.length_take] at this; omega
          have hcn := cntL_split hy
          rw [cnt_mk] at hcn
          have HK := Lib.hid (HI.out h' l' (by rw [cnt_mk]; have := HC.out; omega) wr n₀ b (d + 1) (lrgXs (l.take j) (d + 1) (c + 1)).2 A' cap' (XsB.go hgw (fun _ h => h) _ _ hl') hnb HJ.out.2.1 e3 (by omega))
          have HT := Lib.hid (lrgXs_take hy (d + 1) (c + 1) HJ.out.1)
          have HNo := Lib.hid (fun e => lrgXs_yes (l := l) (k := j + 1) (d := d + 1) (c := c + 1) e)
          rw [← HT.out] at HK
          clear hXc hy hl' hcn e1 e2 e3 hgw
          obtain ⟨bl, hbl2⟩ : ∃ bl, (lrgXs (l.take (j + 1)) (d + 1) (c + 1)).1 = bl := ⟨_, rfl⟩
          have HBl := Lib.hid hbl2
          rw [hbl2] at HK
          clear hbl2
          cases bl
          · go_wp2_with fail
            refine (show Calls Tryz.prog 28 #[XV h' A' l'.length cap', .int .i64 ((d : Int) + 1), .pointer (some ⟨b, 0, none⟩)] wr _ from HK.out).mono ?_
            rintro e w3 ⟨rfl, hb3, hr3⟩
            have HB3 := Lib.hid hb3
            have HR3 := Lib.hid (HJ.out.2.2.trans hr3)
            clear hb3 hr3
            go_wp2_with fail
            go_roundw
            case rel => exact ⟨j + 1, by omega, by go_num, Lib.hid ⟨HBl.out, HB3.out, HR3.out⟩⟩
            case measure => simp [intOf]; omega
          · go_wp2_with fail
            refine (show Calls Tryz.prog 28 #[XV h' A' l'.length cap', .int .i64 ((d : Int) + 1), .pointer (some ⟨b, 0, none⟩)] wr _ from HK.out).mono ?_
            rintro e w3 ⟨rfl, hb3, hr3⟩
            have HB3 := Lib.hid hb3
            have HR3 := Lib.hid (HR1.out.trans (by rw [HW1.out]; exact HJ.out.2.2.trans hr3))
            clear hb3 hr3
            go_wp2_with fail
            go_ret
            exact ⟨ret_bool (by rw [HL.out, HNo.out HBl.out, HBl.out]), by rw [HL.out, HNo.out HBl.out]; exact HB3.out, HR3.out⟩
        · obtain rfl : j = l.length := by omega
          have HR3 := Lib.hid (HR1.out.trans (by rw [HW1.out]; exact HJ.out.2.2))
          go_wp2_with fail
          go_ret
          have hf := HJ.out.1
          have hb3 := HJ.out.2.1
          rw [List.take_length] at hf hb3
          exact ⟨ret_bool (by rw [HL.out, hf]), by rw [HL.out]; exact hb3, HR3.out⟩
/-- Is an expression too large? -/
def largeB (x : Ex) : Bool := (lrgX x 0 0).1
theorem large_no {x : Ex} (h : largeB x = false) : AllSm x ∧ cnt x ≤ 1000 := by
  obtain ⟨h1, h2, h3⟩ := lrg_no x 0 0 h
  exact ⟨h1, by omega⟩
theorem large_any (h : Hd) (l : List Ex) (w : World) (A : Option Addr) (cap : Nat) (hX : XsAt w.heap.size w l A) :
    Calls Tryz.prog 12 #[XV h A l.length cap] w fun e w' => e = .returned (.bool (largeB (.mk h l))) ∧ Below w.heap.size w w' := by
  have hb := Boxed.new (w.alloc (xbox h A l.length cap)) 3 (.int .i64 0)
  rw [World.size_alloc] at hb
  have hba := ba2 w (xbox h A l.length cap) (.cells #[.int .i64 0] 3)
  have hx := ((ba (w.alloc (xbox h A l.length cap)) (.cells #[.int .i64 0] 3)).block w.heap.size (by rw [World.size_alloc]; omega)).trans (MapKept.heap_alloc w (xbox h A l.length cap)).1
  obtain ⟨⟨x0, x1, x2, x3, x4, x5, x6, x7⟩, _⟩ := cell8 hx
  have HC := Lib.hid (large_n _ h l (Nat.le_refl _) ((w.alloc (xbox h A l.length cap)).alloc (.cells #[.int .i64 0] 3)) w.heap.size (w.heap.size + 1) 0 0 A cap (XsB.go (fun k hk => hba.block k hk) (fun _ h => h) _ _ hX) (by omega) hb (by omega) (by omega))
  have HB := Lib.hid hba
  clear hX hb hba hx
  go_enter Tryz.func12, Tryz.ntmps12
  go_wp2_with fail
  refine (show Calls Tryz.prog 28 #[XV h A l.length cap, .int .i64 0, .pointer (some ⟨w.heap.size + 1, 0, none⟩)] _ _ from HC.out).mono ?_
  rintro e w3 ⟨rfl, _, hr⟩
  have HB3 := Lib.hid (HB.out.trans (hr.below (n₀ := w.heap.size) (fun k hk => by omega) (by simp; omega)))
  clear hr
  go_wp2_with fail
  go_ret
  exact ⟨rfl, HB3.out⟩
end
section
open Go.RowKit Go.Shelf

theorem rv_large {x : Ex} {v : Value} {w : World} (h : EV x v w) {c : Bool} (e : largeB x = c) :
    Calls Tryz.prog 12 #[v] w fun e w' => ∃ u, e = .returned u ∧ Bel w w' ∧ u = .bool c := by
  obtain ⟨hd, l⟩ := x
  obtain ⟨A, cap, rfl, hl, hx⟩ := h
  refine (large_any hd l w A cap hx).mono ?_
  rintro _ w' ⟨rfl, hb⟩
  exact ⟨_, rfl, hb, by rw [← e]⟩
theorem rv_check {x : Ex} {v : Value} {w : World} (h : EV x v w) (hsm : AllSm x) (hc : cnt x ≤ 1000000) {c : Bool} (e : okX x = c) :
    Calls Tryz.prog 31 #[v] w fun e w' => ∃ u, e = .returned u ∧ Bel w w' ∧ u = .bool c := by
  obtain ⟨hd, l⟩ := x
  obtain ⟨A, cap, rfl, hl, hx⟩ := h
  refine (refCheck10_any hd l w A cap hc hsm hx).mono ?_
  rintro _ w' ⟨rfl, hb⟩
  exact ⟨_, rfl, hb, by rw [← e]⟩
theorem rv_same {x y : Ex} {v u : Value} {w : World} (h : EV x v w) (h' : EV y u w) (hc : cnt x ≤ 1000000) (hc' : cnt y ≤ 1000000) {c : Bool} (e : sameX x y = c) :
    Calls Tryz.prog 17 #[v, u] w fun e w' => ∃ u, e = .returned u ∧ Bel w w' ∧ u = .bool c := by
  obtain ⟨hd, l⟩ := x
  obtain ⟨hd', l'⟩ := y
  obtain ⟨A, cap, rfl, hl, hx⟩ := h
  obtain ⟨A', cap', rfl, hl', hx'⟩ := h'
  refine (refSame_any hd hd' l l' w A cap A' cap' hx hl hx' hl' hc hc').mono ?_
  rintro _ w' ⟨rfl, hb⟩
  exact ⟨_, rfl, hb, by rw [e]⟩
theorem chk_of {x : Ex} : chkI x = if okX x = true then 0 else 100 := by rw [chkI, meas_some]
theorem siz_of {x : Ex} : sizI x = if okX x = true then (cnt x : Int) else 0 := by
  rw [sizI, meas_eq]
  cases okX x <;> simp
theorem dep_of {x : Ex} : depI x = if okX x = true then (depX x : Int) else 0 := by
  rw [depI, meas_eq]
  cases okX x <;> simp
theorem sho_of {x : Ex} : shoX x = if okX x = true then shwX x else [] := by rw [shoX, meas_some]
theorem safe_of {x : Ex} : safeB x = (okX x && !errsX x) := by rw [safeB, meas_some, errs_preo]
theorem same_self (x : Ex) : sameX x x = true := (sameX_iff x x).2 rfl
end
end Go.Proofs.YtofhaokaldpmaaaGreatDoor
end
section
namespace Go.Proofs.YtofhaokaldpmaaaGreatDoor
open Go.RowKit Go.Shelf
attribute [local go_sem] Oper.semAt_some

section
variable {o : Oper} {a : Act} {w : World}
theorem run_ixI {k : Nat} {x : Operand} (ho : o.op = .indexAddr 42 x (.const (.int .i64 (k : Nat)))) {g p n c : Nat} (hk : k < n) (hx : a.eval x = .slice (some ⟨g, p, none⟩) n c) : (execOp a.eval o).run Tryz.prog w = .ok (.value (.pointer (some ⟨g, p + k, none⟩))) w := by
  have h : (Instr.indexAt 42 (.slice (some ⟨g, p, none⟩) n c) (.int .i64 (k : Nat))).run Tryz.prog w = .ok (.pointer (some ⟨g, p + k, none⟩)) w := by go_simp
  unfold execOp
  simp only [ho, hx, eval_const]
  rw [Sem.run_bind, h]
  rfl
theorem run_ldI {x : Operand} (ho : o.op = .load 3 x) {u p : Nat} {n : Int} (hx : a.eval x = .pointer (some ⟨u, p, none⟩)) (hc : w.cell? ⟨u, p, none⟩ = some (.int .i64 n)) : (execOp a.eval o).run Tryz.prog w = .ok (.value (.int .i64 n)) w := by
  have h : (Instr.loadAt 3 (.pointer (some ⟨u, p, none⟩))).run Tryz.prog w = .ok (.int .i64 n) w := by go_simp
  unfold execOp
  simp only [ho, hx]
  rw [Sem.run_bind, h]
  rfl
theorem run_xt0 {P : Program} {x : Operand} (ho : o.op = .extract x 0) {u v : Value} (hx : a.eval x = .tuple #[u, v]) : (execOp a.eval o).run P w = .ok (.value u) w := by
  unfold execOp
  simp only [ho, hx]
  rfl
theorem run_xt1 {P : Program} {x : Operand} (ho : o.op = .extract x 1) {u v : Value} (hx : a.eval x = .tuple #[u, v]) : (execOp a.eval o).run P w = .ok (.value v) w := by
  unfold execOp
  simp only [ho, hx]
  rfl
end
set_option maxHeartbeats 4000000 in
theorem aggType_any (n : Int) (A : Option Addr) (c : Nat) (l : List Int) (w : World) (h : InAt w A l) (hl : l.length ≤ 1000000) (h1 : n = 4 ∨ n = 5 → l.length = 1) :
    Calls Tryz.prog 53 #[.int .i64 n, .slice A l.length c] w fun e w' => e = .returned (teV (aggT n l)) ∧ Below w.heap.size w w' := by
  have HBr := Lib.hid (Below.refl w.heap.size w)
  by_cases h3 : n = 3
  · subst h3
    rw [show aggT 3 l = onlyT 2 l from rfl]
    clear h1
    have HO := Lib.hid (only_any 2 A c l w h hl)
    obtain ⟨m, v, hv, hd⟩ := teV_form (onlyT 2 l)
    rw [hv] at HO ⊢
    clear h hl hv hd
    go_enter Tryz.func53, Tryz.ntmps53
    go_wp2_with fail
    refine HO.out.mono ?_
    rintro e w1 ⟨rfl, hb⟩
    have HB := Lib.hid hb
    clear hb
    go_wp2_with fail
    exact bodyPost_ret (v := .tuple #[.int .i64 m, v]) (by simp [results, Tryz.results53, go_sem]) rfl ⟨rfl, HB.out⟩
  by_cases h4 : n = 4
  · subst h4
    have hn := h1 (.inl rfl)
    obtain ⟨b, off, rfl, hb, c0⟩ := h.at (i := 0) (by omega)
    obtain ⟨t, rfl⟩ : ∃ t, l = [t] := by
      match l, hn with
      | [t], _ => exact ⟨t, rfl⟩
    simp only [List.getElem_cons_zero, List.length_cons, List.length_nil, Nat.add_zero] at c0 ⊢
    rw [show aggT 4 [t] = .ok t from rfl, show teV (.ok t) = .tuple #[.int .i64 t, .nilIface] from rfl]
    clear h hl h1 hn
    go_enter Tryz.func53, Tryz.ntmps53
    go_wp2_with fail
    exact bodyPost_ret (v := .tuple #[.int .i64 t, .nilIface]) (by simp [results, Tryz.results53, go_sem]) rfl ⟨rfl, HBr.out⟩
  by_cases h5 : n = 5
  · subst h5
    have hn := h1 (.inr rfl)
    obtain ⟨b, off, rfl, hb, c0⟩ := h.at (i := 0) (by omega)
    obtain ⟨t, rfl⟩ : ∃ t, l = [t] := by
      match l, hn with
      | [t], _ => exact ⟨t, rfl⟩
    simp only [List.getElem_cons_zero, List.length_cons, List.length_nil, Nat.add_zero] at c0 ⊢
    rw [show aggT 5 [t] = .ok t from rfl, show teV (.ok t) = .tuple #[.int .i64 t, .nilIface] from rfl]
    clear h hl h1 hn
    go_enter Tryz.func53, Tryz.ntmps53
    go_wp2_with fail
    exact bodyPost_ret (v := .tuple #[.int .i64 t, .nilIface]) (by simp [results, Tryz.results53, go_sem]) rfl ⟨rfl, HBr.out⟩
  · have ha : aggT n l = .ok 2 := by unfold aggT; rw [if_neg h3, if_neg (by omega)]
    rw [ha, show teV (.ok 2) = .tuple #[.int .i64 2, .nilIface] from rfl]
    clear h hl h1 ha
    go_enter Tryz.func53, Tryz.ntmps53
    go_wp2_with fail
    exact bodyPost_ret (v := .tuple #[.int .i64 2, .nilIface]) (by simp [results, Tryz.results53, go_sem]) rfl ⟨rfl, HBr.out⟩
set_option maxRecDepth 100000 in
set_option maxHeartbeats 16000000 in
theorem opType_any (n : Int) (A : Option Addr) (c : Nat) (l : List Int) (w : World) (h : InAt w A l) (hl : l.length ≤ 1000000) (h1 : 1 ≤ n ∧ n ≤ 17) (h2 : 4 ≤ n ∧ n ≤ 9 → l.length = 2) :
    Calls Tryz.prog 54 #[.int .i64 n, .slice A l.length c] w fun e w' => e = .returned (teV (opT n l)) ∧ Below w.heap.size w w' := by
  have HBr := Lib.hid (Below.refl w.heap.size w)
  by_cases h1' : n = 1
  · subst h1'
    rw [show opT 1 l = onlyT 1 l from rfl]
    clear h1 h2
    have HO := Lib.hid (only_any 1 A c l w h hl)
    obtain ⟨m, v, hv, hd⟩ := teV_form (onlyT 1 l)
    rw [hv] at HO ⊢
    clear h hl hv hd
    go_enter Tryz.func54, Tryz.ntmps54
    go_wp2_with fail
    refine HO.out.mono ?_
    rintro e w1 ⟨rfl, hb⟩
    have HB := Lib.hid hb
    clear hb
    go_wp2_with fail
    exact bodyPost_ret (v := .tuple #[.int .i64 m, v]) (by simp [results, Tryz.results54, go_sem]) rfl ⟨rfl, HB.out⟩
  by_cases h2' : n = 2
  · subst h2'
    rw [show opT 2 l = onlyT 1 l from rfl]
    clear h1 h2
    have HO := Lib.hid (only_any 1 A c l w h hl)
    obtain ⟨m, v, hv, hd⟩ := teV_form (onlyT 1 l)
    rw [hv] at HO ⊢
    clear h hl hv hd
    go_enter Tryz.func54, Tryz.ntmps54
    go_wp2_with fail
    refine HO.out.mono ?_
    rintro e w1 ⟨rfl, hb⟩
    have HB := Lib.hid hb
    clear hb
    go_wp2_with fail
    exact bodyPost_ret (v := .tuple #[.int .i64 m, v]) (by simp [results, Tryz.results54, go_sem]) rfl ⟨rfl, HB.out⟩
  by_cases h3' : n = 3
  · subst h3'
    rw [show opT 3 l = onlyT 1 l from rfl]
    clear h1 h2
    have HO := Lib.hid (only_any 1 A c l w h hl)
    obtain ⟨m, v, hv, hd⟩ := teV_form (onlyT 1 l)
    rw [hv] at HO ⊢
    clear h hl hv hd
    go_enter Tryz.func54, Tryz.ntmps54
    go_wp2_with fail
    refine HO.out.mono ?_
    rintro e w1 ⟨rfl, hb⟩
    have HB := Lib.hid hb
    clear hb
    go_wp2_with fail
    exact bodyPost_ret (v := .tuple #[.int .i64 m, v]) (by simp [results, Tryz.results54, go_sem]) rfl ⟨rfl, HB.out⟩
  by_cases h10' : n = 10
  · subst h10'
    rw [show opT 10 l = onlyT 2 l from rfl]
    clear h1 h2
    have HO := Lib.hid (only_any 2 A c l w h hl)
    obtain ⟨m, v, hv, hd⟩ := teV_form (onlyT 2 l)
    rw [hv] at HO ⊢
    clear h hl hv hd
    go_enter Tryz.func54, Tryz.ntmps54
    go_wp2_with fail
    refine HO.out.mono ?_
    rintro e w1 ⟨rfl, hb⟩
    have HB := Lib.hid hb
    clear hb
    go_wp2_with fail
    exact bodyPost_ret (v := .tuple #[.int .i64 m, v]) (by simp [results, Tryz.results54, go_sem]) rfl ⟨rfl, HB.out⟩
  by_cases h11' : n = 11
  · subst h11'
    rw [show opT 11 l = onlyT 2 l from rfl]
    clear h1 h2
    have HO := Lib.hid (only_any 2 A c l w h hl)
    obtain ⟨m, v, hv, hd⟩ := teV_form (onlyT 2 l)
    rw [hv] at HO ⊢
    clear h hl hv hd
    go_enter Tryz.func54, Tryz.ntmps54
    go_wp2_with fail
    refine HO.out.mono ?_
    rintro e w1 ⟨rfl, hb⟩
    have HB := Lib.hid hb
    clear hb
    go_wp2_with fail
    exact bodyPost_ret (v := .tuple #[.int .i64 m, v]) (by simp [results, Tryz.results54, go_sem]) rfl ⟨rfl, HB.out⟩
  by_cases h12' : n = 12
  · subst h12'
    rw [show opT 12 l = onlyT 2 l from rfl]
    clear h1 h2
    have HO := Lib.hid (only_any 2 A c l w h hl)
    obtain ⟨m, v, hv, hd⟩ := teV_form (onlyT 2 l)
    rw [hv] at HO ⊢
    clear h hl hv hd
    go_enter Tryz.func54, Tryz.ntmps54
    go_wp2_with fail
    refine HO.out.mono ?_
    rintro e w1 ⟨rfl, hb⟩
    have HB := Lib.hid hb
    clear hb
    go_wp2_with fail
    exact bodyPost_ret (v := .tuple #[.int .i64 m, v]) (by simp [results, Tryz.results54, go_sem]) rfl ⟨rfl, HB.out⟩
  by_cases h13' : n = 13
  · subst h13'
    rw [show opT 13 l = onlyT 2 l from rfl]
    clear h1 h2
    have HO := Lib.hid (only_any 2 A c l w h hl)
    obtain ⟨m, v, hv, hd⟩ := teV_form (onlyT 2 l)
    rw [hv] at HO ⊢
    clear h hl hv hd
    go_enter Tryz.func54, Tryz.ntmps54
    go_wp2_with fail
    refine HO.out.mono ?_
    rintro e w1 ⟨rfl, hb⟩
    have HB := Lib.hid hb
    clear hb
    go_wp2_with fail
    exact bodyPost_ret (v := .tuple #[.int .i64 m, v]) (by simp [results, Tryz.results54, go_sem]) rfl ⟨rfl, HB.out⟩
  by_cases h14' : n = 14
  · subst h14'
    rw [show opT 14 l = onlyT 2 l from rfl]
    clear h1 h2
    have HO := Lib.hid (only_any 2 A c l w h hl)
    obtain ⟨m, v, hv, hd⟩ := teV_form (onlyT 2 l)
    rw [hv] at HO ⊢
    clear h hl hv hd
    go_enter Tryz.func54, Tryz.ntmps54
    go_wp2_with fail
    refine HO.out.mono ?_
    rintro e w1 ⟨rfl, hb⟩
    have HB := Lib.hid hb
    clear hb
    go_wp2_with fail
    exact bodyPost_ret (v := .tuple #[.int .i64 m, v]) (by simp [results, Tryz.results54, go_sem]) rfl ⟨rfl, HB.out⟩
  by_cases h15' : n = 15
  · subst h15'
    rw [show opT 15 l = onlyT 2 l from rfl]
    clear h1 h2
    have HO := Lib.hid (only_any 2 A c l w h hl)
    obtain ⟨m, v, hv, hd⟩ := teV_form (onlyT 2 l)
    rw [hv] at HO ⊢
    clear h hl hv hd
    go_enter Tryz.func54, Tryz.ntmps54
    go_wp2_with fail
    refine HO.out.mono ?_
    rintro e w1 ⟨rfl, hb⟩
    have HB := Lib.hid hb
    clear hb
    go_wp2_with fail
    exact bodyPost_ret (v := .tuple #[.int .i64 m, v]) (by simp [results, Tryz.results54, go_sem]) rfl ⟨rfl, HB.out⟩
  by_cases h16' : n = 16
  · subst h16'
    rw [show opT 16 l = .ok 1 from rfl, show teV (.ok 1) = .tuple #[.int .i64 1, .nilIface] from rfl]
    clear h h1 h2 hl
    go_enter Tryz.func54, Tryz.ntmps54
    go_wp2_with fail
    exact bodyPost_ret (v := .tuple #[.int .i64 1, .nilIface]) (by simp [results, Tryz.results54, go_sem]) rfl ⟨rfl, HBr.out⟩
  by_cases h17' : n = 17
  · subst h17'
    rw [show opT 17 l = .ok 1 from rfl, show teV (.ok 1) = .tuple #[.int .i64 1, .nilIface] from rfl]
    clear h h1 h2 hl
    go_enter Tryz.func54, Tryz.ntmps54
    go_wp2_with fail
    exact bodyPost_ret (v := .tuple #[.int .i64 1, .nilIface]) (by simp [results, Tryz.results54, go_sem]) rfl ⟨rfl, HBr.out⟩
  have hn := h2 (by omega)
  obtain ⟨b, off, rfl, hb, c0⟩ := h.at (i := 0) (by omega)
  obtain ⟨b', off', hbb, _, c1⟩ := h.at (i := 1) (by omega)
  obtain ⟨rfl, rfl⟩ : b = b' ∧ off = off' := by simpa using hbb
  obtain ⟨t, u, rfl⟩ : ∃ t u, l = [t, u] := by
    match l, hn with
    | [t, u], _ => exact ⟨t, u, rfl⟩
  simp only [List.getElem_cons_zero, List.getElem_cons_succ, List.length_cons, List.length_nil, Nat.reduceAdd] at c0 c1 ⊢
  have ho : opT n [t, u] = compT t u := by unfold opT; rw [if_neg (by omega), if_neg (by omega), if_neg (by omega)]; rfl
  rw [ho]
  have HC := Lib.hid (fun W => compared_any t u W)
  obtain ⟨m, v0, hv, _⟩ := teV_form (compT t u)
  rw [hv] at HC ⊢
  have HL := Lib.hid hb
  have Ht := Lib.hid c0
  have Hu := Lib.hid c1
  clear h hl h1 h2 hn hb c0 c1 hbb ho hv
  go_enter Tryz.func54, Tryz.ntmps54
  go_wp2_with fail
  refine wp_region_inv (n := 11) (ds := [some 29, some 30, some 31, some 32, some 33, some 34, some 35, some 36, some 37, some 4, some 5]) (need := [[], [0], [0, 1], [], [3], [3, 4], [0, 1, 2, 3, 4, 5], [0, 1, 2, 3, 4, 5, 6], [0, 1, 2, 3, 4, 5, 6], [0, 1, 2, 3, 4, 5, 6, 7, 8], [0, 1, 2, 3, 4, 5, 6, 7, 8, 9]]) (R := Bel) (Gs := [
      (fun v _ => v = .slice (some ⟨b, off, none⟩) 2 c),
      (fun v _ => v = .pointer (some ⟨b, off + 0, none⟩)),
      (fun v _ => v = .int .i64 t),
      (fun v _ => v = .slice (some ⟨b, off, none⟩) 2 c),
      (fun v _ => v = .pointer (some ⟨b, off + 1, none⟩)),
      (fun v _ => v = .int .i64 u),
      (fun v _ => v = .tuple #[.int .i64 m, v0]),
      (fun v _ => v = .int .i64 m),
      (fun v _ => v = v0),
      (fun v _ => v = .int .i64 m),
      (fun v _ => v = v0)])
    (by kernel_rfl) (by kernel_rfl) (by decide) (by kernel_rfl) (by kernel_rfl) (by kernel_rfl) (fun x => Below.refl _ x) (fun _ _ _ h k => bt h k) ?_ ?_
  · refine Each.cons rfl (Keeps.const _) (StepOk.plain (g := (fun v _ => v = .slice (some ⟨b, off, none⟩) 2 c)) rfl rfl rfl (fun a w hs hR hr pre => ?_)) ?_
    · have ep : a.eval (.tmp 1) = .slice (some ⟨b, off, none⟩) 2 c := hr 1 (by decide)
      exact wp_pure (run_move rfl) ep
    refine Each.cons rfl (Keeps.const _) (StepOk.plain (g := (fun v _ => v = .pointer (some ⟨b, off + 0, none⟩))) rfl rfl rfl (fun a w hs hR hr pre => ?_)) ?_
    · have e29 : a.eval (.tmp 29) = .slice (some ⟨b, off, none⟩) 2 c := pre 0 (by decide)
      exact wp_pure (run_ixI (k := 0) rfl (by decide) e29) rfl
    refine Each.cons rfl (Keeps.const _) (StepOk.plain (g := (fun v _ => v = .int .i64 t)) rfl rfl rfl (fun a w hs hR hr pre => ?_)) ?_
    · have e30 : a.eval (.tmp 30) = .pointer (some ⟨b, off + 0, none⟩) := pre 1 (by decide)
      exact wp_pure (run_ldI rfl e30 ((hR.cell (p := ⟨b, _, none⟩) HL.out).trans Ht.out)) rfl
    refine Each.cons rfl (Keeps.const _) (StepOk.plain (g := (fun v _ => v = .slice (some ⟨b, off, none⟩) 2 c)) rfl rfl rfl (fun a w hs hR hr pre => ?_)) ?_
    · have ep : a.eval (.tmp 1) = .slice (some ⟨b, off, none⟩) 2 c := hr 1 (by decide)
      exact wp_pure (run_move rfl) ep
    refine Each.cons rfl (Keeps.const _) (StepOk.plain (g := (fun v _ => v = .pointer (some ⟨b, off + 1, none⟩))) rfl rfl rfl (fun a w hs hR hr pre => ?_)) ?_
    · have e32 : a.eval (.tmp 32) = .slice (some ⟨b, off, none⟩) 2 c := pre 3 (by decide)
      exact wp_pure (run_ixI (k := 1) rfl (by decide) e32) rfl
    refine Each.cons rfl (Keeps.const _) (StepOk.plain (g := (fun v _ => v = .int .i64 u)) rfl rfl rfl (fun a w hs hR hr pre => ?_)) ?_
    · have e33 : a.eval (.tmp 33) = .pointer (some ⟨b, off + 1, none⟩) := pre 4 (by decide)
      exact wp_pure (run_ldI rfl e33 ((hR.cell (p := ⟨b, _, none⟩) HL.out).trans Hu.out)) rfl
    refine Each.cons rfl (Keeps.const _) (StepOk.plain (g := (fun v _ => v = .tuple #[.int .i64 m, v0])) rfl rfl rfl (fun a w hs hR hr pre => ?_)) ?_
    · have e31 : a.eval (.tmp 31) = .int .i64 t := pre 2 (by decide)
      have e34 : a.eval (.tmp 34) = .int .i64 u := pre 5 (by decide)
      exact wp_fn (vs := #[.int .i64 t, .int .i64 u]) rfl Tryz.func70 (by kernel_rfl) (by kernel_rfl) (by simp only [List.map_toArray, List.map_cons, List.map_nil, e31, e34]) ((HC.out w).mono fun _ _ ⟨h1, h2⟩ => ⟨_, h1, h2 ▸ Below.refl _ _, rfl⟩)
    refine Each.cons rfl (Keeps.const _) (StepOk.plain (g := (fun v _ => v = .int .i64 m)) rfl rfl rfl (fun a w hs hR hr pre => ?_)) ?_
    · have e35 : a.eval (.tmp 35) = .tuple #[.int .i64 m, v0] := pre 6 (by decide)
      exact wp_pure (run_xt0 rfl e35) rfl
    refine Each.cons rfl (Keeps.const _) (StepOk.plain (g := (fun v _ => v = v0)) rfl rfl rfl (fun a w hs hR hr pre => ?_)) ?_
    · have e35 : a.eval (.tmp 35) = .tuple #[.int .i64 m, v0] := pre 6 (by decide)
      exact wp_pure (run_xt1 rfl e35) rfl
    refine Each.cons rfl (Keeps.const _) (StepOk.plain (g := (fun v _ => v = .int .i64 m)) rfl rfl rfl (fun a w hs hR hr pre => ?_)) ?_
    · have e36 : a.eval (.tmp 36) = .int .i64 m := pre 7 (by decide)
      exact wp_pure (run_assign rfl) e36
    refine Each.cons rfl (Keeps.const _) (StepOk.plain (g := (fun v _ => v = v0)) rfl rfl rfl (fun a w hs hR hr pre => ?_)) ?_
    · have e37 : a.eval (.tmp 37) = v0 := pre 8 (by decide)
      exact wp_pure (run_assign rfl) e37
    exact Each.nil
  · intro v w1 hB hG
    have e9 : v 9 = .int .i64 m := hG 9 (by decide)
    have e10 : v 10 = v0 := hG 10 (by decide)
    clear hG
    simp only [List.take_succ_cons, List.take_zero, puts, Act.put, List.setIfInBounds_toArray, List.set_cons_zero, List.set_cons_succ, Nat.reduceAdd, e9, e10]
    have HB9 := Lib.hid (bt (Below.drew (Below.refl _ _)) hB)
    clear hB
    refine wpAny_done (by kernel_rfl) ?_ _
    go_wp2_with fail
    exact bodyPost_ret (v := .tuple #[.int .i64 m, v0]) (by simp [results, Tryz.results54, go_sem]) rfl ⟨rfl, HB9.out⟩
end Go.Proofs.YtofhaokaldpmaaaGreatDoor
end
section
namespace Go.Proofs.YtofhaokaldpmaaaGreatDoor
open Go.RowKit Go.Shelf
attribute [local go_sem] Oper.semAt_some

mutual
def tyX (cols : List Co) : Ex → Except Int Int
  | .mk h l => match tysX cols l with
    | .error c => .error c
    | .ok ts => if h.k = 1 then .ok h.vk else if h.k = 2 then colT cols h.n else if h.k = 4 then aggT h.n ts else opT h.n ts
def tysX (cols : List Co) : List Ex → Except Int (List Int)
  | [] => .ok []
  | x :: r => match tyX cols x with
    | .error c => .error c
    | .ok t => match tysX cols r with
      | .error c => .error c
      | .ok ts => .ok (t :: ts)
end
theorem tysX_len {cols : List Co} : ∀ {l : List Ex} {ts : List Int}, tysX cols l = .ok ts → ts.length = l.length
  | [], ts, h => by rw [tysX] at h; obtain rfl := Except.ok.inj h; rfl
  | x :: r, ts, h => by
    rw [tysX] at h
    cases hx : tyX cols x with
    | error c => rw [hx] at h; cases h
    | ok t =>
      cases hr : tysX cols r with
      | error c => rw [hx, hr] at h; cases h
      | ok u =>
        rw [hx, hr] at h
        obtain rfl := Except.ok.inj h
        rw [List.length_cons, List.length_cons, tysX_len hr]
theorem tysX_app {cols : List Co} : ∀ (l : List Ex) (x : Ex), tysX cols (l ++ [x]) = match tysX cols l with
    | .error c => .error c
    | .ok a => match tyX cols x with
      | .error c => .error c
      | .ok t => .ok (a ++ [t])
  | [], x => by
    rw [List.nil_append, tysX, tysX]
    cases tyX cols x <;> rfl
  | z :: r, x => by
    rw [List.cons_append, tysX, tysX_app r x, tysX]
    cases tyX cols z <;> cases tysX cols r <;> cases tyX cols x <;> rfl
theorem tysX_err {cols : List Co} {c : Int} : ∀ {l : List Ex} {k : Nat} {x : Ex} {a : List Int}, l[k]? = some x → tysX cols (l.take k) = .ok a → tyX cols x = .error c → tysX cols l = .error c
  | [], k, x, a, h, _, _ => by simp at h
  | y :: r, 0, x, a, h, _, hx => by
    obtain rfl : y = x := by simpa using h
    rw [tysX, hx]
  | y :: r, k + 1, x, a, h, ht, hx => by
    rw [List.take_succ_cons, tysX] at ht
    cases hy : tyX cols y with
    | error c' => rw [hy] at ht; cases ht
    | ok t =>
      cases hr : tysX cols (r.take k) with
      | error c' => rw [hy, hr] at ht; cases ht
      | ok u => rw [tysX, hy, tysX_err (l := r) (k := k) (by simpa using h) hr hx]
theorem inAt_own {W : World} {base : Nat} {v : Value} {xs : List Int} (h : W.ownsRow base 3 1 v xs.length (xs.map (Value.int .i64))) : ∃ A cap, v = .slice A xs.length cap ∧ xs.length ≤ cap ∧ InAt W A xs := by
  rcases h.2 with ⟨rfl, h0⟩ | ⟨g, cap, cur, hv, hb1, hg, hc, hm, hsz, ht⟩
  · obtain rfl : xs = [] := List.eq_nil_of_length_eq_zero h0
    exact ⟨none, 0, rfl, Nat.le_refl _, .inl rfl⟩
  · have hgl : g < W.heap.size := by
      rcases Nat.lt_or_ge g W.heap.size with h | h
      · exact h
      · rw [Array.getElem?_eq_none h] at hg; cases hg
    refine ⟨_, cap, hv, hc, .inr ⟨g, 0, rfl, hgl, fun i u hu => ?_⟩⟩
    have hi := (List.getElem?_eq_some_iff.1 hu).1
    have e : cur.toList[i]? = (xs.map (Value.int .i64))[i]? := by rw [← ht, List.getElem?_take_of_lt (by omega)]
    rw [Nat.zero_add]
    simp only [World.cell?, hg]
    rw [← Array.getElem?_toList, e, List.getElem?_map, hu]
    simp
theorem info_intT : (Tryz.prog.info? 3).map (fun i => (i.zero, i.size, i.bytes)) = some (some (.int .i64 0), 1, 8) := by kernel_rfl
/-- What each answers of types. -/
def EachT (w : World) (o : Except Int (List Int)) (e : Ending) (w' : World) : Prop := match o with
  | .ok ts => ∃ A cap, e = .returned (.tuple #[.slice A ts.length cap, .nilIface]) ∧ InAt w' A ts ∧ Below w.heap.size w w'
  | .error c => e = .returned (.tuple #[.slice none 0 0, errV c]) ∧ Below w.heap.size w w'
structure Iown (w W : World) (v : Value) (xs : List Int) : Prop where
  own : W.ownsRow w.heap.size 3 1 v xs.length (xs.map (Value.int .i64))
  bel : Below w.heap.size w W
theorem Iown.below {w W W' : World} {v : Value} {xs : List Int} (h : Iown w W v xs) (hb : Below W.heap.size W W') : Iown w W' v xs :=
  ⟨⟨h.own.1, by
    rcases h.own.2 with hn | ⟨g, cap, cur, hv, hb1, hg, hc, hm, hsz, ht⟩
    · exact .inl hn
    · exact .inr ⟨g, cap, cur, hv, hb1, (hb.block g (by
        rcases Nat.lt_or_ge g W.heap.size with h | h
        · exact h
        · rw [Array.getElem?_eq_none h] at hg; cases hg)).trans hg, hc, hm, hsz, ht⟩⟩, bt h.bel hb⟩
set_option maxRecDepth 100000 in
set_option maxHeartbeats 8000000 in
theorem eachI_of (cols : List Co) (p3 : Nat) (l : List Ex) (hll : l.length ≤ 1000000) (w : World) (A : Option Addr) (cap : Nat) (hX : XsAt w.heap.size w l A)
    (hC : ∀ (i : Nat) (h' : Hd) (l' : List Ex), l[i]? = some (.mk h' l') → ∀ W1, Below w.heap.size w W1 → ∀ A' cap', XsAt W1.heap.size W1 l' A' → l'.length ≤ cap' →
      Calls Tryz.prog 51 #[XV h' A' l'.length cap', .pointer (some ⟨p3, 0, none⟩)] W1 fun e W2 => e = .returned (teV (tyX cols (.mk h' l'))) ∧ Below W1.heap.size W1 W2) :
    Calls Tryz.prog 50 #[.slice A l.length cap, .func (.func 51) #[] #[.pointer (some ⟨p3, 0, none⟩)]] w (EachT w (tysX cols l)) := by
  have eg := enters_of Tryz.func51 (by kernel_rfl) rfl
  unfold Enters at eg
  obtain ⟨i0, hi, hz0, hz1, hz2⟩ := info_parts info_intT
  have HXs := Lib.hid hX
  have HI := Lib.hid hC
  obtain ⟨F, hF⟩ : ∃ F, tysX cols l = F := ⟨_, rfl⟩
  have HF := Lib.hid hF
  rw [hF]
  clear hX hC hF
  go_enter Tryz.func50, Tryz.ntmps50
  go_wp2_with fail
  go_loopw [13, 6] (fun i v W => ∃ (k : Nat) (ts : List Int), k ≤ l.length ∧ i = .int .i64 k ∧ Hid (tysX cols (l.take k) = .ok ts) ∧ Hid (Iown w W v ts)) (fun i _ _ => l.length - (intOf i).toNat)
  case atStart => exact ⟨0, [], Nat.zero_le _, rfl, Lib.hid (by rw [List.take_zero, tysX]), Lib.hid ⟨World.ownsRow_nil _ _ _ _, Below.refl _ _⟩⟩
  case round =>
    obtain ⟨k, ts, hk, rfl, HP, HW⟩ := hrel
    have hkl : ts.length = k := by rw [tysX_len HP.out, List.length_take]; omega
    by_cases hkn : k < l.length
    · obtain ⟨x, hx⟩ : ∃ x, l[k]? = some x := ⟨_, List.getElem?_eq_getElem hkn⟩
      obtain ⟨h, l'⟩ := x
      have hT : l.take (k + 1) = l.take k ++ [.mk h l'] := by rw [List.take_add_one, hx]; rfl
      have HT := Lib.hid (fun t (ht : tyX cols (.mk h l') = .ok t) => show tysX cols (l.take (k + 1)) = .ok (ts ++ [t]) by rw [hT, tysX_app, HP.out]; simp only [ht])
      have HNo := Lib.hid (fun c (e : tyX cols (.mk h l') = .error c) => tysX_err hx HP.out e)
      obtain ⟨g, off, A', cap', rfl, hg, hX, hle', hl'⟩ := HXs.out.at hx
      have hXr := hX.of (HW.out.bel.block g hg)
      obtain ⟨c0, c1, c2, c3, c4, c5, c6, c7⟩ := hXr
      have hb1 := HW.out.bel
      have hba := ba wr (xbox h A' l'.length cap')
      have hC1 := HI.out k h l' hx (wr.alloc (xbox h A' l'.length cap')) (bt hb1 hba) A' cap' (XsAt.next hl' (bt hb1 hba)) hle'
      have HXb := Lib.hid (MapKept.heap_alloc wr (xbox h A' l'.length cap')).1
      obtain ⟨⟨x0, x1, x2, x3, x4, x5, x6, x7⟩, _⟩ := cell8 HXb.out
      have HW1 := Lib.hid (HW.out.below hba)
      clear hX hl' hx hg hT hb1 hba
      cases hpx : tyX cols (.mk h l') with
      | error c =>
        rw [hpx, show teV (.error c) = .tuple #[.int .i64 0, errV c] from rfl] at hC1
        have HC := Lib.hid hC1
        obtain rfl : F = .error c := HF.out.symm.trans (HNo.out c hpx)
        clear hC1 hpx
        go_wp2_with fail
        refine HC.out.mono ?_
        rintro e w3 ⟨rfl, hb3⟩
        have HB3 := Lib.hid (HW1.out.below hb3).bel
        clear hb3 c0 c1 c2 c3 c4 c5 c6 c7 x0 x1 x2 x3 x4 x5 x6 x7
        go_wp2_with fail
        exact bodyPost_ret (v := .tuple #[.slice none 0 0, errV c]) (by simp [results, Tryz.results50, go_sem]) rfl ⟨rfl, HB3.out⟩
      | ok t =>
        rw [hpx, show teV (.ok t) = .tuple #[.int .i64 t, .nilIface] from rfl] at hC1
        have HC := Lib.hid hC1
        have HT2 := Lib.hid (HT.out t hpx)
        clear hC1 hpx HT HNo
        go_wp2_with fail
        refine HC.out.mono ?_
        rintro e w3 ⟨rfl, hb3⟩
        have H3 := Lib.hid (HW1.out.below hb3)
        have hle3 := H3.out.bel.size
        clear hb3 c0 c1 c2 c3 c4 c5 c6 c7 x0 x1 x2 x3 x4 x5 x6 x7 HC HXb HW1 HW
        go_wp2_with (at_builtin; refine wpList_append_own _ rfl _ _ 42 rfl w.heap.size 3 i0 (.int .i64 0) 1 8 Tryz.underlying42 hi hz0 hz1 hz2 rfl (by decide) _ _ _ rfl (H3.out.own.alloc _) ⟨w3.heap.size, 0, none⟩ 1 1 [.int .i64 t] rfl rfl ?c1 ?c2 ?c3 ?c4 ?c5 ?_)
        case c1 =>
          intro j u hj
          match j, hj with
          | 0, hj => simp at hj; subst hj; simp [Addr.add]
        case c2 => intro u hu; simp at hu; subst hu; rfl
        case c3 => unfold maxLen; omega
        case c4 => omega
        case c5 => simp; omega
        intro v' w5 hown' hg5 _
        have H5 := Lib.hid (show Iown w w5 v' (ts ++ [t]) from ⟨by rw [List.length_append, List.map_append, hkl]; exact hown', (bt H3.out.bel (ba w3 _)).grown hg5 (by have := H3.out.bel.size; simp; omega) (fun k hk => (H3.out.own.lt k hk).1)⟩)
        clear hown' hg5 hle3
        go_wp2_with fail
        go_roundw
        case rel => exact ⟨k + 1, ts ++ [t], by omega, by go_num, HT2, H5⟩
        case measure => simp [intOf]; omega
    · obtain rfl : k = l.length := by omega
      have hP := HP.out
      rw [List.take_length] at hP
      obtain rfl : F = .ok ts := HF.out.symm.trans hP
      obtain ⟨A2, cap2, rfl, hle2, hx2⟩ := inAt_own HW.out.own
      have HE := Lib.hid hx2
      have HB := Lib.hid HW.out.bel
      clear hx2 hP
      go_wp2_with fail
      exact bodyPost_ret (v := .tuple #[.slice A2 ts.length cap2, .nilIface]) (by simp [results, Tryz.results50, go_sem]) rfl ⟨A2, cap2, rfl, HE.out, HB.out⟩
end Go.Proofs.YtofhaokaldpmaaaGreatDoor
end
