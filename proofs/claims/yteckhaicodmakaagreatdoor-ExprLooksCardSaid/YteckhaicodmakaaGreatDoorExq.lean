/-
  Texts of expressions are those of one expression alone, but for columns' places.
-/
import Derived.Test.YteckhaicodmakaaGreatDoorExp
import Derived.Test.YteckhaicodmakaaGreatDoorExa
namespace Go.Proofs.YteckhaicodmakaaGreatDoor
open Go.RowKit Go.Shelf

/-- What may follow an expression's text. -/
def Fol (r : Lx.B) : Prop := ∀ c, r.head? = some c → c = 32 ∨ c = 41
theorem fol_nil : Fol [] := by intro c h; simp at h
theorem fol_par (r : Lx.B) : Fol (41 :: r) := by intro c h; simp at h; exact .inr h.symm
theorem fol_blank (r : Lx.B) : Fol (32 :: r) := by intro c h; simp at h; exact .inl h.symm
theorem head_eq {w w' r r' : Lx.B} {t t' : Lx.Tok} (h : Lx.TokOf w t) (h' : Lx.TokOf w' t') (hf : Lx.Foll w r.head?) (hf' : Lx.Foll w' r'.head?) (e : w ++ r = w' ++ r') : t = t' ∧ w = w' ∧ r = r' := by
  have e1 := Lx.cut_of h hf
  have e2 := Lx.cut_of h' hf'
  rw [e, e2] at e1
  simp only [Option.some.injEq, Prod.mk.injEq] at e1
  obtain ⟨e0, hl⟩ := e1
  have := List.append_inj e hl.symm
  exact ⟨e0.symm, this.1, this.2⟩
theorem foll_sep {w : Lx.B} {o : Option UInt8} (h : ∀ c, o = some c → c = 32 ∨ c = 41 ∨ c = 40 ∨ c = 46) : Lx.Foll w o := by
  intro x hx
  rcases h x hx with rfl | rfl | rfl | rfl <;> exact ⟨fun _ => by decide, fun _ => by decide, fun _ => by decide, fun _ => by decide⟩
theorem foll_paren (o : Option UInt8) : Lx.Foll [40] o := by
  intro x _
  refine ⟨?_, ?_, ?_, ?_⟩
  · rintro ⟨c, r, hc, hw⟩
    simp only [List.cons.injEq] at hc
    obtain ⟨rfl, _⟩ := hc
    exact absurd hw (by decide)
  · rintro ⟨r, hr⟩; simp at hr
  · intro h; simp at h
  · intro h; simp at h

/-! Digits. -/
theorem valq_snoc (l : Lx.B) (c : UInt8) : Lx.val (l ++ [c]) = 10 * Lx.val l + (c.toNat - 48) := by simp [Lx.val]
theorem digit_at {d : Nat} (h : d < 10) : (UInt8.ofNat (48 + d)).toNat = 48 + d := by
  have : ∀ d : Fin 10, (UInt8.ofNat (48 + d.1)).toNat = 48 + d.1 := by decide
  exact this ⟨d, h⟩
theorem dec_plain : ∀ u : Nat, Lx.val (Lib.decDigits u) = u ∧ (∀ x ∈ Lib.decDigits u, Lx.digit x = true) ∧ Lib.decDigits u ≠ [] := by
  intro u
  induction u using Nat.strongRecOn with
  | _ u ih =>
    by_cases h : u < 10
    · rw [Lib.decDigits, dif_pos h]
      have e := digit_at h
      refine ⟨by simp only [Lx.val, List.foldl_cons, List.foldl_nil, e]; omega, fun x hx => ?_, by simp⟩
      obtain rfl : x = UInt8.ofNat (48 + u) := by simpa using hx
      simp only [Lx.digit, decide_eq_true_eq, e]; omega
    · rw [Lib.decDigits, dif_neg h]
      obtain ⟨h1, h2, _⟩ := ih (u / 10) (by omega)
      have e := digit_at (show u % 10 < 10 by omega)
      refine ⟨by rw [valq_snoc, h1, e]; omega, fun x hx => ?_, by simp⟩
      rcases List.mem_append.1 hx with hx | hx
      · exact h2 x hx
      · obtain rfl : x = UInt8.ofNat (48 + u % 10) := by simpa using hx
        simp only [Lx.digit, decide_eq_true_eq, e]; omega
theorem dec_tok {u : Nat} (h : u ≤ 9007199254740991) : Lx.TokOf (Lib.decDigits u) ⟨3, Lib.decDigits u, u⟩ := by
  obtain ⟨h1, h2, h3⟩ := dec_plain u
  cases hd : Lib.decDigits u with
  | nil => exact absurd hd h3
  | cons c r =>
    have := Lx.TokOf.num (w := Lib.decDigits u) (c := c) (r := r) hd h2 (by omega)
    rw [h1, hd] at this
    exact this
theorem itoa_dec {n : Int} (h : 0 ≤ n) : Lib.itoa n = Lib.decDigits n.toNat := by
  unfold Lib.itoa
  rw [if_neg (by omega)]

/-! Literals. -/
def litT (k n : Int) (s : ByteArray) : Lx.Tok :=
  if k = 1 then (if n = 1 then ⟨2, [84, 82, 85, 69], 0⟩ else ⟨2, [70, 65, 76, 83, 69], 0⟩)
  else if k = 2 then ⟨3, Lib.decDigits n.toNat, n.toNat⟩ else if k = 3 then ⟨4, bs s, 0⟩ else ⟨2, [78, 85, 76, 76], 0⟩
theorem key_tok {w : Lx.B} (h : Lx.key w = true) (hl : ∃ c r, w = c :: r ∧ Lx.letter c = true) (ha : w.all Lx.wordy = true) (hn : w.length ≤ 24) : Lx.TokOf w ⟨2, w, 0⟩ := by
  obtain ⟨c, r, hw, hc⟩ := hl
  have := Lx.TokOf.word hw hc (fun x hx => List.all_eq_true.1 ha x hx) hn
  rwa [if_pos h] at this
theorem lit_tok {k n : Int} {s : ByteArray} (h : litB k n s = true) : Lx.TokOf (showL k n s) (litT k n s) := by
  have hok : okV k n s = true := by
    cases ho : okV k n s with
    | true => rfl
    | false => rw [litB, ho] at h; cases h
  unfold showL litT
  rw [if_pos hok]
  by_cases h1 : k = 1
  · rw [if_pos h1, if_pos h1]
    split
    · exact key_tok (by decide +kernel) ⟨84, [82, 85, 69], rfl, by decide⟩ (by decide) (by decide)
    · exact key_tok (by decide +kernel) ⟨70, [65, 76, 83, 69], rfl, by decide⟩ (by decide) (by decide)
  · rw [if_neg h1, if_neg h1]
    by_cases h2 : k = 2
    · subst h2
      rw [if_pos rfl, if_pos rfl]
      have hb : n ≤ 9007199254740991 := by simp [okV] at hok; exact hok.1.2
      have h0 : 0 ≤ n := by rw [litB, hok] at h; simpa using h
      rw [itoa_dec h0]
      exact dec_tok (by omega)
    · rw [if_neg h2, if_neg h2]
      by_cases h3 : k = 3
      · subst h3
        rw [if_pos rfl, if_pos rfl]
        have h64 : s.size ≤ 64 := by simp [okV] at hok; exact hok.2
        exact Lx.TokOf.text (s := bs s) (by simpa using h64)
      · rw [if_neg h3, if_neg h3]
        exact key_tok (by decide +kernel) ⟨78, [85, 76, 76], rfl, by decide⟩ (by decide) (by decide)
theorem ba_eq {a b : ByteArray} (h : bs a = bs b) : a = b := by
  apply ByteArray.ext
  exact Array.toList_inj.1 h
theorem ba_nil {a : ByteArray} (h : a.size = 0) : a = ⟨#[]⟩ := by
  apply ba_eq
  apply List.eq_nil_of_length_eq_zero
  simpa using h
theorem lit_inj {k n k' n' : Int} {s s' : ByteArray} (h : litB k n s = true) (h' : litB k' n' s' = true) (e : litT k n s = litT k' n' s') : k = k' ∧ n = n' ∧ s = s' := by
  have ok : ∀ {k n : Int} {s : ByteArray}, litB k n s = true → (k = 0 ∧ n = 0 ∧ s = ⟨#[]⟩) ∨ (k = 1 ∧ (n = 0 ∨ n = 1) ∧ s = ⟨#[]⟩) ∨ (k = 2 ∧ 0 ≤ n ∧ s = ⟨#[]⟩) ∨ (k = 3 ∧ n = 0) := by
    intro k n s h
    have hok : okV k n s = true := by
      cases ho : okV k n s with
      | true => rfl
      | false => rw [litB, ho] at h; cases h
    have hz : s.toList = [] → s = ⟨#[]⟩ := fun h => ba_eq (by rw [ByteArray.toList_eq] at h; simpa using h)
    by_cases h0 : k = 0
    · subst h0; simp [okV] at hok; exact .inl ⟨rfl, hok.1, hz hok.2⟩
    by_cases h1 : k = 1
    · subst h1; simp [okV] at hok; exact .inr (.inl ⟨rfl, hok.1, hz hok.2⟩)
    by_cases h2 : k = 2
    · subst h2; rw [litB, hok] at h; simp [okV] at hok; exact .inr (.inr (.inl ⟨rfl, by simpa using h, hz hok.2⟩))
    by_cases h3 : k = 3
    · subst h3; simp [okV] at hok; exact .inr (.inr (.inr ⟨rfl, hok.1⟩))
    · simp [okV, h0, h1, h2, h3] at hok
  have hd : ∀ {n n' : Int}, 0 ≤ n → 0 ≤ n' → n.toNat = n'.toNat → n = n' := by intro n n' h1 h2 h3; omega
  rcases ok h with ⟨rfl, rfl, rfl⟩ | ⟨rfl, hn, rfl⟩ | ⟨rfl, hn, rfl⟩ | ⟨rfl, rfl⟩ <;> rcases ok h' with ⟨rfl, rfl, rfl⟩ | ⟨rfl, hn', rfl⟩ | ⟨rfl, hn', rfl⟩ | ⟨rfl, rfl⟩
  all_goals try exact ⟨rfl, rfl, rfl⟩
  all_goals simp only [litT] at e
  all_goals try (rcases hn with rfl | rfl <;> simp at e <;> done)
  all_goals try (rcases hn' with rfl | rfl <;> simp at e <;> done)
  all_goals try (simp at e; done)
  · rcases hn with rfl | rfl <;> rcases hn' with rfl | rfl <;> simp at e <;> exact ⟨rfl, rfl, rfl⟩
  · simp at e; exact ⟨rfl, hd hn hn' e.2, rfl⟩
  · simp at e; exact ⟨rfl, rfl, ba_eq (by simpa using e)⟩

/-! Columns. -/
theorem name_tok {s : ByteArray} (h : isName s = true) : Lx.TokOf (bs s) ⟨1, bs s, 0⟩ := by
  unfold isName at h
  cases hc : Lx.cut (bs s) with
  | none => rw [hc] at h; cases h
  | some tz =>
    obtain ⟨t, z⟩ := tz
    rw [hc] at h
    simp only [Bool.and_eq_true, decide_eq_true_eq] at h
    have hne : bs s ≠ [] := by
      intro e
      rw [e, Lx.cut] at hc
      simp only [Option.some.injEq, Prod.mk.injEq] at hc
      have := h.1
      rw [← hc.1] at this
      cases this
    obtain ⟨h1, h2, _⟩ := Lx.cut_inv hne hc
    have hz : (bs s).take z = bs s := List.take_of_length_le (by rw [h.2]; simp)
    rw [hz] at h2
    have h1 := h.1
    clear hz hc hne h
    generalize bs s = L at h2
    cases h2 with
    | word hw hl ha hn =>
      by_cases hk : Lx.key L = true
      · rw [if_pos hk] at h1; cases h1
      · have e := Lx.TokOf.word hw hl ha hn
        rw [if_neg hk] at e
        exact e
    | num hw ha hn => cases h1
    | text hs => cases h1
    | sign hs => cases h1
/-- What is left of a column's text behind its first word. -/
theorem col_form {t c : ByteArray} (h : colB t c = true) : (t = ⟨#[]⟩ ∧ colX t c = bs c ++ [] ∧ Lx.TokOf (bs c) ⟨1, bs c, 0⟩) ∨ (colX t c = bs t ++ 46 :: bs c ∧ Lx.TokOf (bs t) ⟨1, bs t, 0⟩ ∧ Lx.TokOf (bs c) ⟨1, bs c, 0⟩) := by
  rw [colB, Bool.and_eq_true] at h
  have hc := name_tok h.1
  unfold colX
  cases ht : t.toList.isEmpty with
  | true =>
    refine .inl ⟨ba_eq ?_, by simp, hc⟩
    rw [ByteArray.toList_eq] at ht
    simpa using ht
  | false =>
    rw [ht, Bool.false_or] at h
    exact .inr ⟨by simp, name_tok h.2, hc⟩
theorem vless {h : Hd} (hv : valuelessB h = true) : h.vk = 0 ∧ h.vn = 0 ∧ h.vs = ⟨#[]⟩ := by
  simp only [valuelessB, eqV, Bool.and_eq_true, beq_iff_eq] at hv
  refine ⟨hv.1.1, hv.1.2, ba_eq ?_⟩
  have := hv.2
  rw [ByteArray.toList_eq, ByteArray.toList_eq] at this
  exact this
theorem nless {h : Hd} (hv : namelessB h = true) : h.tab = ⟨#[]⟩ ∧ h.col = ⟨#[]⟩ := by
  simp only [namelessB, Bool.and_eq_true] at hv
  rw [ByteArray.toList_eq, ByteArray.toList_eq] at hv
  exact ⟨ba_eq (by simpa using hv.1), ba_eq (by simpa using hv.2)⟩

/-! Its first token. -/
def aggW (n : Int) : Lx.B := if n = 3 then [83, 85, 77] else if n = 4 then [77, 73, 78] else if n = 5 then [77, 65, 88] else [67, 79, 85, 78, 84]
theorem aggW_tok (n : Int) : Lx.TokOf (aggW n) ⟨2, aggW n, 0⟩ := by
  unfold aggW
  repeat' split
  · exact key_tok (by decide +kernel) ⟨83, [85, 77], rfl, by decide⟩ (by decide) (by decide)
  · exact key_tok (by decide +kernel) ⟨77, [73, 78], rfl, by decide⟩ (by decide) (by decide)
  · exact key_tok (by decide +kernel) ⟨77, [65, 88], rfl, by decide⟩ (by decide) (by decide)
  · exact key_tok (by decide +kernel) ⟨67, [79, 85, 78, 84], rfl, by decide⟩ (by decide) (by decide)
theorem aggX_form (n : Int) (f : List UInt8) (h : 1 ≤ n ∧ n ≤ 5) : aggX n f = aggW n ++ 40 :: (if n = 1 then [42, 41] else f ++ [41]) := by
  rcases (show n = 1 ∨ n = 2 ∨ n = 3 ∨ n = 4 ∨ n = 5 by omega) with rfl | rfl | rfl | rfl | rfl <;> simp [aggX, aggW]
/-- Which kind a first token tells. -/
def clsT (t : Lx.Tok) : Int := if t.k = 1 then 2 else if t.k = 5 then 3 else if t.k = 2 ∧ (t.s = [83, 85, 77] ∨ t.s = [77, 73, 78] ∨ t.s = [77, 65, 88] ∨ t.s = [67, 79, 85, 78, 84]) then 4 else 1
structure FstT (x : Ex) (w : Lx.B) (t : Lx.Tok) (s : Lx.B) : Prop where
  tok : Lx.TokOf w t
  eq : shwX x = w ++ s
  foll : ∀ r, Fol r → Lx.Foll w (s ++ r).head?
  cls : clsT t = x.hd.k
  notn : ¬ (t.k = 2 ∧ t.s = [78, 79, 84]) ∧ ¬ (t.k = 5 ∧ t.s ≠ [40])
theorem clsT_lit {k n : Int} {s : ByteArray} : clsT (litT k n s) = 1 := by
  unfold litT
  repeat' split
  all_goals simp [clsT]
theorem fst_of : ∀ (h : Hd) (l : List Ex), fitsB h l.length = true → ∃ w t s, FstT (.mk h l) w t s := by
  intro h l hf
  unfold fitsB at hf
  by_cases h1 : h.k = 1
  · rw [if_pos h1] at hf
    simp only [Bool.and_eq_true] at hf
    refine ⟨_, _, [], lit_tok hf.1.1.1, by rw [shwX, if_pos h1, List.append_nil], fun r hr => foll_sep fun c hc => ?_, by rw [clsT_lit]; exact h1.symm, ?_⟩
    · rcases hr c hc with h | h
      · exact .inl h
      · exact .inr (.inl h)
    · unfold litT
      repeat' split
      all_goals simp
  · rw [if_neg h1] at hf
    by_cases h2 : h.k = 2
    · rw [if_pos h2] at hf
      simp only [Bool.and_eq_true] at hf
      rcases col_form hf.1.1.1.1 with ⟨_, e, ht⟩ | ⟨e, ht, _⟩
      · refine ⟨_, _, [], ht, by rw [shwX, if_neg h1, if_pos h2]; exact e, fun r hr => foll_sep fun c hc => ?_, by simp [clsT]; exact h2.symm, by simp⟩
        rcases hr c hc with h | h
        · exact .inl h
        · exact .inr (.inl h)
      · refine ⟨_, _, _, ht, by rw [shwX, if_neg h1, if_pos h2]; exact e, fun r hr => foll_sep fun c hc => ?_, by simp [clsT]; exact h2.symm, by simp⟩
        simp at hc; exact .inr (.inr (.inr hc.symm))
    · rw [if_neg h2] at hf
      by_cases h3 : h.k = 3
      · refine ⟨[40], ⟨5, [40], 0⟩, _, .sign (by decide), by rw [shwX, if_neg h1, if_neg h2, if_neg (by omega), List.append_assoc], fun r _ => foll_paren _, by simp [clsT]; exact h3.symm, by simp⟩
      · rw [if_neg h3] at hf
        by_cases h4 : h.k = 4
        · rw [if_pos h4] at hf
          simp only [Bool.and_eq_true] at hf
          have ha := hf.1.1
          have hn : 1 ≤ h.n ∧ h.n ≤ 5 := by
            unfold aggB at ha
            split at ha
            · omega
            · simp only [Bool.and_eq_true, decide_eq_true_eq] at ha; omega
          refine ⟨_, _, _, aggW_tok h.n, by rw [shwX, if_neg h1, if_neg h2, if_pos h4]; exact aggX_form h.n _ hn, fun r _ => foll_sep fun c hc => ?_, ?_, ?_⟩
          · simp at hc; exact .inr (.inr (.inl hc.symm))
          · rw [show (Ex.mk h l).hd.k = h.k from rfl, h4]
            unfold aggW
            repeat' split
            all_goals simp [clsT]
          · unfold aggW
            repeat' split
            all_goals simp
        · rw [if_neg h4] at hf; cases hf
/-- Without columns' places. -/
def plnH (h : Hd) : Hd := if h.k = 2 then { h with n := 0 } else h
mutual
def plnX : Ex → Ex
  | .mk h l => .mk (plnH h) (plnXs l)
def plnXs : List Ex → List Ex
  | [] => []
  | x :: r => plnX x :: plnXs r
end
theorem btw_inj : ∀ {m m' : Nat} {u u' : Lx.B}, 1 ≤ m ∧ m ≤ 14 ∧ m ≠ 3 → 1 ≤ m' ∧ m' ≤ 14 ∧ m' ≠ 3 → btw.getD m [] ++ 32 :: u = btw.getD m' [] ++ 32 :: u' → m = m' ∧ u = u' := by
  intro m m' u u' hm hm' e
  have ht : ∀ {m : Nat} {u : Lx.B}, 1 ≤ m ∧ m ≤ 14 ∧ m ≠ 3 → (btw.getD m [] ++ 32 :: u).takeWhile (fun c => c != 32) = btw.getD m [] := by
    intro m u hm
    refine Lx.takeWhile_all ?_ (by intro x hx; simp at hx; subst hx; decide)
    have : ∀ k : Fin 15, ∀ x ∈ btw.getD k.1 [], (x != 32) = true := by decide +kernel
    exact this ⟨m, by omega⟩
  have h1 := ht (u := u) hm
  rw [e, ht hm'] at h1
  have : ∀ k k' : Fin 15, btw.getD k.1 [] = btw.getD k'.1 [] → 1 ≤ k.1 ∧ k.1 ≠ 3 → 1 ≤ k'.1 ∧ k'.1 ≠ 3 → k.1 = k'.1 := by decide +kernel
  have hk := this ⟨m', by omega⟩ ⟨m, by omega⟩ h1 ⟨hm'.1, hm'.2.2⟩ ⟨hm.1, hm.2.2⟩
  simp only at hk
  subst hk
  exact ⟨rfl, by simpa using e⟩
theorem btw_is {m : Nat} {u v : Lx.B} (hm : 1 ≤ m ∧ m ≤ 14 ∧ m ≠ 3) : btw.getD m [] ++ 32 :: u ≠ 73 :: v := by
  have : ∀ k : Fin 15, (btw.getD k.1 []).head? ≠ some 73 ∧ ((1 ≤ k.1 ∧ k.1 ≠ 3) → btw.getD k.1 [] ≠ []) := by decide +kernel
  have := this ⟨m, by omega⟩
  simp only at this
  intro e
  cases hb : btw.getD m [] with
  | nil => exact this.2 ⟨hm.1, hm.2.2⟩ hb
  | cons c r =>
    rw [hb] at e this
    have h1 := this.1
    simp at h1 e
    exact h1 e.1

/-- What an operator is, with its parts. -/
theorem op_form {h : Hd} {l : List Ex} (hk : h.k = 3) (hf : fitsB h l.length = true) :
    (h.vk = 0 ∧ h.vn = 0 ∧ h.vs = ⟨#[]⟩ ∧ h.tab = ⟨#[]⟩ ∧ h.col = ⟨#[]⟩) ∧
    ((∃ x, l = [x] ∧ (h.n = 3 ∨ h.n = 15 ∨ h.n = 16 ∨ h.n = 17)) ∨ (∃ x y, l = [x, y] ∧ ∃ m : Nat, h.n = m ∧ 1 ≤ m ∧ m ≤ 14 ∧ m ≠ 3)) := by
  unfold fitsB at hf
  rw [if_neg (by omega), if_neg (by omega), if_pos hk] at hf
  simp only [Bool.and_eq_true, decide_eq_true_eq, beq_iff_eq] at hf
  obtain ⟨⟨⟨ha, hl⟩, hn⟩, hv⟩ := hf
  obtain ⟨v1, v2, v3⟩ := vless hv
  obtain ⟨n1, n2⟩ := nless hn
  refine ⟨⟨v1, v2, v3, n1, n2⟩, ?_⟩
  unfold arI at ha hl
  by_cases hu : h.n = 3 ∨ h.n = 15 ∨ h.n = 16 ∨ h.n = 17
  · rw [if_pos hu] at hl
    obtain ⟨x, rfl⟩ := List.length_eq_one_iff.1 (show l.length = 1 by omega)
    exact .inl ⟨x, rfl, hu⟩
  · rw [if_neg hu] at ha hl
    by_cases hv : 1 ≤ h.n ∧ h.n ≤ 17
    · rw [if_pos hv] at hl
      obtain ⟨x, y, rfl⟩ := len2 (show l.length = 2 by omega)
      exact .inr ⟨x, y, rfl, h.n.toNat, by omega, by omega, by omega, by omega⟩
    · rw [if_neg hv] at ha; omega
theorem agg_form {h : Hd} {l : List Ex} (hk : h.k = 4) (hf : fitsB h l.length = true) :
    (h.vk = 0 ∧ h.vn = 0 ∧ h.vs = ⟨#[]⟩ ∧ h.tab = ⟨#[]⟩ ∧ h.col = ⟨#[]⟩) ∧ ((h.n = 1 ∧ l = []) ∨ (∃ x, l = [x] ∧ 2 ≤ h.n ∧ h.n ≤ 5)) := by
  unfold fitsB at hf
  rw [if_neg (by omega), if_neg (by omega), if_neg (by omega), if_pos hk] at hf
  simp only [Bool.and_eq_true] at hf
  obtain ⟨⟨ha, hn⟩, hv⟩ := hf
  obtain ⟨v1, v2, v3⟩ := vless hv
  obtain ⟨n1, n2⟩ := nless hn
  refine ⟨⟨v1, v2, v3, n1, n2⟩, ?_⟩
  unfold aggB at ha
  by_cases h1 : h.n = 1
  · rw [if_pos h1] at ha
    exact .inl ⟨h1, List.eq_nil_of_length_eq_zero (by simpa using ha)⟩
  · rw [if_neg h1] at ha
    simp only [Bool.and_eq_true, decide_eq_true_eq, beq_iff_eq] at ha
    obtain ⟨x, rfl⟩ := List.length_eq_one_iff.1 (show l.length = 1 by omega)
    exact .inr ⟨x, rfl, by omega, by omega⟩
theorem hd_ext {h h' : Hd} (e1 : h.k = h'.k) (e2 : h.n = h'.n) (e3 : h.vk = h'.vk) (e4 : h.vn = h'.vn) (e5 : h.vs = h'.vs) (e6 : h.tab = h'.tab) (e7 : h.col = h'.col) : h = h' := by
  cases h; cases h'; simp_all
theorem opX_pre {n : Int} (f s : Lx.B) : (n = 3 → opX n f s = 78 :: 79 :: 84 :: 32 :: f) ∧ (n = 15 → opX n f s = 45 :: 32 :: f) ∧ (n = 16 → opX n f s = f ++ 32 :: 73 :: 83 :: 32 :: 78 :: 85 :: [76, 76]) ∧ (n = 17 → opX n f s = f ++ 32 :: 73 :: 83 :: 32 :: 78 :: 79 :: [84, 32, 78, 85, 76, 76]) := by
  refine ⟨?_, ?_, ?_, ?_⟩ <;> rintro rfl <;> simp [opX]
theorem opX_bin {m : Nat} (f s : Lx.B) (hm : 1 ≤ m ∧ m ≤ 14 ∧ m ≠ 3) : opX m f s = f ++ 32 :: (btw.getD m [] ++ 32 :: s) := by
  unfold opX
  rw [if_neg (by omega), if_neg (by omega), if_neg (by omega), if_neg (by omega), Int.toNat_natCast]
  simp
/-- The text of a fitting one never begins with NOT and a blank, nor with a sign but a bracket. -/
theorem not_first {x : Ex} (hf : FitX x) (r u : Lx.B) (hr : Fol r) : shwX x ++ r ≠ 78 :: 79 :: 84 :: 32 :: u ∧ shwX x ++ r ≠ 45 :: 32 :: u ∧ shwX x ++ r ≠ 42 :: 41 :: u := by
  obtain ⟨h, l⟩ := x
  rw [FitX] at hf
  obtain ⟨w, t, s, F⟩ := fst_of h l hf.1
  have hN : Lx.TokOf [78, 79, 84] ⟨2, [78, 79, 84], 0⟩ := key_tok (by decide +kernel) ⟨78, [79, 84], rfl, by decide⟩ (by decide) (by decide)
  rw [F.eq, List.append_assoc]
  refine ⟨fun e => ?_, fun e => ?_, fun e => ?_⟩
  · obtain ⟨rfl, _, _⟩ := head_eq (w' := [78, 79, 84]) (r' := 32 :: u) F.tok hN (F.foll r hr) (foll_sep (by intro c hc; simp at hc; exact .inl hc.symm)) (by simpa using e)
    exact F.notn.1 ⟨rfl, rfl⟩
  · obtain ⟨rfl, _, _⟩ := head_eq (w' := [45]) (r' := 32 :: u) F.tok (.sign (by decide)) (F.foll r hr) (foll_sep (by intro c hc; simp at hc; exact .inl hc.symm)) (by simpa using e)
    exact F.notn.2 ⟨rfl, by decide⟩
  · obtain ⟨rfl, _, _⟩ := head_eq (w' := [42]) (r' := 41 :: u) F.tok (.sign (by decide)) (F.foll r hr) (foll_sep (by intro c hc; simp at hc; exact .inr (.inl hc.symm))) (by simpa using e)
    exact F.notn.2 ⟨rfl, by decide⟩
set_option maxHeartbeats 4000000 in
theorem read_n : ∀ (n : Nat) (x y : Ex), cnt x ≤ n → FitX x → FitX y → ∀ (r r' : Lx.B), Fol r → Fol r' → shwX x ++ r = shwX y ++ r' → r = r' ∧ plnX x = plnX y := by
  intro n
  induction n with
  | zero => intro x y hc; have := cnt_pos x; omega
  | succ n ih =>
    intro x y hc hfx hfy r r' hr hr' e
    obtain ⟨h, l⟩ := x
    obtain ⟨h', l'⟩ := y
    have gx := hfx
    have gy := hfy
    rw [FitX] at gx gy
    rw [cnt_mk] at hc
    obtain ⟨w, t, s, F⟩ := fst_of h l gx.1
    obtain ⟨w', t', s', F'⟩ := fst_of h' l' gy.1
    have e0 := e
    rw [F.eq, F'.eq, List.append_assoc, List.append_assoc] at e0
    obtain ⟨et, ew, es⟩ := head_eq F.tok F'.tok (F.foll r hr) (F'.foll r' hr') e0
    have hk : h.k = h'.k := by
      have h1 := F.cls
      have h2 := F'.cls
      rw [et, h2] at h1
      exact h1.symm
    clear F F' e0 et ew es w w' t t' s s'
    have fx := gx.1
    have fy := gy.1
    unfold fitsB at fx fy
    by_cases h1 : h.k = 1
    · have h1' : h'.k = 1 := by omega
      rw [if_pos h1] at fx
      rw [if_pos h1'] at fy
      simp only [Bool.and_eq_true, beq_iff_eq] at fx fy
      obtain ⟨⟨⟨a1, a2⟩, a3⟩, a4⟩ := fx
      obtain ⟨⟨⟨b1, b2⟩, b3⟩, b4⟩ := fy
      obtain ⟨n1, n2⟩ := nless a3
      obtain ⟨m1, m2⟩ := nless b3
      obtain rfl : l = [] := List.eq_nil_of_length_eq_zero (by omega)
      obtain rfl : l' = [] := List.eq_nil_of_length_eq_zero (by omega)
      rw [shwX, if_pos h1, shwX, if_pos h1'] at e
      have fw : ∀ {r : Lx.B} {w : Lx.B}, Fol r → Lx.Foll w r.head? := fun hr => foll_sep fun c hc => (hr c hc).elim .inl fun h => .inr (.inl h)
      obtain ⟨et, _, er⟩ := head_eq (lit_tok a1) (lit_tok b1) (fw hr) (fw hr') e
      obtain ⟨q1, q2, q3⟩ := lit_inj a1 b1 et
      exact ⟨er, by rw [hd_ext hk (by rw [a2, b2]) q1 q2 q3 (by rw [n1, m1]) (by rw [n2, m2])]⟩
    · have h1' : ¬ h'.k = 1 := by omega
      by_cases h2 : h.k = 2
      · have h2' : h'.k = 2 := by omega
        rw [if_neg h1, if_pos h2] at fx
        rw [if_neg h1', if_pos h2'] at fy
        simp only [Bool.and_eq_true, beq_iff_eq] at fx fy
        obtain ⟨⟨⟨⟨a1, _⟩, _⟩, a3⟩, a4⟩ := fx
        obtain ⟨⟨⟨⟨b1, _⟩, _⟩, b3⟩, b4⟩ := fy
        obtain ⟨n1, n2, n3⟩ := vless a3
        obtain ⟨m1, m2, m3⟩ := vless b3
        obtain rfl : l = [] := List.eq_nil_of_length_eq_zero (by omega)
        obtain rfl : l' = [] := List.eq_nil_of_length_eq_zero (by omega)
        rw [shwX, if_neg h1, if_pos h2, shwX, if_neg h1', if_pos h2'] at e
        have fw : ∀ {r : Lx.B} {w : Lx.B}, Fol r → Lx.Foll w r.head? := fun hr => foll_sep fun c hc => (hr c hc).elim .inl fun h => .inr (.inl h)
        have fd : ∀ {r : Lx.B} {w : Lx.B}, Lx.Foll w (46 :: r).head? := fun {r w} => foll_sep fun c hc => by simp at hc; exact .inr (.inr (.inr hc.symm))
        have done : h.tab = h'.tab → h.col = h'.col → plnX (.mk h []) = plnX (.mk h' []) := fun q1 q2 => by
          rw [plnX, plnX]
          refine congrArg (fun z => Ex.mk z _) (hd_ext ?_ ?_ ?_ ?_ ?_ ?_ ?_) <;> unfold plnH <;> rw [if_pos h2, if_pos h2'] <;> simp_all
        have bad : ∀ {r u : Lx.B}, Fol r → r ≠ 46 :: u := fun hr e => by
          have := hr 46 (by rw [e]; rfl)
          rcases this with h | h <;> cases h
        rcases col_form a1 with ⟨t1, c1, k1⟩ | ⟨c1, k1, k2⟩ <;> rcases col_form b1 with ⟨t2, c2, k3⟩ | ⟨c2, k3, k4⟩ <;> rw [c1, c2, List.append_assoc, List.append_assoc] at e
        · obtain ⟨_, ew, er⟩ := head_eq k1 k3 (fw hr) (fw hr') e
          exact ⟨er, done (by rw [t1, t2]) (ba_eq ew)⟩
        · obtain ⟨_, ew, er⟩ := head_eq k1 k3 (fw hr) fd e
          exact absurd er (bad hr)
        · obtain ⟨_, ew, er⟩ := head_eq k1 k3 fd (fw hr') e
          exact absurd er.symm (bad hr')
        · obtain ⟨_, ew, er⟩ := head_eq k1 k3 fd fd e
          have er : bs h.col ++ r = bs h'.col ++ r' := by simpa using er
          obtain ⟨_, ew2, er2⟩ := head_eq k2 k4 (fw hr) (fw hr') er
          exact ⟨er2, done (ba_eq ew) (ba_eq ew2)⟩
      · have h2' : ¬ h'.k = 2 := by omega
        clear fx fy
        have kid : ∀ x' y' : Ex, cnt x' ≤ cntL l → FitX x' → FitX y' → ∀ (u u' : Lx.B), Fol u → Fol u' → shwX x' ++ u = shwX y' ++ u' → u = u' ∧ plnX x' = plnX y' := fun x' y' q => ih x' y' (by omega)
        have pl : plnH h = h := by unfold plnH; rw [if_neg h2]
        have pl' : plnH h' = h' := by unfold plnH; rw [if_neg h2']
        by_cases h3 : h.k = 3
        · have h3' : h'.k = 3 := by omega
          obtain ⟨⟨v1, v2, v3, v4, v5⟩, fo⟩ := op_form h3 gx.1
          obtain ⟨⟨u1, u2, u3, u4, u5⟩, fo'⟩ := op_form h3' gy.1
          have hn : h.n = h'.n → h = h' := fun q => hd_ext hk q (by rw [v1, u1]) (by rw [v2, u2]) (by rw [v3, u3]) (by rw [v4, u4]) (by rw [v5, u5])
          rw [shwX, if_neg h1, if_neg h2, if_neg (by omega), shwX, if_neg h1', if_neg h2', if_neg (by omega)] at e
          simp only [List.cons_append, List.nil_append, List.append_assoc, List.cons.injEq, true_and] at e
          rw [plnX, plnX, pl, pl']
          have tail : ∀ u : Lx.B, Fol (41 :: u) := fol_par
          rcases fo with ⟨a, rfl, ha⟩ | ⟨a, b, rfl, m, hm, hmb⟩ <;> rcases fo' with ⟨a', rfl, ha'⟩ | ⟨a', b', rfl, m', hm', hmb'⟩
          · simp only [shwXs, List.getD_cons_zero, List.getD_cons_succ, List.getD_nil] at e
            rw [FitXs] at gx gy
            have fa := gx.2.1
            have fa' := gy.2.1
            have ca : cnt a ≤ cntL [a] := by simp [cntL]
            have go : ∀ (u u' : Lx.B), Fol u → Fol u' → shwX a ++ u = shwX a' ++ u' → u = u' ∧ plnX a = plnX a' := kid a a' ca fa fa'
            obtain ⟨p1, p2, p3, p4⟩ := opX_pre (n := h.n) (shwX a) []
            obtain ⟨p1', p2', p3', p4'⟩ := opX_pre (n := h'.n) (shwX a') []
            rcases ha with q | q | q | q <;> rcases ha' with q' | q' | q' | q'
            · rw [p1 q, p1' q'] at e
              obtain ⟨er, ep⟩ := go (41 :: r) (41 :: r') (tail r) (tail r') (by simpa using e)
              exact ⟨by simpa using er, by rw [hn (by rw [q, q']), plnXs, plnXs, plnXs, plnXs, ep]⟩
            · rw [p1 q, p2' q'] at e; simp at e
            · rw [p1 q, p3' q'] at e
              exact absurd (show shwX a' ++ (32 :: 73 :: 83 :: 32 :: 78 :: 85 :: [76, 76, 41] ++ r') = 78 :: 79 :: 84 :: 32 :: (shwX a ++ 41 :: r) by simpa using e.symm) (not_first fa' _ _ (fol_blank _)).1
            · rw [p1 q, p4' q'] at e
              exact absurd (show shwX a' ++ (32 :: 73 :: 83 :: 32 :: 78 :: 79 :: [84, 32, 78, 85, 76, 76, 41] ++ r') = 78 :: 79 :: 84 :: 32 :: (shwX a ++ 41 :: r) by simpa using e.symm) (not_first fa' _ _ (fol_blank _)).1
            · rw [p2 q, p1' q'] at e; simp at e
            · rw [p2 q, p2' q'] at e
              obtain ⟨er, ep⟩ := go (41 :: r) (41 :: r') (tail r) (tail r') (by simpa using e)
              exact ⟨by simpa using er, by rw [hn (by rw [q, q']), plnXs, plnXs, plnXs, plnXs, ep]⟩
            · rw [p2 q, p3' q'] at e
              exact absurd (show shwX a' ++ (32 :: 73 :: 83 :: 32 :: 78 :: 85 :: [76, 76, 41] ++ r') = 45 :: 32 :: (shwX a ++ 41 :: r) by simpa using e.symm) (not_first fa' _ _ (fol_blank _)).2.1
            · rw [p2 q, p4' q'] at e
              exact absurd (show shwX a' ++ (32 :: 73 :: 83 :: 32 :: 78 :: 79 :: [84, 32, 78, 85, 76, 76, 41] ++ r') = 45 :: 32 :: (shwX a ++ 41 :: r) by simpa using e.symm) (not_first fa' _ _ (fol_blank _)).2.1
            · rw [p3 q, p1' q'] at e
              exact absurd (show shwX a ++ (32 :: 73 :: 83 :: 32 :: 78 :: 85 :: [76, 76, 41] ++ r) = 78 :: 79 :: 84 :: 32 :: (shwX a' ++ 41 :: r') by simpa using e) (not_first fa _ _ (fol_blank _)).1
            · rw [p3 q, p2' q'] at e
              exact absurd (show shwX a ++ (32 :: 73 :: 83 :: 32 :: 78 :: 85 :: [76, 76, 41] ++ r) = 45 :: 32 :: (shwX a' ++ 41 :: r') by simpa using e) (not_first fa _ _ (fol_blank _)).2.1
            · rw [p3 q, p3' q'] at e
              obtain ⟨er, ep⟩ := go (32 :: 73 :: 83 :: 32 :: 78 :: 85 :: [76, 76, 41] ++ r) (32 :: 73 :: 83 :: 32 :: 78 :: 85 :: [76, 76, 41] ++ r') (fol_blank _) (fol_blank _) (by simpa using e)
              exact ⟨by simpa using er, by rw [hn (by rw [q, q']), plnXs, plnXs, plnXs, plnXs, ep]⟩
            · rw [p3 q, p4' q'] at e
              obtain ⟨er, ep⟩ := go (32 :: 73 :: 83 :: 32 :: 78 :: 85 :: [76, 76, 41] ++ r) (32 :: 73 :: 83 :: 32 :: 78 :: 79 :: [84, 32, 78, 85, 76, 76, 41] ++ r') (fol_blank _) (fol_blank _) (by simpa using e)
              simp at er
            · rw [p4 q, p1' q'] at e
              exact absurd (show shwX a ++ (32 :: 73 :: 83 :: 32 :: 78 :: 79 :: [84, 32, 78, 85, 76, 76, 41] ++ r) = 78 :: 79 :: 84 :: 32 :: (shwX a' ++ 41 :: r') by simpa using e) (not_first fa _ _ (fol_blank _)).1
            · rw [p4 q, p2' q'] at e
              exact absurd (show shwX a ++ (32 :: 73 :: 83 :: 32 :: 78 :: 79 :: [84, 32, 78, 85, 76, 76, 41] ++ r) = 45 :: 32 :: (shwX a' ++ 41 :: r') by simpa using e) (not_first fa _ _ (fol_blank _)).2.1
            · rw [p4 q, p3' q'] at e
              obtain ⟨er, ep⟩ := go (32 :: 73 :: 83 :: 32 :: 78 :: 79 :: [84, 32, 78, 85, 76, 76, 41] ++ r) (32 :: 73 :: 83 :: 32 :: 78 :: 85 :: [76, 76, 41] ++ r') (fol_blank _) (fol_blank _) (by simpa using e)
              simp at er
            · rw [p4 q, p4' q'] at e
              obtain ⟨er, ep⟩ := go (32 :: 73 :: 83 :: 32 :: 78 :: 79 :: [84, 32, 78, 85, 76, 76, 41] ++ r) (32 :: 73 :: 83 :: 32 :: 78 :: 79 :: [84, 32, 78, 85, 76, 76, 41] ++ r') (fol_blank _) (fol_blank _) (by simpa using e)
              exact ⟨by simpa using er, by rw [hn (by rw [q, q']), plnXs, plnXs, plnXs, plnXs, ep]⟩
          · simp only [shwXs, List.getD_cons_zero, List.getD_cons_succ, List.getD_nil] at e
            rw [FitXs] at gx
            rw [FitXs, FitXs] at gy
            have fa := gx.2.1
            have fa' := gy.2.1
            have ca : cnt a ≤ cntL [a] := by simp [cntL]
            have go : ∀ (u u' : Lx.B), Fol u → Fol u' → shwX a ++ u = shwX a' ++ u' → u = u' ∧ plnX a = plnX a' := kid a a' ca fa fa'
            obtain ⟨p1, p2, p3, p4⟩ := opX_pre (n := h.n) (shwX a) []
            rw [hm', opX_bin _ _ hmb'] at e
            rcases ha with q | q | q | q
            · rw [p1 q] at e
              exact absurd (show shwX a' ++ (32 :: (btw.getD m' [] ++ 32 :: (shwX b' ++ 41 :: r'))) = 78 :: 79 :: 84 :: 32 :: (shwX a ++ 41 :: r) by simpa using e.symm) (not_first fa' _ _ (fol_blank _)).1
            · rw [p2 q] at e
              exact absurd (show shwX a' ++ (32 :: (btw.getD m' [] ++ 32 :: (shwX b' ++ 41 :: r'))) = 45 :: 32 :: (shwX a ++ 41 :: r) by simpa using e.symm) (not_first fa' _ _ (fol_blank _)).2.1
            · rw [p3 q] at e
              obtain ⟨er, ep⟩ := go (32 :: 73 :: 83 :: 32 :: 78 :: 85 :: [76, 76, 41] ++ r) (32 :: (btw.getD m' [] ++ 32 :: (shwX b' ++ 41 :: r'))) (fol_blank _) (fol_blank _) (by simpa using e)
              simp only [List.cons_append, List.cons.injEq, true_and] at er
              exact absurd er.symm (btw_is hmb')
            · rw [p4 q] at e
              obtain ⟨er, ep⟩ := go (32 :: 73 :: 83 :: 32 :: 78 :: 79 :: [84, 32, 78, 85, 76, 76, 41] ++ r) (32 :: (btw.getD m' [] ++ 32 :: (shwX b' ++ 41 :: r'))) (fol_blank _) (fol_blank _) (by simpa using e)
              simp only [List.cons_append, List.cons.injEq, true_and] at er
              exact absurd er.symm (btw_is hmb')
          · simp only [shwXs, List.getD_cons_zero, List.getD_cons_succ, List.getD_nil] at e
            rw [FitXs, FitXs] at gx
            rw [FitXs] at gy
            have fa := gx.2.1
            have fa' := gy.2.1
            have ca : cnt a ≤ cntL [a, b] := by simp [cntL]
            have go : ∀ (u u' : Lx.B), Fol u → Fol u' → shwX a ++ u = shwX a' ++ u' → u = u' ∧ plnX a = plnX a' := kid a a' ca fa fa'
            obtain ⟨p1, p2, p3, p4⟩ := opX_pre (n := h'.n) (shwX a') []
            rw [hm, opX_bin _ _ hmb] at e
            rcases ha' with q | q | q | q
            · rw [p1 q] at e
              exact absurd (show shwX a ++ (32 :: (btw.getD m [] ++ 32 :: (shwX b ++ 41 :: r))) = 78 :: 79 :: 84 :: 32 :: (shwX a' ++ 41 :: r') by simpa using e) (not_first fa _ _ (fol_blank _)).1
            · rw [p2 q] at e
              exact absurd (show shwX a ++ (32 :: (btw.getD m [] ++ 32 :: (shwX b ++ 41 :: r))) = 45 :: 32 :: (shwX a' ++ 41 :: r') by simpa using e) (not_first fa _ _ (fol_blank _)).2.1
            · rw [p3 q] at e
              obtain ⟨er, ep⟩ := go (32 :: (btw.getD m [] ++ 32 :: (shwX b ++ 41 :: r))) (32 :: 73 :: 83 :: 32 :: 78 :: 85 :: [76, 76, 41] ++ r') (fol_blank _) (fol_blank _) (by simpa using e)
              simp only [List.cons_append, List.cons.injEq, true_and] at er
              exact absurd er (btw_is hmb)
            · rw [p4 q] at e
              obtain ⟨er, ep⟩ := go (32 :: (btw.getD m [] ++ 32 :: (shwX b ++ 41 :: r))) (32 :: 73 :: 83 :: 32 :: 78 :: 79 :: [84, 32, 78, 85, 76, 76, 41] ++ r') (fol_blank _) (fol_blank _) (by simpa using e)
              simp only [List.cons_append, List.cons.injEq, true_and] at er
              exact absurd er (btw_is hmb)
          · simp only [shwXs, List.getD_cons_zero, List.getD_cons_succ] at e
            rw [FitXs, FitXs] at gx gy
            have ca : cnt a ≤ cntL [a, b] := by simp [cntL]
            have cb : cnt b ≤ cntL [a, b] := by simp [cntL]
            rw [hm, hm', opX_bin _ _ hmb, opX_bin _ _ hmb'] at e
            obtain ⟨er, ep⟩ := kid a a' ca gx.2.1 gy.2.1 (32 :: (btw.getD m [] ++ 32 :: (shwX b ++ 41 :: r))) (32 :: (btw.getD m' [] ++ 32 :: (shwX b' ++ 41 :: r'))) (fol_blank _) (fol_blank _) (by simpa using e)
            simp only [List.cons.injEq, true_and] at er
            obtain ⟨em, eu⟩ := btw_inj hmb hmb' er
            obtain ⟨er2, ep2⟩ := kid b b' cb gx.2.2.1 gy.2.2.1 (41 :: r) (41 :: r') (tail r) (tail r') eu
            exact ⟨by simpa using er2, by rw [hn (by rw [hm, hm', em]), plnXs, plnXs, plnXs, plnXs, plnXs, plnXs, ep, ep2]⟩
        · have h3' : ¬ h'.k = 3 := by omega
          have h4 : h.k = 4 := by
            by_cases h4 : h.k = 4
            · exact h4
            · have := gx.1; unfold fitsB at this; rw [if_neg h1, if_neg h2, if_neg h3, if_neg h4] at this; cases this
          have h4' : h'.k = 4 := by omega
          obtain ⟨⟨v1, v2, v3, v4, v5⟩, fo⟩ := agg_form h4 gx.1
          obtain ⟨⟨u1, u2, u3, u4, u5⟩, fo'⟩ := agg_form h4' gy.1
          have hn : h.n = h'.n → h = h' := fun q => hd_ext hk q (by rw [v1, u1]) (by rw [v2, u2]) (by rw [v3, u3]) (by rw [v4, u4]) (by rw [v5, u5])
          have bd : 1 ≤ h.n ∧ h.n ≤ 5 := by rcases fo with ⟨q, _⟩ | ⟨_, _, q⟩ <;> omega
          have bd' : 1 ≤ h'.n ∧ h'.n ≤ 5 := by rcases fo' with ⟨q, _⟩ | ⟨_, _, q⟩ <;> omega
          rw [shwX, if_neg h1, if_neg h2, if_pos h4, shwX, if_neg h1', if_neg h2', if_pos h4', aggX_form _ _ bd, aggX_form _ _ bd', List.append_assoc, List.append_assoc] at e
          have fp : ∀ {r : Lx.B} {w : Lx.B}, Lx.Foll w (40 :: r).head? := fun {r w} => foll_sep fun c hc => by simp at hc; exact .inr (.inr (.inl hc.symm))
          obtain ⟨_, ew, er⟩ := head_eq (aggW_tok h.n) (aggW_tok h'.n) fp fp e
          rw [plnX, plnX, pl, pl']
          have er : (if h.n = 1 then [42, 41] else (shwXs l).getD 0 [] ++ [41]) ++ r = (if h'.n = 1 then [42, 41] else (shwXs l').getD 0 [] ++ [41]) ++ r' := by simpa using er
          rcases fo with ⟨q, rfl⟩ | ⟨a, rfl, q1, q2⟩ <;> rcases fo' with ⟨q', rfl⟩ | ⟨a', rfl, q1', q2'⟩
          · rw [if_pos q, if_pos q'] at er
            exact ⟨by simpa using er, by rw [hn (by omega)]⟩
          · rw [if_pos q, if_neg (by omega)] at er
            simp only [shwXs, List.getD_cons_zero] at er
            rw [FitXs] at gy
            exact absurd (show shwX a' ++ (41 :: r') = 42 :: 41 :: r by simpa using er.symm) (not_first gy.2.1 _ _ (fol_par _)).2.2
          · rw [if_neg (by omega), if_pos q'] at er
            simp only [shwXs, List.getD_cons_zero] at er
            rw [FitXs] at gx
            exact absurd (show shwX a ++ (41 :: r) = 42 :: 41 :: r' by simpa using er) (not_first gx.2.1 _ _ (fol_par _)).2.2
          · rw [if_neg (by omega), if_neg (by omega)] at er
            simp only [shwXs, List.getD_cons_zero] at er
            rw [FitXs] at gx gy
            have ca : cnt a ≤ cntL [a] := by simp [cntL]
            obtain ⟨er2, ep⟩ := kid a a' ca gx.2.1 gy.2.1 (41 :: r) (41 :: r') (fol_par _) (fol_par _) (by simpa using er)
            have en : h.n = h'.n := by
              have h2 : ∀ n : Int, 2 ≤ n ∧ n ≤ 5 → (n = 2 ∧ aggW n = [67, 79, 85, 78, 84]) ∨ (n = 3 ∧ aggW n = [83, 85, 77]) ∨ (n = 4 ∧ aggW n = [77, 73, 78]) ∨ (n = 5 ∧ aggW n = [77, 65, 88]) := by
                intro n hn
                rcases (show n = 2 ∨ n = 3 ∨ n = 4 ∨ n = 5 by omega) with rfl | rfl | rfl | rfl <;> simp [aggW]
              rcases h2 h.n ⟨q1, q2⟩ with ⟨z, zw⟩ | ⟨z, zw⟩ | ⟨z, zw⟩ | ⟨z, zw⟩ <;> rcases h2 h'.n ⟨q1', q2'⟩ with ⟨z', zw'⟩ | ⟨z', zw'⟩ | ⟨z', zw'⟩ | ⟨z', zw'⟩ <;> rw [zw, zw'] at ew <;> first | (rw [z, z']; done) | (simp at ew)
            exact ⟨by simpa using er2, by rw [hn en, plnXs, plnXs, plnXs, plnXs, ep]⟩
theorem read_one {x y : Ex} (hx : FitX x) (hy : FitX y) (e : shwX x = shwX y) : plnX x = plnX y :=
  (read_n _ x y (Nat.le_refl _) hx hy [] [] fol_nil fol_nil (by rw [e])).2
mutual
theorem shw_pln : ∀ x : Ex, shwX (plnX x) = shwX x
  | .mk h l => by
    have hk : (plnH h).k = h.k := by unfold plnH; split <;> rfl
    rw [plnX, shwX, shwX, shws_pln l, hk]
    by_cases h2 : h.k = 2
    · have : plnH h = { h with n := 0 } := by unfold plnH; rw [if_pos h2]
      rw [this]
      simp [h2]
    · have : plnH h = h := by unfold plnH; rw [if_neg h2]
      rw [this]
theorem shws_pln : ∀ l : List Ex, shwXs (plnXs l) = shwXs l
  | [] => by rw [plnXs]
  | x :: r => by rw [plnXs, shwXs, shwXs, shw_pln x, shws_pln r]
end
theorem hdEq_iff (h h' : Hd) : hdEq h h' = true ↔ h = h' := by
  constructor
  · intro e
    simp only [hdEq, eqV, Bool.and_eq_true, beq_iff_eq, ByteArray.toList_eq] at e
    obtain ⟨⟨⟨⟨a, b⟩, ⟨c, d⟩, f⟩, g⟩, i⟩ := e
    exact hd_ext a b c d (ba_eq f) (ba_eq g) (ba_eq i)
  · rintro rfl; simp [hdEq, eqV]
mutual
theorem sameX_iff : ∀ x y : Ex, sameX x y = true ↔ x = y
  | .mk h l, .mk h' l' => by
    rw [sameX, Bool.and_eq_true, hdEq_iff, sameXs_iff l l', Ex.mk.injEq]
theorem sameXs_iff : ∀ l l' : List Ex, sameXs l l' = true ↔ l = l'
  | [], [] => by simp [sameXs]
  | [], _ :: _ => by simp [sameXs]
  | _ :: _, [] => by simp [sameXs]
  | x :: r, y :: r' => by rw [sameXs, Bool.and_eq_true, sameX_iff x y, sameXs_iff r r', List.cons.injEq]
end
theorem bstr_toList (l : List UInt8) : (bstr l).toList = l := by rw [ByteArray.toList_eq]; simp [bstr]
/-- One text, one expression, but for places. -/
theorem texts_plain {x y : Ex} (hx : FitX x) (hy : FitX y) : ((bstr (shwX x)).toList == (bstr (shwX y)).toList) = sameX (plnX x) (plnX y) := by
  rw [bstr_toList, bstr_toList]
  cases hs : sameX (plnX x) (plnX y) with
  | true =>
    have := (sameX_iff _ _).1 hs
    have e : shwX x = shwX y := by rw [← shw_pln x, ← shw_pln y, this]
    rw [e]; simp
  | false =>
    have hne : ¬ shwX x = shwX y := fun e => by
      have := (sameX_iff _ _).2 (read_one hx hy e)
      rw [hs] at this; cases this
    simpa using hne
end Go.Proofs.YteckhaicodmakaaGreatDoor
