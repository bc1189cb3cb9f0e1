/-
  Package ledger: what LedgerHolds keeps from round to round (plain words about lists of accounts).
-/
import Derived.Test.YthfopabefknlkabLdk
namespace Go.Proofs.Ythfopabefknlkab

/-- Of accounts with numbers of their own: each holds no more than its grant, and what is granted under it fits; all but the first are under one of them. -/
structure Good (G last most : Int) (L : List Ac) : Prop where
  first : ∃ a0 rest, L = a0 :: rest ∧ a0.n = 0 ∧ a0.g = G ∧ a0.u = -1 ∧ ∀ b ∈ rest, b.u ∈ L.map Ac.n
  nums : ∀ a ∈ L, 0 ≤ a.n ∧ a.n ≤ last
  each : ∀ a ∈ L, 0 ≤ a.g ∧ 0 ≤ a.h ∧ a.h ≤ a.p ∧ a.p ≤ a.g ∧ 0 ≤ a.g - a.h - sumN L a.n
  held : heldN L ≤ most
  most_le : most ≤ G
theorem acOf_some {L : List Ac} (h : (L.map Ac.n).Nodup) {a : Ac} (ha : a ∈ L) : acOf L a.n = some a := by
  cases e : acOf L a.n with
  | none =>
    unfold acOf at e
    rw [List.find?_eq_none] at e
    have := e a ha
    simp at this
  | some b =>
    obtain ⟨h1, h2⟩ := acOf_mem e
    rw [uniq_n h h1 ha h2]
theorem leftOf_some {L : List Ac} (h : (L.map Ac.n).Nodup) {a : Ac} (ha : a ∈ L) : leftOf L a.n = a.g - a.h - sumN L a.n := by
  unfold leftOf; rw [acOf_some h ha]
theorem sumN_cons (a : Ac) (L : List Ac) (n : Int) : sumN (a :: L) n = sumU n a + sumN L n := by simp [sumN]
theorem sumN_nonneg {L : List Ac} (h : ∀ a ∈ L, 0 ≤ a.g) (n : Int) : 0 ≤ sumN L n := by
  induction L with
  | nil => simp [sumN]
  | cons a L ih =>
    rw [sumN_cons]
    have h1 := ih (fun b hb => h b (by simp [hb]))
    have h2 := h a (by simp)
    unfold sumU
    split <;> omega
theorem sumN_none {L : List Ac} {n : Int} (h : ∀ a ∈ L, a.u ≠ n) : sumN L n = 0 := by
  induction L with
  | nil => simp [sumN]
  | cons a L ih =>
    rw [sumN_cons, ih (fun b hb => h b (by simp [hb]))]
    unfold sumU
    rw [if_neg (h a (by simp))]
    rfl
/-- What accounts with numbers of their own grant, told by those above. -/
theorem under_one {A : List Ac} (hd : (A.map Ac.n).Nodup) (b : Ac) : (A.map fun a => sumU a.n b).sum = if b.u ∈ A.map Ac.n then b.g else 0 := by
  induction A with
  | nil => simp
  | cons a A ih =>
    rw [List.map_cons, List.nodup_cons] at hd
    rw [List.map_cons, List.sum_cons, ih hd.2, List.map_cons]
    unfold sumU
    by_cases e : b.u = a.n
    · rw [if_pos e, if_neg (by rw [e]; exact hd.1), if_pos (by rw [e]; simp)]
      omega
    · by_cases f : b.u ∈ A.map Ac.n
      · rw [if_neg e, if_pos f, if_pos (by simp only [List.mem_cons]; exact .inr f)]; omega
      · rw [if_neg e, if_neg f, if_neg (by simp only [List.mem_cons, not_or]; exact ⟨e, f⟩)]; omega
theorem under_all {A : List Ac} (hd : (A.map Ac.n).Nodup) (L : List Ac) : (A.map fun a => sumN L a.n).sum = (L.map fun b => if b.u ∈ A.map Ac.n then b.g else 0).sum := by
  induction L with
  | nil =>
    simp only [List.map_nil, List.sum_nil]
    have : (A.map fun a => sumN [] a.n) = A.map fun _ => (0 : Int) := by apply List.map_congr_left; intro a _; rfl
    rw [this]
    clear hd this
    induction A with
    | nil => rfl
    | cons a A ih => simp [ih]
  | cons b L ih =>
    rw [List.map_cons, List.sum_cons, ← ih, ← under_one hd b]
    clear ih hd
    induction A with
    | nil => rfl
    | cons a A ih =>
      simp only [List.map_cons, List.sum_cons] at ih ⊢
      rw [ih, sumN_cons]
      omega
theorem sum_le_of {A : List Ac} {f g : Ac → Int} (h : ∀ a ∈ A, f a ≤ g a) : (A.map f).sum ≤ (A.map g).sum := by
  induction A with
  | nil => simp
  | cons a A ih =>
    simp only [List.map_cons, List.sum_cons]
    have := h a (by simp)
    have := ih (fun b hb => h b (by simp [hb]))
    omega
theorem sum_add {A : List Ac} {f g : Ac → Int} : (A.map fun a => f a + g a).sum = (A.map f).sum + (A.map g).sum := by
  induction A with
  | nil => rfl
  | cons a A ih => simp only [List.map_cons, List.sum_cons, ih]; omega
theorem Good.mono {G last last' most : Int} {L : List Ac} (h : Good G last most L) (hl : last ≤ last') : Good G last' most L :=
  ⟨h.first, fun a ha => by have := h.nums a ha; omega, h.each, h.held, h.most_le⟩
/-- All together hold no more than the first one's grant. -/
theorem held_le {G last : Int} {L : List Ac} (hd : (L.map Ac.n).Nodup) (hf : ∃ a0 rest, L = a0 :: rest ∧ a0.n = 0 ∧ a0.g = G ∧ a0.u = -1 ∧ ∀ b ∈ rest, b.u ∈ L.map Ac.n) (hn : ∀ a ∈ L, 0 ≤ a.n ∧ a.n ≤ last) (he : ∀ a ∈ L, 0 ≤ a.g - a.h - sumN L a.n) : heldN L ≤ G := by
  have h1 : (L.map fun a => a.h + sumN L a.n).sum ≤ (L.map Ac.g).sum := sum_le_of (fun a ha => by have := he a ha; omega)
  rw [sum_add (f := Ac.h) (g := fun a => sumN L a.n), under_all hd] at h1
  obtain ⟨a0, rest, e, e0, eg, eu, er⟩ := hf
  have h2 : (L.map fun b => if b.u ∈ L.map Ac.n then b.g else 0).sum = (L.map Ac.g).sum - G := by
    have e1 : ¬ a0.u ∈ L.map Ac.n := by
      intro hh
      obtain ⟨x, hx, hxe⟩ := List.mem_map.1 hh
      have := hn x hx
      omega
    have e2 : (rest.map fun b => if b.u ∈ L.map Ac.n then b.g else 0) = rest.map Ac.g := List.map_congr_left (fun b hb => if_pos (er b hb))
    have e3 : (L.map fun b => if b.u ∈ L.map Ac.n then b.g else 0) = (if a0.u ∈ L.map Ac.n then a0.g else 0) :: rest.map fun b => if b.u ∈ L.map Ac.n then b.g else 0 := by
      have : ∀ f : Ac → Int, L.map f = f a0 :: rest.map f := fun f => by rw [e]; rfl
      exact this _
    have e4 : L.map Ac.g = a0.g :: rest.map Ac.g := by rw [e]; rfl
    rw [e3, e2, if_neg e1, e4, List.sum_cons, List.sum_cons, eg]
    omega
  unfold heldN
  omega
theorem good_new (G : Int) (b : Nat) (h0 : 0 ≤ G) : Good G 0 0 [⟨0, b, -1, G, 0, 0⟩] := by
  refine ⟨⟨_, [], rfl, rfl, rfl, rfl, by simp⟩, ?_, ?_, by simp [heldN], h0⟩
  · intro a ha; simp at ha; subst ha; simp
  · intro a ha; simp at ha; subst ha; simp [sumN, sumU]; exact h0
theorem good_open {G last most u g : Int} {L : List Ac} {a : Ac} {b : Nat} (h : Good G last most L) (hd : (L.map Ac.n).Nodup) (ha : acOf L u = some a) (hg : 0 ≤ g) (hl : g ≤ leftOf L u) : Good G (last + 1) most (L ++ [⟨last + 1, b, u, g, 0, 0⟩]) := by
  obtain ⟨hm, hu⟩ := acOf_mem ha
  subst hu
  rw [leftOf_some hd hm] at hl
  obtain ⟨a0, rest, e, e0, eg, eu, er⟩ := h.first
  have hin : ∀ x ∈ L, x.u = -1 ∨ x.u ∈ L.map Ac.n := fun x hx => by
    rw [e] at hx
    rcases List.mem_cons.1 hx with hx | hx
    · exact .inl (by rw [hx]; exact eu)
    · exact .inr (er x hx)
  have hna := h.nums a hm
  refine ⟨⟨a0, rest ++ [⟨last + 1, b, a.n, g, 0, 0⟩], by rw [e]; rfl, e0, eg, eu, ?_⟩, ?_, ?_, ?_, h.most_le⟩
  · intro x hx
    rw [List.map_append, List.mem_append]
    rcases List.mem_append.1 hx with hx | hx
    · exact .inl (er x hx)
    · simp at hx; subst hx; exact .inl (List.mem_map_of_mem hm)
  · intro x hx
    rcases List.mem_append.1 hx with hx | hx
    · have := h.nums x hx; omega
    · simp at hx; subst hx; exact ⟨by show 0 ≤ last + 1; omega, Int.le_refl _⟩
  · intro x hx
    rw [sumN_app]
    have e1 : ∀ n, sumN [⟨last + 1, b, a.n, g, 0, 0⟩] n = if a.n = n then g else 0 := fun n => by simp [sumN, sumU]
    rw [e1]
    rcases List.mem_append.1 hx with hx | hx
    · have h1 := h.each x hx
      by_cases hxa : a.n = x.n
      · have : x = a := uniq_n hd hx hm hxa.symm
        subst this
        rw [if_pos rfl]
        omega
      · rw [if_neg hxa]; omega
    · simp at hx; subst hx
      have e2 : sumN L (last + 1) = 0 := sumN_none (fun y hy => by
        rcases hin y hy with hh | hh
        · omega
        · obtain ⟨z, hz, hze⟩ := List.mem_map.1 hh
          have := h.nums z hz
          omega)
      show 0 ≤ g ∧ (0 : Int) ≤ 0 ∧ (0 : Int) ≤ 0 ∧ 0 ≤ g ∧ 0 ≤ g - 0 - (sumN L (last + 1) + if a.n = last + 1 then g else 0)
      rw [e2, if_neg (by omega)]
      omega
  · have := h.held
    simp [heldN] at this ⊢
    exact this
theorem sumN_upd {L : List Ac} {f : Ac → Ac} (hf : ∀ x, (f x).u = x.u ∧ (f x).g = x.g) (n k : Int) : sumN (updA n f L) k = sumN L k := by
  unfold sumN updA
  rw [List.map_map]
  congr 1
  apply List.map_congr_left
  intro x _
  simp only [Function.comp]
  split
  · unfold sumU; rw [(hf x).1, (hf x).2]
  · rfl
theorem nums_upd {L : List Ac} {f : Ac → Ac} (hf : ∀ x, (f x).n = x.n) (n : Int) : (updA n f L).map Ac.n = L.map Ac.n := by
  unfold updA
  rw [List.map_map]
  apply List.map_congr_left
  intro x _
  simp only [Function.comp]
  split
  · exact hf x
  · rfl
theorem good_upd {G last most : Int} {L : List Ac} {f : Ac → Ac} {n : Int} {a : Ac} {most' : Int} (h : Good G last most L) (hd : (L.map Ac.n).Nodup) (ha : acOf L n = some a) (hf : ∀ x, (f x).n = x.n ∧ (f x).u = x.u ∧ (f x).g = x.g)
    (h1 : 0 ≤ (f a).h) (h2 : (f a).h ≤ (f a).p) (h3 : (f a).p ≤ a.g) (h4 : 0 ≤ a.g - (f a).h - sumN L n) (hh : heldN (updA n f L) ≤ most') (hm : most' ≤ max most (heldN (updA n f L))) : Good G last most' (updA n f L) := by
  obtain ⟨hmem, hn⟩ := acOf_mem ha
  subst hn
  have hN := nums_upd (L := L) (fun x => (hf x).1) a.n
  have hcase : ∀ y ∈ updA a.n f L, (y = f a) ∨ y ∈ L := fun y hy => by
    obtain ⟨x, hx, rfl⟩ := List.mem_map.1 hy
    by_cases e : x.n = a.n
    · rw [if_pos e, uniq_n hd hx hmem e]; exact .inl rfl
    · rw [if_neg e]; exact .inr hx
  have hnums : ∀ y ∈ updA a.n f L, 0 ≤ y.n ∧ y.n ≤ last := fun y hy => by
    rcases hcase y hy with e | hy
    · rw [e, (hf a).1]; exact h.nums a hmem
    · exact h.nums y hy
  have heach : ∀ y ∈ updA a.n f L, 0 ≤ y.g ∧ 0 ≤ y.h ∧ y.h ≤ y.p ∧ y.p ≤ y.g ∧ 0 ≤ y.g - y.h - sumN (updA a.n f L) y.n := fun y hy => by
    rw [sumN_upd (fun x => (hf x).2)]
    rcases hcase y hy with e | hy
    · rw [e, (hf a).1, (hf a).2.2]
      have := h.each a hmem
      omega
    · exact h.each y hy
  have hfirst : ∃ a0 rest, updA a.n f L = a0 :: rest ∧ a0.n = 0 ∧ a0.g = G ∧ a0.u = -1 ∧ ∀ b ∈ rest, b.u ∈ (updA a.n f L).map Ac.n := by
    obtain ⟨a0, rest, e, e0, eg, eu, er⟩ := h.first
    refine ⟨if a0.n = a.n then f a0 else a0, updA a.n f rest, by rw [e]; rfl, ?_, ?_, ?_, fun b hb => ?_⟩
    · split
      · rw [(hf a0).1]; exact e0
      · exact e0
    · split
      · rw [(hf a0).2.2]; exact eg
      · exact eg
    · split
      · rw [(hf a0).2.1]; exact eu
      · exact eu
    · rw [hN]
      obtain ⟨x, hx, rfl⟩ := List.mem_map.1 hb
      split
      · rw [(hf x).2.1]; exact er x hx
      · exact er x hx
  refine ⟨hfirst, hnums, heach, hh, ?_⟩
  have := held_le (by rw [hN]; exact hd) hfirst hnums (fun y hy => (heach y hy).2.2.2.2)
  have := h.most_le
  omega
theorem held_upd {L : List Ac} {f : Ac → Ac} {n : Int} {a : Ac} (hd : (L.map Ac.n).Nodup) (ha : acOf L n = some a) : heldN (updA n f L) = heldN L - a.h + (f a).h := by
  obtain ⟨hm, hn⟩ := acOf_mem ha
  clear ha
  induction L with
  | nil => cases hm
  | cons x L ih =>
    rw [List.map_cons, List.nodup_cons] at hd
    have hc : ∀ y : Ac, ∀ M, heldN (y :: M) = y.h + heldN M := fun y M => by simp [heldN]
    show heldN ((if x.n = n then f x else x) :: updA n f L) = _
    rw [hc, hc]
    rcases List.mem_cons.1 hm with e | hm2
    · subst e
      have hno : updA n f L = L := by
        unfold updA
        have : ∀ y ∈ L, (if y.n = n then f y else y) = y := fun y hy => if_neg (fun e => hd.1 (by rw [hn, ← e]; exact List.mem_map_of_mem hy))
        rw [List.map_congr_left this]
        simp
      rw [if_pos hn, hno]
      omega
    · have hne : ¬ x.n = n := fun e => hd.1 (by rw [e, ← hn]; exact List.mem_map_of_mem hm2)
      rw [if_neg hne, ih hd.2 hm2]
      omega
theorem good_take {G last most n p : Int} {L : List Ac} {a : Ac} (h : Good G last most L) (hd : (L.map Ac.n).Nodup) (ha : acOf L n = some a) (hp : 0 ≤ p) (hl : p ≤ leftOf L n) : Good G last (max most (heldN (updA n (takeA p) L))) (updA n (takeA p) L) := by
  obtain ⟨hm, hn⟩ := acOf_mem ha
  have he := h.each a hm
  have hs := sumN_nonneg (fun x hx => (h.each x hx).1) n
  have hl2 : leftOf L n = a.g - a.h - sumN L n := by unfold leftOf; rw [ha]
  refine good_upd h hd ha (fun x => ⟨rfl, rfl, rfl⟩) ?_ ?_ ?_ ?_ (by omega) (by omega)
  · show 0 ≤ a.h + p; omega
  · show a.h + p ≤ max a.p (a.h + p); omega
  · show max a.p (a.h + p) ≤ a.g; omega
  · show 0 ≤ a.g - (a.h + p) - sumN L n; omega
theorem good_give {G last most n p : Int} {L : List Ac} {a : Ac} (h : Good G last most L) (hd : (L.map Ac.n).Nodup) (ha : acOf L n = some a) (hp : 0 ≤ p) (hl : p ≤ a.h) : Good G last most (updA n (giveA p) L) := by
  obtain ⟨hm, hn⟩ := acOf_mem ha
  have he := h.each a hm
  have hs := sumN_nonneg (fun x hx => (h.each x hx).1) n
  rw [hn] at he
  have hu := held_upd (f := giveA p) hd ha
  have hw : (giveA p a).h = a.h - p := rfl
  have hk := h.held
  refine good_upd h hd ha (fun x => ⟨rfl, rfl, rfl⟩) ?_ ?_ ?_ ?_ (by omega) (by omega)
  · omega
  · show a.h - p ≤ a.p; omega
  · show a.p ≤ a.g; omega
  · rw [hw]; omega
theorem cntN_none {L : List Ac} {n : Int} (h : ¬ 0 < cntN L n) : ∀ a ∈ L, a.u ≠ n := by
  have hnn : ∀ M : List Ac, 0 ≤ cntN M n := fun M => by
    induction M with
    | nil => simp [cntN]
    | cons a M ih =>
      have : cntN (a :: M) n = cntU n a + cntN M n := by simp [cntN]
      rw [this]; unfold cntU; split <;> omega
  induction L with
  | nil => intro a ha; cases ha
  | cons a L ih =>
    have hc : cntN (a :: L) n = cntU n a + cntN L n := by simp [cntN]
    rw [hc] at h
    have h0 := hnn L
    have hu : cntU n a = if a.u = n then 1 else 0 := rfl
    by_cases e : a.u = n
    · rw [if_pos e] at hu; omega
    · rw [if_neg e] at hu
      intro b hb
      rcases List.mem_cons.1 hb with hb | hb
      · rw [hb]; exact e
      · exact ih (by omega) b hb
theorem good_close {G last most n : Int} {L : List Ac} {a : Ac} (h : Good G last most L) (hd : (L.map Ac.n).Nodup) (ha : acOf L n = some a) (h0 : ¬ (n = 0 ∨ 0 < a.h ∨ 0 < cntN L n)) : Good G last most (delA n L) := by
  obtain ⟨hm, hn⟩ := acOf_mem ha
  have hsub : ∀ x ∈ delA n L, x ∈ L ∧ x.n ≠ n := fun x hx => by
    obtain ⟨h1, h2⟩ := List.mem_filter.1 hx
    exact ⟨h1, by simpa using h2⟩
  have hnone := cntN_none (fun hh => h0 (.inr (.inr hh)))
  have hsum : ∀ k, sumN (delA n L) k ≤ sumN L k := fun k => by
    have hg : ∀ x ∈ L, 0 ≤ x.g := fun x hx => (h.each x hx).1
    clear h hd ha h0 hm hn hsub hnone
    unfold delA
    induction L with
    | nil => exact Int.le_refl _
    | cons x L ih =>
      have h1 := ih (fun y hy => hg y (by simp [hy]))
      have h2 := hg x (by simp)
      have h3 : 0 ≤ sumU k x := by unfold sumU; split <;> omega
      rw [List.filter_cons]
      split
      · rw [sumN_cons, sumN_cons]; omega
      · rw [sumN_cons]; omega
  have hheld : heldN (delA n L) = heldN L := by
    have hz : ∀ x ∈ L, x.n = n → x.h = 0 := fun x hx e => by
      have : x = a := uniq_n hd hx hm (by rw [e, hn])
      subst this
      have := (h.each x hx).2.1
      have : ¬ 0 < x.h := fun hh => h0 (.inr (.inl hh))
      omega
    clear h hd ha h0 hm hn hsub hnone hsum
    unfold delA heldN
    induction L with
    | nil => rfl
    | cons x L ih =>
      rw [List.filter_cons]
      have h1 := ih (fun y hy => hz y (by simp [hy]))
      split
      · rw [List.map_cons, List.map_cons, List.sum_cons, List.sum_cons, h1]
      · rename_i hh
        have := hz x (by simp) (by simpa using hh)
        rw [List.map_cons, List.sum_cons, h1, this]
        omega
  refine ⟨?_, fun x hx => h.nums x (hsub x hx).1, fun x hx => ?_, by rw [hheld]; exact h.held, h.most_le⟩
  · obtain ⟨a0, rest, e, e0, eg, eu, er⟩ := h.first
    have hne : ¬ a0.n = n := fun hh => h0 (.inl (by omega))
    refine ⟨a0, delA n rest, ?_, e0, eg, eu, fun b hb => ?_⟩
    · rw [e]; unfold delA; rw [List.filter_cons_of_pos (by simpa using hne)]
    · obtain ⟨h1, _⟩ := List.mem_filter.1 hb
      obtain ⟨z, hz, hze⟩ := List.mem_map.1 (er b h1)
      have hbn : b.u ≠ n := hnone b (by rw [e]; exact List.mem_cons_of_mem _ h1)
      rw [← hze]
      exact List.mem_map_of_mem (List.mem_filter.2 ⟨hz, by simp; rw [hze]; exact hbn⟩)
  · have h1 := h.each x (hsub x hx).1
    have h2 := hsum x.n
    omega
theorem sum_perm {l m : List Int} (h : l.Perm m) : l.sum = m.sum := by
  induction h with
  | nil => rfl
  | cons x _ ih => rw [List.sum_cons, List.sum_cons, ih]
  | swap x y l => simp only [List.sum_cons]; omega
  | trans _ _ h1 h2 => exact h1.trans h2
/-- What accounts hold, told by their numbers. -/
theorem held_by {L : List Ac} (hd : (L.map Ac.n).Nodup) {ys : List Int} (hp : ys.Perm (L.map Ac.n)) : (ys.map fun y => fieldOf Ac.h (acOf L y)).sum = heldN L := by
  rw [sum_perm (hp.map (fun y => fieldOf Ac.h (acOf L y))), List.map_map]
  unfold heldN
  congr 1
  apply List.map_congr_left
  intro x hx
  simp only [Function.comp]
  rw [acOf_some hd hx]
  rfl
end Go.Proofs.Ythfopabefknlkab
