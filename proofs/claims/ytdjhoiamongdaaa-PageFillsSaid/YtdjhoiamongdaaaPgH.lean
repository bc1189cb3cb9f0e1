/-
  Plain: rows filled into pages; lists of pages of the call's own in memory.
-/
import Derived.Test.YtdjhoiamongdaaaPgM
import Derived.Test.YtdjhoiamongdaaaPgS
import Derived.Test.YtdjhoiamongdaaaPgG
namespace Go.Proofs.Ytdjhoiamongdaaa
open Go.RowKit Go.Shelf

/-- What is wrong with the first row that is refused. -/
def badP : List (List Va) → Int
  | [] => 0
  | r :: rs => if mayI r = 0 then badP rs else mayI r
/-- Rows by pages, and one row more. -/
def addG (gs : List (List (List Va))) (r : List Va) : List (List (List Va)) :=
  match gs.getLast? with
  | none => [[r]]
  | some p => if fitsP (p ++ [r]) = true then gs.dropLast ++ [p ++ [r]] else gs ++ [[r]]
def fillP (rs : List (List Va)) : List (List (List Va)) := rs.foldl addG []
theorem addG_nil (r : List Va) : addG [] r = [[r]] := rfl
theorem addG_in {gs : List (List (List Va))} {p : List (List Va)} {r : List Va} (h : fitsP (p ++ [r]) = true) : addG (gs ++ [p]) r = gs ++ [p ++ [r]] := by
  simp [addG, h]
theorem addG_new {gs : List (List (List Va))} {p : List (List Va)} {r : List Va} (h : fitsP (p ++ [r]) = false) : addG (gs ++ [p]) r = (gs ++ [p]) ++ [[r]] := by
  simp [addG, h]
theorem fillP_snoc (rs : List (List Va)) (r : List Va) : fillP (rs ++ [r]) = addG (fillP rs) r := by simp [fillP]
theorem fillP_take (rs : List (List Va)) (j : Nat) (h : j < rs.length) : fillP (rs.take (j + 1)) = addG (fillP (rs.take j)) rs[j] := by
  rw [List.take_succ_eq_append_getElem h, fillP_snoc]
theorem badP_snoc (rs : List (List Va)) (r : List Va) (h : badP rs = 0) : badP (rs ++ [r]) = mayI r := by
  induction rs with
  | nil => simp only [List.nil_append, badP]; split <;> simp [*]
  | cons x rs ih =>
    simp only [List.cons_append, badP] at h ⊢
    split
    · rename_i hx; rw [if_pos hx] at h; exact ih h
    · rename_i hx; rw [if_neg hx] at h; exact absurd h hx
theorem badP_app (rs ss : List (List Va)) (h : badP rs = 0) : badP (rs ++ ss) = badP ss := by
  induction rs with
  | nil => rfl
  | cons x rs ih =>
    simp only [List.cons_append, badP] at h ⊢
    split
    · rename_i hx; rw [if_pos hx] at h; exact ih h
    · rename_i hx; rw [if_neg hx] at h; exact absurd h hx
theorem badP_at {rs : List (List Va)} {j : Nat} (hj : j < rs.length) (h0 : badP (rs.take j) = 0) (hm : mayI rs[j] ≠ 0) : badP rs = mayI rs[j] := by
  have e : rs = rs.take j ++ (rs[j] :: rs.drop (j + 1)) := by rw [← List.drop_eq_getElem_cons hj, List.take_append_drop]
  have h2 := badP_app (rs.take j) (rs[j] :: rs.drop (j + 1)) h0
  rw [← e] at h2
  rw [h2, badP, if_neg hm]
theorem badP_zero {rs : List (List Va)} (h : badP rs = 0) : ∀ r ∈ rs, mayI r = 0 := by
  induction rs with
  | nil => intro r hr; cases hr
  | cons x rs ih =>
    simp only [badP] at h
    split at h
    · rename_i hx
      intro r hr
      rcases List.mem_cons.1 hr with rfl | hr
      · exact hx
      · exact ih h r hr
    · rename_i hx; exact absurd h hx
theorem mayI_ok {r : List Va} (h : mayI r = 0) : okR r = true ∧ 1 + sumV r ≤ 253 := by
  unfold mayI at h
  split at h
  · rename_i hok
    split at h
    · cases h
    · exact ⟨hok, by omega⟩
  · cases h
theorem fits_one {r : List Va} (h : mayI r = 0) : fitsP ([] ++ [r]) = true := by
  obtain ⟨_, h2⟩ := mayI_ok h
  rw [fits_snoc fits_nil]
  simp [sizeR, lenP, bodyP]
  omega
/-- Pages as they are filled. -/
def GoodG (gs : List (List (List Va))) : Prop := ∀ p ∈ gs, fitsP p = true ∧ allOk p ∧ p ≠ []
theorem GoodG.add {gs : List (List (List Va))} (h : GoodG gs) {r : List Va} (hr : mayI r = 0) : GoodG (addG gs r) := by
  obtain ⟨hok, _⟩ := mayI_ok hr
  have h1 : fitsP [r] = true ∧ allOk [r] ∧ [r] ≠ [] := ⟨fits_one hr, (fun x hx => by simp at hx; subst hx; exact hok), by simp⟩
  rcases List.eq_nil_or_concat gs with rfl | ⟨gs0, p, rfl⟩
  · intro q hq; simp [addG] at hq; subst hq; exact h1
  · rw [List.concat_eq_append] at h ⊢
    cases hf : fitsP (p ++ [r]) with
    | true =>
      rw [addG_in hf]
      intro q hq
      rcases List.mem_append.1 hq with hq | hq
      · exact h q (by simp [hq])
      · simp at hq
        subst hq
        refine ⟨hf, fun x hx => ?_, by simp⟩
        rcases List.mem_append.1 hx with hx | hx
        · exact (h p (by simp)).2.1 x hx
        · simp at hx; subst hx; exact hok
    | false =>
      rw [addG_new hf]
      intro q hq
      rcases List.mem_append.1 hq with hq | hq
      · exact h q hq
      · simp at hq; subst hq; exact h1
theorem addG_flat (gs : List (List (List Va))) (r : List Va) : (addG gs r).flatten = gs.flatten ++ [r] := by
  rcases List.eq_nil_or_concat gs with rfl | ⟨gs0, p, rfl⟩
  · rfl
  · rw [List.concat_eq_append]
    cases hf : fitsP (p ++ [r]) with
    | true => rw [addG_in hf]; simp
    | false => rw [addG_new hf]; simp
theorem addG_ne (gs : List (List (List Va))) (r : List Va) : addG gs r ≠ [] := by
  intro h
  have := addG_flat gs r
  rw [h] at this
  simp at this
theorem addG_len (gs : List (List (List Va))) (r : List Va) : (addG gs r).length ≤ gs.length + 1 := by
  rcases List.eq_nil_or_concat gs with rfl | ⟨gs0, p, rfl⟩
  · simp [addG]
  · rw [List.concat_eq_append]
    cases hf : fitsP (p ++ [r]) with
    | true => rw [addG_in hf]; simp
    | false => rw [addG_new hf]; simp
theorem fillP_good {rs : List (List Va)} (h : ∀ r ∈ rs, mayI r = 0) : GoodG (fillP rs) ∧ (fillP rs).flatten = rs := by
  have : ∀ (rs : List (List Va)) (gs : List (List (List Va))), (∀ r ∈ rs, mayI r = 0) → GoodG gs → GoodG (rs.foldl addG gs) ∧ (rs.foldl addG gs).flatten = gs.flatten ++ rs := by
    intro rs
    induction rs with
    | nil => intro gs _ hg; exact ⟨hg, by simp⟩
    | cons x rs ih =>
      intro gs hr hg
      obtain ⟨h1, h2⟩ := ih (addG gs x) (fun r hr' => hr r (by simp [hr'])) (hg.add (hr x (by simp)))
      exact ⟨h1, by rw [List.foldl_cons, h2, addG_flat]; simp⟩
  exact this rs [] h (fun p hp => by cases hp)
theorem pagesP_make {gs : List (List (List Va))} (h : GoodG gs) : pagesP (gs.map makeP) = some gs.flatten := by
  induction gs with
  | nil => rfl
  | cons p gs ih =>
    obtain ⟨h1, h2, _⟩ := h p (by simp)
    rw [List.map_cons, pagesP_cons, make_openP h2 h1]
    simp only
    rw [ih (fun q hq => h q (by simp [hq]))]
    rfl

theorem tailP_byte {ss : List Nat} (h : ∀ s ∈ ss, s < 65536) : ∀ x ∈ tailP ss, 0 ≤ x ∧ x < 256 := by
  induction ss with
  | nil => intro x hx; cases hx
  | cons s ss ih =>
    intro x hx
    have hs := h s (by simp)
    rcases List.mem_append.1 hx with hx | hx
    · exact ih (fun s' hs' => h s' (by simp [hs'])) x hx
    · simp at hx
      rcases hx with rfl | rfl <;> omega
theorem makeP_byte {p : List (List Va)} (hok : allOk p) (hf : fitsP p = true) : ∀ x ∈ makeP p, 0 ≤ x ∧ x < 256 := by
  obtain ⟨h1, h2, _⟩ := fitsP_parts hf
  intro x hx
  rcases List.mem_append.1 hx with hx | hx
  · rcases List.mem_append.1 hx with hx | hx
    · rcases List.mem_cons.1 hx with rfl | hx
      · omega
      · obtain ⟨r, hr, hx⟩ := List.mem_flatMap.1 hx
        exact putR_byte r (hok r hr) x hx
    · obtain ⟨_, rfl⟩ := List.mem_replicate.1 hx
      omega
  · exact tailP_byte (fun s hs => by have := starts_le 1 p s hs; omega) x hx

theorem info_bytesT : (Try.prog.info? 25).map (fun i => (i.zero, i.size, i.bytes)) = some (some (.slice none 0 0), 1, 24) := by kernel_rfl
/-- A page in memory; a list of pages of the call's own. -/
def pageV (g : Nat) : Value := .slice (some ⟨g, 0, none⟩) 256 256
def PagesOwn (w : World) (B : Nat) (v : Value) (bs : List Nat) (gs : List (List (List Va))) : Prop :=
  w.ownsRow B 25 1 v gs.length (bs.map pageV) ∧ bs.length = gs.length ∧ (∀ (k g : Nat) (p : List (List Va)), bs[k]? = some g → gs[k]? = some p → B ≤ g ∧ OwnB w g (makeP p)) ∧ ∀ i j g : Nat, bs[i]? = some g → bs[j]? = some g → i = j
theorem PagesOwn.nil (w : World) (B : Nat) : PagesOwn w B (.slice none 0 0) [] [] :=
  ⟨World.ownsRow_nil _ _ _ _, rfl, fun k g p h => by simp at h, fun i j g h => by simp at h⟩
theorem PagesOwn.kept {w w' : World} {B : Nat} {v : Value} {bs : List Nat} {gs : List (List (List Va))} (h : PagesOwn w B v bs gs) (hb : Below w.heap.size w w') : PagesOwn w' B v bs gs :=
  ⟨owns_same h.1 (fun k hk => hb.block k (h.1.lt k hk).2), h.2.1, fun k g p hg hp => ⟨(h.2.2.1 k g p hg hp).1, (h.2.2.1 k g p hg hp).2.kept hb⟩, h.2.2.2⟩
theorem PagesOwn.last {w : World} {B : Nat} {v : Value} {bs : List Nat} {gs : List (List (List Va))} {g : Nat} {p : List (List Va)} (h : PagesOwn w B v (bs ++ [g]) (gs ++ [p])) : B ≤ g ∧ OwnB w g (makeP p) := by
  have hl := h.2.1
  simp at hl
  exact h.2.2.1 bs.length g p (by simp) (by rw [hl]; simp)
/-- The last page is written to. -/
theorem PagesOwn.put {w w' : World} {B : Nat} {v : Value} {bs : List Nat} {gs : List (List (List Va))} {g d : Nat} {p p' : List (List Va)} (h : PagesOwn w B v (bs ++ [g]) (gs ++ [p])) (hp : OwnB w' g (makeP p')) (ha : Aside g d w w')
    (hd : ∃ cs fr, w.heap[d]? = some (.cells cs 100 fr)) : PagesOwn w' B v (bs ++ [g]) (gs ++ [p']) := by
  obtain ⟨hB, hg⟩ := h.last
  obtain ⟨h1, h2, h3, h4⟩ := h
  obtain ⟨cs, fr, hd⟩ := hd
  have hl : bs.length = gs.length := by simpa using h2
  have ht := owns_typed h1
  refine ⟨?_, by simpa using h2, ?_, h4⟩
  · have : w'.ownsRow B 25 1 v (gs ++ [p]).length ((bs ++ [g]).map pageV) := owns_same h1 (fun k hk => by
      obtain ⟨_, cs', fr', hk'⟩ := ht k hk
      refine ha.block k ?_ ?_
      · intro e; subst e; unfold OwnB at hg; rw [hg] at hk'; cases hk'
      · intro e; subst e; rw [hd] at hk'; cases hk')
    simpa using this
  · intro k gk q hk hq
    by_cases hkl : k < bs.length
    · have hk2 : bs[k]? = some gk := by rw [List.getElem?_append_left hkl] at hk; exact hk
      have hq2 : (gs ++ [p])[k]? = some q := by
        rw [List.getElem?_append_left (by omega)] at hq ⊢; exact hq
      obtain ⟨e1, e2⟩ := h3 k gk q hk hq2
      refine ⟨e1, (ha.block gk ?_ ?_).trans e2⟩
      · intro e
        subst e
        have := h4 k bs.length gk hk (by simp)
        omega
      · intro e; subst e; unfold OwnB at e2; rw [hd] at e2; cases e2
    · have hkk : k = bs.length := by
        have := (List.getElem?_eq_some_iff.1 hk).1
        simp at this; omega
      subst hkk
      simp at hk
      subst hk
      rw [hl] at hq
      simp at hq
      subst hq
      exact ⟨hB, hp⟩
/-- A list of pages with a page more. -/
theorem run_pushP (ty : TypeId) (v : Value) (bs : List Nat) (gs : List (List (List Va))) (g : Nat) (p : List (List Va)) (W : World) (B nb : Nat) (hv : PagesOwn W B v bs gs) (hg : OwnB W g (makeP p)) (hBg : B ≤ g) (hnew : ∀ k : Nat, bs[k]? ≠ some g) (hnb : W.heap[nb]? = some (.cells #[pageV g] 25 (0, 0))) (hB : B ≤ W.heap.size) (hl : gs.length ≤ 65536) :
    ∃ g' cap w', (Builtin.append_ #[46, 46] ty #[v, .slice (some ⟨nb, 0, none⟩) 1 1]).run Try.prog W = .ok (.slice (some ⟨g', 0, none⟩) (gs.length + 1) cap) w' ∧ PagesOwn w' B (.slice (some ⟨g', 0, none⟩) (gs.length + 1) cap) (bs ++ [g]) (gs ++ [p]) ∧ W.grownBy w' v.ownBlock ∧ (∀ (k : Nat) (cs : Array Value) (T : TypeId) (fr : Nat × Nat), W.heap[k]? = some (.cells cs T fr) → T ≠ 25 → w'.heap[k]? = W.heap[k]?) := by
  obtain ⟨i0, hi, hz0, hz1, hz2⟩ := info_parts info_bytesT
  obtain ⟨hown, hlen, hel, hnd⟩ := hv
  obtain ⟨g', cap, w', h, hown', hgr, hat, hlt⟩ := run_append_lies (P := Try.prog) W 46 ty B 25 i0 _ 1 24 Try.underlying46 hi hz0 hz1 hz2 rfl (by decide) v gs.length (bs.map pageV) hown ⟨nb, 0, none⟩ 1 1 [pageV g] rfl (World.news_of_block hnb) (by simp [Value.oneCell', pageV]) (by omega) (by simp [maxLen]; omega) (by omega) hB _ rfl
  have ht := owns_typed hown
  have hkeep : ∀ (k : Nat) (cs : Array Value) (T : TypeId) (fr : Nat × Nat), W.heap[k]? = some (.cells cs T fr) → T ≠ 25 → w'.heap[k]? = W.heap[k]? := fun k cs T fr hk hT =>
    hgr.block k (lt_of_block hk) (fun e => by
      obtain ⟨_, cs', fr', hk'⟩ := ht k e.symm
      rw [hk] at hk'
      cases hk'
      exact hT rfl)
  have hpg : ∀ (k : Nat) (q : List (List Va)), OwnB W k (makeP q) → OwnB w' k (makeP q) := fun k q hq => (hkeep k _ _ _ hq (by decide)).trans hq
  refine ⟨g', cap, w', h, ⟨by simpa using hown', by simp [hlen], ?_, ?_⟩, hgr, hkeep⟩
  · intro k gk q hk hq
    by_cases hkl : k < bs.length
    · rw [List.getElem?_append_left hkl] at hk
      rw [List.getElem?_append_left (by omega)] at hq
      obtain ⟨e1, e2⟩ := hel k gk q hk hq
      exact ⟨e1, hpg gk q e2⟩
    · have hkk : k = bs.length := by
        have := (List.getElem?_eq_some_iff.1 hk).1
        simp at this; omega
      subst hkk
      simp at hk
      subst hk
      rw [hlen] at hq
      simp at hq
      subst hq
      exact ⟨hBg, hpg g _ hg⟩
  · intro i j x hi' hj'
    by_cases h1 : i < bs.length
    · rw [List.getElem?_append_left h1] at hi'
      by_cases h2 : j < bs.length
      · rw [List.getElem?_append_left h2] at hj'
        exact hnd i j x hi' hj'
      · have hjj : j = bs.length := by
          have := (List.getElem?_eq_some_iff.1 hj').1
          simp at this; omega
        subst hjj
        simp at hj'
        subst hj'
        exact absurd hi' (hnew i)
    · have hii : i = bs.length := by
        have := (List.getElem?_eq_some_iff.1 hi').1
        simp at this; omega
      subst hii
      simp at hi'
      subst hi'
      by_cases h2 : j < bs.length
      · rw [List.getElem?_append_left h2] at hj'
        exact absurd hj' (hnew j)
      · have := (List.getElem?_eq_some_iff.1 hj').1
        simp at this; omega
/-- Behind the append of a page. -/
def PushEnd (W : World) (B : Nat) (v : Value) (bs : List Nat) (gs : List (List (List Va))) (g : Nat) (p : List (List Va)) (g' cap : Nat) (w' : World) : Prop :=
  PagesOwn w' B (.slice (some ⟨g', 0, none⟩) (gs.length + 1) cap) (bs ++ [g]) (gs ++ [p]) ∧ W.grownBy w' v.ownBlock ∧ ∀ (k : Nat) (cs : Array Value) (T : TypeId) (fr : Nat × Nat), W.heap[k]? = some (.cells cs T fr) → T ≠ 25 → w'.heap[k]? = W.heap[k]?
theorem wpList_pushP {ops : Array Oper} {rest : List Oper} {o : Oper} {a : Act} {Q : Exit → Act → World → Prop} (hgd : o.guard = none) (s x : Operand)
    (ho : o.op = .call { callee := .builtin .append, args := #[s, x], argTypes := #[46, 46] }) (v : Value) (bs : List Nat) (gs : List (List (List Va))) (g : Nat) (p : List (List Va)) (W : World) (B nb : Nat) (hs : a.eval s = v) (hx : a.eval x = .slice (some ⟨nb, 0, none⟩) 1 1) (hv : PagesOwn W B v bs gs) (hg : OwnB W g (makeP p)) (hBg : B ≤ g) (hnew : ∀ k : Nat, bs[k]? ≠ some g) (hnb : W.heap[nb]? = some (.cells #[pageV g] 25 (0, 0))) (hB : B ≤ W.heap.size) (hl : gs.length ≤ 65536)
    (h : ∀ g' cap w', PushEnd W B v bs gs g p g' cap w' → wpList Try.prog ops Q rest (a.put o.dst (.slice (some ⟨g', 0, none⟩) (gs.length + 1) cap)) w') :
    wpList Try.prog ops Q (o :: rest) a W := by
  refine wpList_plain hgd fun K hK => ?_
  obtain ⟨g', cap, w', hr', h2, h3, h4⟩ := run_pushP o.type v bs gs g p W B nb hv hg hBg hnew hnb hB hl
  unfold Oper.wp execOp
  simp only [ho, resolve, invoke, builtin, Sem.run_bind, Sem.run_pure, Result.andThen_ok, List.map_toArray, List.map_cons, List.map_nil, hs, hx, hr']
  exact hK _ _ (h g' cap w' ⟨h2, h3, h4⟩)
/-- What is returned is a list of pages. -/
theorem pages_end {w : World} {B : Nat} {v : Value} {bs : List Nat} {gs : List (List (List Va))} (h : PagesOwn w B v bs gs) (hgd : GoodG gs) : ∃ A c, v = .slice A gs.length c ∧ PagesAt w A (gs.map makeP) ∧ (A = none → c = 0) := by
  obtain ⟨h1, h2, h3, h4⟩ := h
  rcases h1.2 with ⟨rfl, h0⟩ | ⟨g, cap, cur, rfl, hb, hg, e1, e2, e3, e4⟩
  · have : gs = [] := by simpa using h0
    subst this
    exact ⟨none, 0, rfl, .inl rfl, fun _ => rfl⟩
  · refine ⟨some ⟨g, 0, none⟩, cap, rfl, .inr ⟨g, 0, rfl, lt_of_block hg, fun i q hq => ?_⟩, fun hh => by cases hh⟩
    simp only [List.getElem?_map, Option.map_eq_some_iff] at hq
    obtain ⟨p, hp, rfl⟩ := hq
    have hil : i < gs.length := (List.getElem?_eq_some_iff.1 hp).1
    have hbi : bs[i]? = some (bs[i]'(by omega)) := List.getElem?_eq_getElem (by omega)
    obtain ⟨_, f2⟩ := h3 i _ p hbi hp
    have hfit := (hgd p (List.mem_of_getElem? hp)).1
    have hlen := makeP_len hfit
    refine ⟨some ⟨bs[i]'(by omega), 0, none⟩, 256, ?_, ?_, by omega⟩
    · have h5 : (cur.toList.take (gs.length * 1))[i]? = (bs.map pageV)[i]? := by rw [e4]
      rw [List.getElem?_take_of_lt (by omega), List.getElem?_map, hbi] at h5
      have hc : cur[i]? = some (pageV (bs[i]'(by omega))) := by simpa using h5
      rw [hlen, Nat.zero_add]
      simp [World.cell?, hg, hc]
      rfl
    · exact f2.bytes (makeP_byte (hgd p (List.mem_of_getElem? hp)).2.1 hfit)
end Go.Proofs.Ytdjhoiamongdaaa
