/-
  Rows by pages, as the document's own Fill keeps them.
-/
import Derived.Test.YtdjhoiamongdaaaPgH
import Derived.Test.YtdjhoiamongdaaaPgX
namespace Go.Proofs.Ytdjhoiamongdaaa
open Go.RowKit Go.Shelf

/-- A list of lists of rows of the call's own. -/
def Grps (w : World) (B : Nat) (v : Value) (gs : List (List (List Va))) : Prop :=
  ∃ vs : List Value, w.ownsRow B 22 1 v gs.length vs ∧ vs.length = gs.length ∧ ∀ (k : Nat) (u : Value) (p : List (List Va)), vs[k]? = some u → gs[k]? = some p → ListOwn w B u p
theorem Grps.nil (w : World) (B : Nat) : Grps w B (.slice none 0 0) [] := ⟨[], World.ownsRow_nil _ _ _ _, rfl, fun k u p h => by simp at h⟩
theorem Grps.kept {w w' : World} {B : Nat} {v : Value} {gs : List (List (List Va))} (h : Grps w B v gs) (hB : B ≤ w.heap.size) (hb : Below w.heap.size w w') : Grps w' B v gs := by
  obtain ⟨vs, h1, h2, h3⟩ := h
  exact ⟨vs, owns_same h1 (fun k hk => hb.block k (h1.lt k hk).2), h2, fun k u p hu hp => (h3 k u p hu hp).kept hB hb⟩
theorem Grps.load {w : World} {B : Nat} {v : Value} {gs : List (List (List Va))} (h : Grps w B v gs) {k : Nat} (hk : k < gs.length) :
    ∃ g cap, v = .slice (some ⟨g, 0, none⟩) gs.length cap ∧ w.frozen? ⟨g, k, none⟩ = false ∧ (∃ cs fr, w.heap[g]? = some (.cells cs 22 fr)) ∧ B ≤ g ∧ ∃ A c, w.cell? ⟨g, k, none⟩ = some (.slice A gs[k].length c) ∧ ListOwn w B (.slice A gs[k].length c) gs[k] := by
  obtain ⟨vs, h1, h2, h3⟩ := h
  have hkv : k < vs.length := by omega
  have hl := h3 k _ _ (List.getElem?_eq_getElem hkv) (List.getElem?_eq_getElem hk)
  have hty := owns_typed h1
  rcases h1.2 with ⟨_, hn⟩ | ⟨g, cap, cur, rfl, hb, hg, h4, _, h5, ht⟩
  · omega
  · refine ⟨g, cap, rfl, h1.frozenAt k, (hty g rfl).2, hb, ?_⟩
    obtain ⟨A, c, e, hr, hA⟩ := hl.inB
    have hc := h1.cellAt k (by omega)
    rw [List.getElem?_eq_getElem hkv, e] at hc
    rw [e] at hl
    exact ⟨A, c, hc, hl⟩
theorem Grps.form {w : World} {B : Nat} {v : Value} {gs : List (List (List Va))} (h : Grps w B v gs) : ∃ A c, v = .slice A gs.length c ∧ (A = none → c = 0) ∧ gs.length ≤ c := by
  obtain ⟨vs, h1, h2, h3⟩ := h
  rcases h1.2 with ⟨hv, hn⟩ | ⟨g, cap, cur, hv, hb, hg, h4, _⟩
  · exact ⟨none, 0, by rw [hn]; exact hv, fun _ => rfl, by omega⟩
  · exact ⟨some ⟨g, 0, none⟩, cap, hv, (fun hh => by cases hh), h4⟩
/-- A list among them is set. -/
theorem Grps.store {w : World} {B g cap k : Nat} {u : Value} {gs : List (List (List Va))} {p : List (List Va)} {n : Nat} (hn : gs.length = n) (h : Grps w B (.slice (some ⟨g, 0, none⟩) n cap) gs) (hu : ListOwn w B u p) :
    Grps (w.setCell ⟨g, k, none⟩ u) B (.slice (some ⟨g, 0, none⟩) n cap) (gs.set k p) ∧ Grows B w (w.setCell ⟨g, k, none⟩ u) := by
  subst hn
  obtain ⟨vs, h1, h2, h3⟩ := h
  obtain ⟨hBg, cs, fr, hg⟩ := owns_typed h1 g rfl
  have hG : Grows B w (w.setCell ⟨g, k, none⟩ u) := Grows.setCell k u hBg hg (by decide)
  have hkeep : ∀ (q : List (List Va)) (x : Value), ListOwn w B x q → ListOwn (w.setCell ⟨g, k, none⟩ u) B x q := fun q x hx => hx.same hG (fun b hb => by
    obtain ⟨xs, ho, _⟩ := hx
    obtain ⟨_, cs', fr', hb'⟩ := owns_typed ho b hb
    refine Below.heap_setCell w _ _ b (fun e => ?_)
    subst e
    rw [hg] at hb'
    cases hb')
  refine ⟨⟨vs.set k u, by simpa using (h1.stored k u).1, by simp [h2], fun i x q hx hq => ?_⟩, hG⟩
  by_cases e : k = i
  · subst e
    have hkl := (List.getElem?_eq_some_iff.1 hx).1
    simp at hkl
    simp [hkl] at hx
    simp [show k < gs.length by omega] at hq
    subst hx
    subst hq
    exact hkeep _ _ hu
  · rw [List.getElem?_set_ne e] at hx hq
    exact hkeep _ _ (h3 i x q hx hq)
/-- A list more. -/
theorem run_pushG (ty : TypeId) (v : Value) (gs : List (List (List Va))) (u : Value) (p : List (List Va)) (W : World) (B nb : Nat) (hv : Grps W B v gs) (hu : ListOwn W B u p) (hnb : W.heap[nb]? = some (.cells #[u] 22 (0, 0))) (hB : B ≤ W.heap.size) (hl : gs.length ≤ 65536) :
    ∃ v' w', (Builtin.append_ #[49, 49] ty #[v, .slice (some ⟨nb, 0, none⟩) 1 1]).run Try.prog W = .ok v' w' ∧ Grps w' B v' (gs ++ [p]) ∧ Grows B W w' := by
  obtain ⟨i0, hi, hz0, hz1, hz2⟩ := info_parts info_listT
  obtain ⟨vs, h1, h2, h3⟩ := hv
  obtain ⟨A, c, hue, _, _⟩ := hu.inB
  obtain ⟨g, cap, w', h, hown', hgr, hat, hlt⟩ := run_append_lies (P := Try.prog) W 49 ty B 22 i0 _ 1 24 Try.underlying49 hi hz0 hz1 hz2 rfl (by decide) v gs.length vs h1 ⟨nb, 0, none⟩ 1 1 [u] rfl (World.news_of_block hnb) (by rw [hue]; simp [Value.oneCell']) (by omega) (by simp [maxLen]; omega) (by omega) hB _ rfl
  have hG : Grows B W w' := Grows.grown hB hgr (fun k hk => by
    obtain ⟨hb, cs, fr, hcs⟩ := owns_typed h1 k hk
    exact ⟨hb, cs, _, fr, hcs, by decide⟩)
  have hkeep : ∀ (q : List (List Va)) (x : Value), ListOwn W B x q → ListOwn w' B x q := fun q x hx => hx.same hG (fun b hb => by
    obtain ⟨xs, ho, _⟩ := hx
    obtain ⟨_, cs', fr', hb'⟩ := owns_typed ho b hb
    refine hgr.block b (lt_of_block hb') (fun e => ?_)
    obtain ⟨_, cs, fr, hcs⟩ := owns_typed h1 b e.symm
    rw [hcs] at hb'
    cases hb')
  refine ⟨_, w', h, ⟨vs ++ [u], by simpa using hown', by simp [h2], fun i x q hx hq => ?_⟩, hG⟩
  by_cases hil : i < vs.length
  · rw [List.getElem?_append_left hil] at hx
    rw [List.getElem?_append_left (by omega)] at hq
    exact hkeep _ _ (h3 i x q hx hq)
  · have hii : i = vs.length := by
      have := (List.getElem?_eq_some_iff.1 hx).1
      simp at this; omega
    subst hii
    simp at hx
    rw [h2] at hq
    simp at hq
    subst hx
    subst hq
    exact hkeep _ _ hu
theorem wpList_pushG {ops : Array Oper} {rest : List Oper} {o : Oper} {a : Act} {Q : Exit → Act → World → Prop} (hgd : o.guard = none) (s x : Operand)
    (ho : o.op = .call { callee := .builtin .append, args := #[s, x], argTypes := #[49, 49] }) (v : Value) (gs : List (List (List Va))) (u : Value) (p : List (List Va)) (W : World) (B nb : Nat) (hs : a.eval s = v) (hx : a.eval x = .slice (some ⟨nb, 0, none⟩) 1 1) (hv : Grps W B v gs) (hu : ListOwn W B u p) (hnb : W.heap[nb]? = some (.cells #[u] 22 (0, 0))) (hB : B ≤ W.heap.size) (hl : gs.length ≤ 65536)
    (h : ∀ v' w', Grps w' B v' (gs ++ [p]) → Grows B W w' → wpList Try.prog ops Q rest (a.put o.dst v') w') :
    wpList Try.prog ops Q (o :: rest) a W := by
  refine wpList_plain hgd fun K hK => ?_
  obtain ⟨v', w', hr', h2, h3⟩ := run_pushG o.type v gs u p W B nb hv hu hnb hB hl
  unfold Oper.wp execOp
  simp only [ho, resolve, invoke, builtin, Sem.run_bind, Sem.run_pure, Result.andThen_ok, List.map_toArray, List.map_cons, List.map_nil, hs, hx, hr']
  exact hK _ _ (h v' w' h2 h3)

/-- append(empty, rows...) of some rows: where it lies. -/
theorem run_appF (ty : TypeId) (n : Nat) (A : Option Addr) (c L : Nat) (rs : List (List Va)) (W : World) (B : Nat) (hE : W.heap[n]? = some (.cells #[] 30 (0, 0))) (hn : B ≤ n) (hL : rs.length = L) (h0 : 0 < L) (hr : RowsIn W B A rs) (hB : B ≤ W.heap.size) (hl : L ≤ 65536) :
    ∃ g cap w', (Builtin.append_ #[22, 22] ty #[.slice (some ⟨n, 0, none⟩) 0 0, .slice A L c]).run Try.prog W = .ok (.slice (some ⟨g, 0, none⟩) L cap) w' ∧ ListOwn w' B (.slice (some ⟨g, 0, none⟩) L cap) rs ∧ Grows B W w' ∧ W.grownBy w' (some n) ∧ (g = n ∨ g = W.heap.size) := by
  subst hL
  obtain ⟨i0, hi, hz0, hz1, hz2⟩ := info_parts info_rowT
  have hown : W.ownsRow B 30 1 (.slice (some ⟨n, 0, none⟩) 0 0) 0 [] := ⟨rfl, .inr ⟨n, 0, #[], rfl, hn, hE, Nat.le_refl _, Nat.zero_le _, rfl, rfl⟩⟩
  rcases hr with hr | ⟨b, off, ys, rfl, hlt, hc, he⟩
  · subst hr; simp at h0
  · obtain ⟨g, cap, w', h, hown', hgr, hat, _⟩ := run_append_lies (P := Try.prog) W 22 ty B 30 i0 _ 1 24 Try.underlying22 hi hz0 hz1 hz2 rfl (by decide) (.slice (some ⟨n, 0, none⟩) 0 0) 0 [] hown ⟨b, off, none⟩ rs.length c ys (by rw [he.1]; simp) (fun i u hu => by
        have hadd : (⟨b, off, none⟩ : Addr).add i = ⟨b, off + i, none⟩ := by unfold Addr.add; split <;> simp_all
        rw [hadd]; exact hc i u hu) (oneCell_elems he) h0 (by simp [maxLen]; omega) (by omega) hB _ rfl
    have hG : Grows B W w' := Grows.grown hB hgr (fun k hk => by
      obtain ⟨hb, cs, fr, hcs⟩ := owns_typed hown k hk
      exact ⟨hb, cs, _, fr, hcs, by decide⟩)
    refine ⟨g, cap, w', by simpa using h, ⟨ys, by simpa using hown', he.kept hG⟩, hG, hgr, ?_⟩
    rcases hat with hat | hat
    · simp [Value.ownBlock] at hat; exact .inl hat.symm
    · exact .inr hat
theorem step_appF {ops : Array Oper} {o : Oper} {a : Act} {K : Act → World → Prop} {Q : Exit → Act → World → Prop} {E : Prop} (hgd : o.guard = none) (s x : Operand)
    (ho : o.op = .call { callee := .builtin .append, args := #[s, x], argTypes := #[22, 22] }) (n : Nat) (A : Option Addr) (c L : Nat) (rs : List (List Va)) (W : World) (B : Nat) (hs : a.eval s = .slice (some ⟨n, 0, none⟩) 0 0) (hx : a.eval x = .slice A L c) (hE : W.heap[n]? = some (.cells #[] 30 (0, 0))) (hn : B ≤ n) (hL : rs.length = L) (h0 : 0 < L) (hr : RowsIn W B A rs) (hB : B ≤ W.heap.size) (hl : L ≤ 65536)
    (h : ∀ g cap w', ListOwn w' B (.slice (some ⟨g, 0, none⟩) L cap) rs → Grows B W w' → W.grownBy w' (some n) → (g = n ∨ g = W.heap.size) → K (a.put o.dst (.slice (some ⟨g, 0, none⟩) L cap)) w') :
    if Region.wanted o (yielded ops a.tmps) = true then Oper.wp Try.prog o a W K Q else E := by
  have hw : Region.wanted o (yielded ops a.tmps) = true := by simp [Region.wanted, hgd]
  rw [if_pos hw]
  obtain ⟨g, cap, w', hr', h2, h3, h4, h5⟩ := run_appF o.type n A c L rs W B hE hn hL h0 hr hB hl
  unfold Oper.wp execOp
  simp only [ho, resolve, invoke, builtin, Sem.run_bind, Sem.run_pure, Result.andThen_ok, List.map_toArray, List.map_cons, List.map_nil, hs, hx, hr']
  exact h g cap w' h2 h3 h4 h5
end Go.Proofs.Ytdjhoiamongdaaa
