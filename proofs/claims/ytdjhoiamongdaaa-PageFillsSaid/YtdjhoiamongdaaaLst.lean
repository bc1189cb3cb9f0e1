/-
  Lists of rows, and lists of such lists, in memory of the call's own: rows of which nothing is written any more; a list that grows; a table of lists.
-/
import Derived.Test.YtdjhoiamongdaaaRJoin
import Derived.Deep.AppendLies
import Derived.Laws.AppendOwnNone
namespace Go.Proofs.Ytdjhoiamongdaaa
open Go.RowKit Go.Shelf

theorem info_rowT : (Try.prog.info? 30).map (fun i => (i.zero, i.size, i.bytes)) = some (some (.slice none 0 0), 1, 24) := by kernel_rfl
theorem info_listT : (Try.prog.info? 22).map (fun i => (i.zero, i.size, i.bytes)) = some (some (.slice none 0 0), 1, 24) := by kernel_rfl
theorem info_valT : (Try.prog.info? 94).map (fun i => (i.zero, i.size, i.bytes)) = some (some (VV 0 0 ⟨#[]⟩), 3, 32) := by kernel_rfl

/-- Below B all is as it was, and no block of values has changed. -/
def Grows (B : Nat) (w w' : World) : Prop := Below B w w' ∧ ∀ (k : Nat) (cs : Array Value) (fr : Nat × Nat), w.heap[k]? = some (Obj.cells cs 94 fr) → w'.heap[k]? = some (Obj.cells cs 94 fr)
theorem Grows.refl (B : Nat) (w : World) : Grows B w w := ⟨Below.refl _ _, fun _ _ _ h => h⟩
theorem Grows.trans {B : Nat} {a b c : World} (h : Grows B a b) (k : Grows B b c) : Grows B a c := ⟨h.1.trans k.1, fun q cs fr hq => k.2 q cs fr (h.2 q cs fr hq)⟩
theorem lt_of_block {w : World} {k : Nat} {o : Obj} (h : w.heap[k]? = some o) : k < w.heap.size := by
  rcases Nat.lt_or_ge k w.heap.size with hl | hg
  · exact hl
  · rw [Array.getElem?_eq_none hg] at h; cases h
theorem Grows.below {B : Nat} {w w' : World} (hB : B ≤ w.heap.size) (h : Below w.heap.size w w') : Grows B w w' :=
  ⟨h.mono hB, fun k _ _ hk => (h.block k (lt_of_block hk)).trans hk⟩
theorem Grows.grown {B : Nat} {w w' : World} {row : Option Nat} (hB : B ≤ w.heap.size) (hg : w.grownBy w' row) (hr : ∀ k, row = some k → B ≤ k ∧ ∃ cs T fr, w.heap[k]? = some (.cells cs T fr) ∧ T ≠ 94) : Grows B w w' := by
  refine ⟨(Below.refl B w).grown hg hB (fun k hk => (hr k hk).1), fun k cs fr hk => ?_⟩
  rw [hg.block k (lt_of_block hk) ?_]
  · exact hk
  · intro e
    obtain ⟨_, cs', T, fr', h', hT⟩ := hr k e.symm
    rw [hk] at h'
    cases h'
    exact hT rfl
theorem Grows.setCell {B : Nat} {w : World} {g : Nat} (i : Nat) (u : Value) (hB : B ≤ g) {cs : Array Value} {T : TypeId} {fr : Nat × Nat} (hg : w.heap[g]? = some (.cells cs T fr)) (hT : T ≠ 94) : Grows B w (w.setCell ⟨g, i, none⟩ u) := by
  refine ⟨(Below.refl B w).setCell hB _, fun k cs' fr' hk => ?_⟩
  rw [Below.heap_setCell w _ u k ?_]
  · exact hk
  · intro e
    have e' : k = g := e
    subst e'
    rw [hk] at hg
    cases hg
    exact hT rfl
theorem Grows.drew {B : Nat} {a w : World} (h : Grows B a w) : Grows B a w.drew := ⟨h.1.drew, h.2⟩

/-- A row lies there; its block lies below B, or holds values. -/
def ElemAt (w : World) (B : Nat) (A : Option Addr) (r : List Va) : Prop :=
  RowAt w A r ∧ (r ≠ [] → ∀ b off, A = some ⟨b, off, none⟩ → b < B ∨ ∃ cs fr, w.heap[b]? = some (.cells cs 94 fr))
theorem ElemAt.low {w : World} {A : Option Addr} {r : List Va} {B : Nat} (h : RowAt w A r) (hB : w.heap.size ≤ B) : ElemAt w B A r := by
  refine ⟨h, fun hne b off hA => .inl ?_⟩
  rcases h with h | ⟨b', off', hA', hlt, _⟩
  · exact absurd h hne
  · rw [hA] at hA'; cases hA'; omega
theorem ElemAt.kept {w w' : World} {B : Nat} {A : Option Addr} {r : List Va} (h : ElemAt w B A r) (hg : Grows B w w') : ElemAt w' B A r := by
  obtain ⟨hr, ht⟩ := h
  by_cases hne : r = []
  · exact ⟨.inl hne, fun hh => absurd hne hh⟩
  · rcases hr with hr | ⟨b, off, hA, hlt, hc⟩
    · exact absurd hr hne
    · have hblk : w'.heap[b]? = w.heap[b]? := by
        rcases ht hne b off hA with hb | ⟨cs, fr, hb⟩
        · exact hg.1.block b hb
        · rw [hb]; exact hg.2 b cs fr hb
      refine ⟨.inr ⟨b, off, hA, Nat.lt_of_lt_of_le hlt hg.1.size, fun i v hv => ?_⟩, fun _ b' off' hA' => ?_⟩
      · obtain ⟨c0, c1, c2⟩ := hc i v hv
        exact ⟨(World.cell?_of_block hblk).trans c0, (World.cell?_of_block hblk).trans c1, (World.cell?_of_block hblk).trans c2⟩
      · rw [hA] at hA'
        cases hA'
        rcases ht hne b off hA with hb | ⟨cs, fr, hb⟩
        · exact .inl hb
        · exact .inr ⟨cs, fr, hg.2 b cs fr hb⟩

/-- A list of rows of the call's own. -/
def Elems (w : World) (B : Nat) (xs : List Value) (p : List (List Va)) : Prop := xs.length = p.length ∧ ∀ (k : Nat) (r : List Va), p[k]? = some r → ∃ A c, xs[k]? = some (.slice A r.length c) ∧ ElemAt w B A r ∧ (A = none → c = 0)
theorem Elems.nil (w : World) (B : Nat) : Elems w B [] [] := ⟨rfl, fun k r h => by simp at h⟩
theorem Elems.kept {w w' : World} {B : Nat} {xs : List Value} {p : List (List Va)} (h : Elems w B xs p) (hg : Grows B w w') : Elems w' B xs p :=
  ⟨h.1, fun k r hr => by obtain ⟨A, c, hx, he, hA⟩ := h.2 k r hr; exact ⟨A, c, hx, he.kept hg, hA⟩⟩
theorem Elems.push {w : World} {B : Nat} {xs : List Value} {p : List (List Va)} (h : Elems w B xs p) {A : Option Addr} {c : Nat} {r : List Va} (he : ElemAt w B A r) (hA : A = none → c = 0) : Elems w B (xs ++ [.slice A r.length c]) (p ++ [r]) := by
  refine ⟨by simp [h.1], fun k r' hr' => ?_⟩
  by_cases hk : k < p.length
  · rw [List.getElem?_append_left hk] at hr'
    obtain ⟨A', c', hx, he', hA'⟩ := h.2 k r' hr'
    exact ⟨A', c', by rw [List.getElem?_append_left (by rw [h.1]; exact hk)]; exact hx, he', hA'⟩
  · have hk' : k = p.length := by
      have := (List.getElem?_eq_some_iff.1 hr').1
      simp at this; omega
    subst hk'
    simp at hr'
    subst hr'
    exact ⟨A, c, by rw [← h.1]; simp, he, hA⟩
def ListOwn (w : World) (B : Nat) (v : Value) (p : List (List Va)) : Prop := ∃ xs, w.ownsRow B 30 1 v p.length xs ∧ Elems w B xs p
theorem ListOwn.nil (w : World) (B : Nat) : ListOwn w B (.slice none 0 0) [] := ⟨[], World.ownsRow_nil _ _ _ _, Elems.nil _ _⟩
theorem owns_typed {w : World} {B : Nat} {e : TypeId} {v : Value} {n : Nat} {xs : List Value} {size : Nat} (h : w.ownsRow B e size v n xs) : ∀ k, v.ownBlock = some k → B ≤ k ∧ ∃ cs fr, w.heap[k]? = some (.cells cs e fr) := by
  intro k hk
  rcases h.2 with ⟨rfl, _⟩ | ⟨g, cap, cur, rfl, hb, hgg, _⟩
  · simp [Value.ownBlock] at hk
  · simp [Value.ownBlock] at hk
    subst hk
    exact ⟨hb, cur, _, hgg⟩
theorem owns_same {w w' : World} {B : Nat} {e : TypeId} {v : Value} {n : Nat} {xs : List Value} {size : Nat} (h : w.ownsRow B e size v n xs) (hb : ∀ k, v.ownBlock = some k → w'.heap[k]? = w.heap[k]?) : w'.ownsRow B e size v n xs := by
  refine ⟨h.1, ?_⟩
  rcases h.2 with hn | ⟨g, cap, cur, rfl, hbb, hgg, rest⟩
  · exact .inl hn
  · exact .inr ⟨g, cap, cur, rfl, hbb, (hb g rfl).trans hgg, rest⟩
theorem ListOwn.same {w w' : World} {B : Nat} {v : Value} {p : List (List Va)} (h : ListOwn w B v p) (hg : Grows B w w') (hb : ∀ k, v.ownBlock = some k → w'.heap[k]? = w.heap[k]?) : ListOwn w' B v p := by
  obtain ⟨xs, ho, he⟩ := h
  exact ⟨xs, owns_same ho hb, he.kept hg⟩
theorem ListOwn.kept {w w' : World} {B : Nat} {v : Value} {p : List (List Va)} (h : ListOwn w B v p) (hB : B ≤ w.heap.size) (hb : Below w.heap.size w w') : ListOwn w' B v p := by
  obtain ⟨xs, ho, he⟩ := h
  exact ⟨xs, owns_same ho (fun k hk => hb.block k (ho.lt k hk).2), he.kept (Grows.below hB hb)⟩

/-- append(nil, r...): a row of the call's own. -/
theorem run_copyV (ty : TypeId) (A : Option Addr) (c : Nat) (r : List Va) (W : World) (B : Nat) (hr : RowAt W A r) (hA : A = none → c = 0) (hl : r.length ≤ 65536) :
    ∃ A' c' w', (Builtin.append_ #[30, 30] ty #[.slice none 0 0, .slice A r.length c]).run Try.prog W = .ok (.slice A' r.length c') w' ∧ ElemAt w' B A' r ∧ (A' = none → c' = 0) ∧ W.grownBy w' none := by
  obtain ⟨i0, hi, hz0, hz1, hz2⟩ := info_parts info_valT
  have hnil := World.ownsRow_nil W W.heap.size 94 3
  cases r with
  | nil =>
    cases A with
    | none =>
      have hc := hA rfl
      subst hc
      have h := run_append_owned_none (P := Try.prog) (w := W) W.heap.size 30 ty 94 i0 3 Try.underlying30 hi _ 0 [] hnil
      exact ⟨none, 0, W, h, ⟨.inl rfl, fun hh => absurd rfl hh⟩, fun _ => rfl, ⟨rfl, rfl, rfl, Nat.le_refl _, fun _ _ _ => rfl⟩⟩
    | some ad =>
      obtain ⟨v', w', h, _, hgr, hv⟩ := run_append_own (P := Try.prog) W W.heap.size 30 ty 94 i0 _ 3 32 Try.underlying30 hi hz0 hz1 hz2 rfl (by decide) _ 0 [] hnil ad 0 c [] rfl (by simp) (by simp) (by simp [maxLen]) (by omega) (Nat.le_refl _)
      obtain rfl := hv.2 ⟨rfl, rfl⟩
      exact ⟨none, 0, w', h, ⟨.inl rfl, fun hh => absurd rfl hh⟩, fun _ => rfl, hgr⟩
  | cons v r =>
    obtain ⟨b, off, rfl, _, _⟩ := hr.at (i := 0) (by simp)
    obtain ⟨g', cap, w', h, hown, hgr, hat, hlt⟩ := run_append_lies (P := Try.prog) W 30 ty W.heap.size 94 i0 _ 3 32 Try.underlying30 hi hz0 hz1 hz2 rfl (by decide) _ 0 [] hnil ⟨b, off, none⟩ (v :: r).length c (rowList (v :: r)) (rowList_length _) (news_of_row hr) (oneCell_row _) (by simp) (by simp [maxLen] at hl ⊢; omega) (by omega) (Nat.le_refl _) _ rfl
    rw [Nat.zero_add] at h hown
    rw [List.nil_append] at hown
    refine ⟨some ⟨g', 0, none⟩, cap, w', h, ⟨row_of_owns hown, fun _ b' off' hb' => ?_⟩, (fun hh => by cases hh), hgr⟩
    cases hb'
    obtain ⟨_, cs, fr, hcs⟩ := owns_typed hown g' rfl
    exact .inr ⟨cs, fr, hcs⟩
theorem step_copyV {ops : Array Oper} {o : Oper} {a : Act} {K : Act → World → Prop} {Q : Exit → Act → World → Prop} {E : Prop} (hgd : o.guard = none) (s x : Operand)
    (ho : o.op = .call { callee := .builtin .append, args := #[s, x], argTypes := #[30, 30] }) (A : Option Addr) (c : Nat) (r : List Va) (W : World) (B : Nat) (hs : a.eval s = .slice none 0 0) (hx : a.eval x = .slice A r.length c) (hr : RowAt W A r) (hA : A = none → c = 0) (hl : r.length ≤ 65536)
    (h : ∀ A' c' w', ElemAt w' B A' r → (A' = none → c' = 0) → W.grownBy w' none → K (a.put o.dst (.slice A' r.length c')) w') :
    if Region.wanted o (yielded ops a.tmps) = true then Oper.wp Try.prog o a W K Q else E := by
  have hw : Region.wanted o (yielded ops a.tmps) = true := by simp [Region.wanted, hgd]
  rw [if_pos hw]
  obtain ⟨A', c', w', hr', h2, h3, h4⟩ := run_copyV o.type A c r W B hr hA hl
  unfold Oper.wp execOp
  simp only [ho, resolve, invoke, builtin, Sem.run_bind, Sem.run_pure, Result.andThen_ok, List.map_toArray, List.map_cons, List.map_nil, hs, hx, hr']
  exact h A' c' w' h2 h3 h4

/-- A list with a row more. -/
theorem run_pushL (ty : TypeId) (v : Value) (p : List (List Va)) (A : Option Addr) (c : Nat) (r : List Va) (W : World) (B nb : Nat) (hv : ListOwn W B v p) (he : ElemAt W B A r) (hA : A = none → c = 0) (hnb : W.heap[nb]? = some (.cells #[.slice A r.length c] 30 (0, 0))) (hB : B ≤ W.heap.size) (hl : p.length ≤ 65536) :
    ∃ g cap w', (Builtin.append_ #[22, 22] ty #[v, .slice (some ⟨nb, 0, none⟩) 1 1]).run Try.prog W = .ok (.slice (some ⟨g, 0, none⟩) (p.length + 1) cap) w' ∧ ListOwn w' B (.slice (some ⟨g, 0, none⟩) (p.length + 1) cap) (p ++ [r]) ∧ W.grownBy w' v.ownBlock ∧ (v.ownBlock = some g ∨ g = W.heap.size) ∧ Grows B W w' := by
  obtain ⟨i0, hi, hz0, hz1, hz2⟩ := info_parts info_rowT
  obtain ⟨xs, hown, hel⟩ := hv
  obtain ⟨g, cap, w', h, hown', hgr, hat, hlt⟩ := run_append_lies (P := Try.prog) W 22 ty B 30 i0 _ 1 24 Try.underlying22 hi hz0 hz1 hz2 rfl (by decide) v p.length xs hown ⟨nb, 0, none⟩ 1 1 [.slice A r.length c] rfl (World.news_of_block hnb) (by simp [Value.oneCell']) (by omega) (by simp [maxLen]; omega) (by omega) hB _ rfl
  have hG : Grows B W w' := Grows.grown hB hgr (fun k hk => by
    obtain ⟨hb, cs, fr, hcs⟩ := owns_typed hown k hk
    exact ⟨hb, cs, _, fr, hcs, by decide⟩)
  refine ⟨g, cap, w', h, ⟨xs ++ [.slice A r.length c], by simpa using hown', (hel.kept hG).push (he.kept hG) hA⟩, hgr, hat, hG⟩
theorem step_pushL {ops : Array Oper} {o : Oper} {a : Act} {K : Act → World → Prop} {Q : Exit → Act → World → Prop} {E : Prop} (hgd : o.guard = none) (s x : Operand)
    (ho : o.op = .call { callee := .builtin .append, args := #[s, x], argTypes := #[22, 22] }) (v : Value) (p : List (List Va)) (A : Option Addr) (c : Nat) (r : List Va) (W : World) (B nb : Nat) (hs : a.eval s = v) (hx : a.eval x = .slice (some ⟨nb, 0, none⟩) 1 1) (hv : ListOwn W B v p) (he : ElemAt W B A r) (hA : A = none → c = 0) (hnb : W.heap[nb]? = some (.cells #[.slice A r.length c] 30 (0, 0))) (hB : B ≤ W.heap.size) (hl : p.length ≤ 65536)
    (h : ∀ g cap w', ListOwn w' B (.slice (some ⟨g, 0, none⟩) (p.length + 1) cap) (p ++ [r]) → W.grownBy w' v.ownBlock → (v.ownBlock = some g ∨ g = W.heap.size) → Grows B W w' → K (a.put o.dst (.slice (some ⟨g, 0, none⟩) (p.length + 1) cap)) w') :
    if Region.wanted o (yielded ops a.tmps) = true then Oper.wp Try.prog o a W K Q else E := by
  have hw : Region.wanted o (yielded ops a.tmps) = true := by simp [Region.wanted, hgd]
  rw [if_pos hw]
  obtain ⟨g, cap, w', hr', h2, h3, h4, h5⟩ := run_pushL o.type v p A c r W B nb hv he hA hnb hB hl
  unfold Oper.wp execOp
  simp only [ho, resolve, invoke, builtin, Sem.run_bind, Sem.run_pure, Result.andThen_ok, List.map_toArray, List.map_cons, List.map_nil, hs, hx, hr']
  exact h g cap w' h2 h3 h4 h5
theorem wpList_pushL {ops : Array Oper} {rest : List Oper} {o : Oper} {a : Act} {Q : Exit → Act → World → Prop} (hgd : o.guard = none) (s x : Operand)
    (ho : o.op = .call { callee := .builtin .append, args := #[s, x], argTypes := #[22, 22] }) (v : Value) (p : List (List Va)) (A : Option Addr) (c : Nat) (r : List Va) (W : World) (B nb : Nat) (hs : a.eval s = v) (hx : a.eval x = .slice (some ⟨nb, 0, none⟩) 1 1) (hv : ListOwn W B v p) (he : ElemAt W B A r) (hA : A = none → c = 0) (hnb : W.heap[nb]? = some (.cells #[.slice A r.length c] 30 (0, 0))) (hB : B ≤ W.heap.size) (hl : p.length ≤ 65536)
    (h : ∀ g cap w', ListOwn w' B (.slice (some ⟨g, 0, none⟩) (p.length + 1) cap) (p ++ [r]) → W.grownBy w' v.ownBlock → (v.ownBlock = some g ∨ g = W.heap.size) → Grows B W w' → wpList Try.prog ops Q rest (a.put o.dst (.slice (some ⟨g, 0, none⟩) (p.length + 1) cap)) w') :
    wpList Try.prog ops Q (o :: rest) a W := by
  refine wpList_plain hgd fun K hK => ?_
  obtain ⟨g, cap, w', hr', h2, h3, h4, h5⟩ := run_pushL o.type v p A c r W B nb hv he hA hnb hB hl
  unfold Oper.wp execOp
  simp only [ho, resolve, invoke, builtin, Sem.run_bind, Sem.run_pure, Result.andThen_ok, List.map_toArray, List.map_cons, List.map_nil, hs, hx, hr']
  exact hK _ _ (h g cap w' h2 h3 h4 h5)

/-- A table of lists of rows. -/
def PartsAt (w : World) (B g : Nat) (vs : List Value) (P : List (List (List Va))) : Prop :=
  w.heap[g]? = some (.cells vs.toArray 22 (0, 0)) ∧ B ≤ g ∧ vs.length = P.length ∧ (∀ (i : Nat) (v : Value) (p : List (List Va)), vs[i]? = some v → P[i]? = some p → ListOwn w B v p) ∧
    ∀ (i j : Nat) (v u : Value) (k : Nat), i ≠ j → vs[i]? = some v → vs[j]? = some u → v.ownBlock = some k → u.ownBlock ≠ some k
theorem PartsAt.cell {w : World} {B g : Nat} {vs : List Value} {P : List (List (List Va))} (h : PartsAt w B g vs P) (i : Nat) : w.cell? ⟨g, i, none⟩ = vs[i]? := by
  simp [World.cell?, h.1]
theorem PartsAt.free {w : World} {B g : Nat} {vs : List Value} {P : List (List (List Va))} (h : PartsAt w B g vs P) (i : Nat) : w.frozen? ⟨g, i, none⟩ = false := by
  simp [World.frozen?, h.1]
theorem PartsAt.kept {w w' : World} {B g : Nat} {vs : List Value} {P : List (List (List Va))} (h : PartsAt w B g vs P) (hb : Below w.heap.size w w') : PartsAt w' B g vs P := by
  obtain ⟨h1, h2, h3, h4, h5⟩ := h
  have hlt := lt_of_block h1
  exact ⟨(hb.block g hlt).trans h1, h2, h3, fun i v p hv hp => (h4 i v p hv hp).kept (by omega) hb, h5⟩
/-- One list of a table has grown, and is stored. -/
theorem PartsAt.next0 {w w1 w2 w3 : World} {B g g' cap i : Nat} {vs : List Value} {P : List (List (List Va))} {v : Value} {p p' : List (List Va)} (h : PartsAt w B g vs P) (hi : vs[i]? = some v) (hp : P[i]? = some p)
    (hg1 : w.grownBy w1 none) (hg2 : Below w1.heap.size w1 w2) (hg3 : w2.grownBy w3 v.ownBlock) (hown : ListOwn w3 B (.slice (some ⟨g', 0, none⟩) p'.length cap) p') (hat : v.ownBlock = some g' ∨ g' = w2.heap.size) :
    PartsAt (w3.setCell ⟨g, i, none⟩ (.slice (some ⟨g', 0, none⟩) p'.length cap)) B g (vs.set i (.slice (some ⟨g', 0, none⟩) p'.length cap)) (P.set i p') ∧ Grows B w (w3.setCell ⟨g, i, none⟩ (.slice (some ⟨g', 0, none⟩) p'.length cap)) := by
  obtain ⟨h1, h2, h3, h4, h5⟩ := h
  have hlt := lt_of_block h1
  have hs1 := hg1.size
  have hs2 := hg2.size
  have k1 : ∀ k, k < w.heap.size → w2.heap[k]? = w.heap[k]? := fun k hk => (hg2.block k (by omega)).trans (hg1.block k hk (by simp))
  have lv := h4 i v p hi hp
  obtain ⟨xs, ho, _⟩ := lv
  have tv := owns_typed ho
  have G1 : Grows B w w2 := (Grows.grown (by omega) hg1 (fun k hk => by cases hk)).trans (Grows.below (by omega) hg2)
  have G2 : Grows B w2 w3 := Grows.grown (by omega) hg3 (fun k hk => by
    obtain ⟨hb, cs, fr, hcs⟩ := tv k hk
    exact ⟨hb, cs, _, fr, (k1 k (lt_of_block hcs)).trans hcs, by decide⟩)
  have gne : v.ownBlock ≠ some g := fun e => by
    obtain ⟨_, cs, fr, hcs⟩ := tv g e
    rw [h1] at hcs
    cases hcs
  have hgb : w3.heap[g]? = some (.cells vs.toArray 22 (0, 0)) := by
    rw [hg3.block g (by omega) (fun e => gne e.symm), k1 g hlt]; exact h1
  have G3 : Grows B w3 (w3.setCell ⟨g, i, none⟩ (.slice (some ⟨g', 0, none⟩) p'.length cap)) := Grows.setCell i _ h2 hgb (by decide)
  have hset : ∀ k, k ≠ g → (w3.setCell ⟨g, i, none⟩ (.slice (some ⟨g', 0, none⟩) p'.length cap)).heap[k]? = w3.heap[k]? := fun k hk => Below.heap_setCell w3 _ _ k hk
  have gne' : g' ≠ g := by
    rcases hat with hat | hat
    · intro e; exact gne (by rw [hat, e])
    · omega
  refine ⟨⟨?_, h2, by simp [h3], ?_, ?_⟩, (G1.trans G2).trans G3⟩
  · simp [World.setCell, Array.getElem?_modify, hgb]
  · intro j u q hu hq
    by_cases e : i = j
    · subst e
      have hil : i < vs.length := (List.getElem?_eq_some_iff.1 hi).1
      simp [hil] at hu
      subst hu
      have hpl : i < P.length := by omega
      simp [hpl] at hq
      subst hq
      exact hown.same G3 (fun k hk => by simp [Value.ownBlock] at hk; subst hk; exact hset _ gne')
    · rw [List.getElem?_set_ne e] at hu hq
      have hl := h4 j u q hu hq
      obtain ⟨ys, hoy, _⟩ := hl
      have ty := owns_typed hoy
      refine (h4 j u q hu hq).same ((G1.trans G2).trans G3) (fun k hk => ?_)
      obtain ⟨_, cs, fr, hcs⟩ := ty k hk
      have hkl := lt_of_block hcs
      have kne : k ≠ g := fun e' => by rw [e', h1] at hcs; cases hcs
      rw [hset k kne, hg3.block k (by omega) (fun e' => h5 i j v u k e hi hu e'.symm hk), k1 k hkl]
  · intro a b x y k hab hx hy hk
    by_cases ea : i = a
    · subst ea
      have hil : i < vs.length := (List.getElem?_eq_some_iff.1 hi).1
      simp [hil] at hx
      subst hx
      simp [Value.ownBlock] at hk
      subst hk
      rw [List.getElem?_set_ne hab] at hy
      rcases hat with hat | hat
      · exact h5 i b v y g' hab hi hy hat
      · intro hyk
        have hpb : b < P.length := by have := (List.getElem?_eq_some_iff.1 hy).1; omega
        obtain ⟨ys, hoy, _⟩ := h4 b y _ hy (List.getElem?_eq_getElem hpb)
        have := (hoy.lt g' hyk).2
        omega
    · rw [List.getElem?_set_ne ea] at hx
      by_cases eb : i = b
      · subst eb
        have hil : i < vs.length := (List.getElem?_eq_some_iff.1 hi).1
        simp [hil] at hy
        subst hy
        simp [Value.ownBlock]
        intro e'
        subst e'
        rcases hat with hat | hat
        · exact h5 a i x v g' hab hx hi hk hat
        · have hpa : a < P.length := by have := (List.getElem?_eq_some_iff.1 hx).1; omega
          obtain ⟨ys, hoy, _⟩ := h4 a x _ hx (List.getElem?_eq_getElem hpa)
          have := (hoy.lt g' hk).2
          omega
      · rw [List.getElem?_set_ne eb] at hy
        exact h5 a b x y k hab hx hy hk

theorem PartsAt.next {w w1 w2 w3 : World} {B g g' cap i n : Nat} {vs : List Value} {P : List (List (List Va))} {v : Value} {p p' : List (List Va)} (h : PartsAt w B g vs P) (hi : vs[i]? = some v) (hp : P[i]? = some p)
    (hg1 : w.grownBy w1 none) (hg2 : Below w1.heap.size w1 w2) (hg3 : w2.grownBy w3 v.ownBlock) (hn : p'.length = n) (hown : ListOwn w3 B (.slice (some ⟨g', 0, none⟩) n cap) p') (hat : v.ownBlock = some g' ∨ g' = w2.heap.size) :
    PartsAt (w3.setCell ⟨g, i, none⟩ (.slice (some ⟨g', 0, none⟩) n cap)) B g (vs.set i (.slice (some ⟨g', 0, none⟩) n cap)) (P.set i p') ∧ Grows B w (w3.setCell ⟨g, i, none⟩ (.slice (some ⟨g', 0, none⟩) n cap)) := by
  subst hn; exact h.next0 hi hp hg1 hg2 hg3 hown hat
theorem PartsAt.lists {w : World} {B g : Nat} {vs : List Value} {P : List (List (List Va))} (h : PartsAt w B g vs P) {i : Nat} (hi : i < P.length) : ∃ v, vs[i]? = some v ∧ ListOwn w B v (P.getD i []) := by
  obtain ⟨h1, h2, h3, h4, h5⟩ := h
  have hv : i < vs.length := by omega
  refine ⟨vs[i], List.getElem?_eq_getElem hv, ?_⟩
  have e : P.getD i [] = P[i] := by simp [List.getD, hi]
  rw [e]
  exact h4 i _ _ (List.getElem?_eq_getElem hv) (List.getElem?_eq_getElem hi)
theorem ListOwn.step {w w' : World} {B : Nat} {v : Value} {p : List (List Va)} (h : ListOwn w B v p) (hB : B ≤ w.heap.size) (hg : w.grownBy w' none) (o : Obj) : ListOwn (w'.alloc o) B v p := by
  have h1 : ListOwn w' B v p := by
    obtain ⟨xs, ho, he⟩ := h
    exact ⟨xs, ho.kept hg (by cases hv : v.ownBlock <;> simp), he.kept (Grows.grown hB hg (fun k hk => by cases hk))⟩
  exact h1.kept (Nat.le_trans hB hg.size) (ba _ _)
theorem ElemAt.alloc {w : World} {B : Nat} {A : Option Addr} {r : List Va} (h : ElemAt w B A r) (hB : B ≤ w.heap.size) (o : Obj) : ElemAt (w.alloc o) B A r := h.kept (Grows.below hB (ba _ _))

theorem grown_undrew {w w' : World} {r : Option Nat} (h : w.drew.grownBy w' r) : w.grownBy w' r := ⟨h.os, h.tape, h.output, h.size, h.block⟩
theorem grown_undrew2 {w w' : World} {o : Obj} {r : Option Nat} (h : (w.drew.alloc o).grownBy w' r) : (w.alloc o).grownBy w' r := ⟨h.os, h.tape, h.output, h.size, h.block⟩
theorem grown_refl (w : World) : w.grownBy w none := ⟨rfl, rfl, rfl, Nat.le_refl _, fun _ _ _ => rfl⟩
/-- A cell of one's own behind an append elsewhere, and behind a new block. -/
def CellIs (w : World) (g i : Nat) (v : Value) : Prop := w.cell? ⟨g, i, none⟩ = some v ∧ w.frozen? ⟨g, i, none⟩ = false
theorem CellIs.lt {w : World} {g i : Nat} {v : Value} (h : CellIs w g i v) : g < w.heap.size := World.block_lt_of_cell? w _ h.1
theorem CellIs.grown {w w' : World} {row : Option Nat} {g i : Nat} {v : Value} (h : CellIs w g i v) (hgr : w.grownBy w' row) (hne : some g ≠ row) : CellIs w' g i v :=
  ⟨(hgr.cell_far ⟨g, i, none⟩ h.lt hne).trans h.1, (hgr.frozen_far ⟨g, i, none⟩ h.lt hne).trans h.2⟩
theorem CellIs.kept {w w' : World} {g i : Nat} {v : Value} (h : CellIs w g i v) (hb : Below w.heap.size w w') : CellIs w' g i v :=
  ⟨(hb.cell (p := ⟨g, i, none⟩) h.lt).trans h.1, (hb.frozen (p := ⟨g, i, none⟩) h.lt).trans h.2⟩
theorem PartsAt.other {w : World} {B g i : Nat} {vs : List Value} {P : List (List (List Va))} {v : Value} (h : PartsAt w B g vs P) (hv : vs[i]? = some v) : some g ≠ v.ownBlock := by
  intro e
  obtain ⟨h1, h2, h3, h4, h5⟩ := h
  have hl := (List.getElem?_eq_some_iff.1 hv).1
  obtain ⟨xs, ho, _⟩ := h4 i v _ hv (List.getElem?_eq_getElem (by omega))
  obtain ⟨_, cs, fr, hcs⟩ := owns_typed ho g e.symm
  rw [h1] at hcs
  cases hcs

/-- A list of rows that came in. -/
def RowsAt (w : World) (B : Option Addr) (rs : List (List Va)) : Prop :=
  rs = [] ∨ ∃ b off : Nat, B = some ⟨b, off, none⟩ ∧ b < w.heap.size ∧ ∀ (i : Nat) (r : List Va), rs[i]? = some r → ∃ A c, w.cell? ⟨b, off + i, none⟩ = some (.slice A r.length c) ∧ RowAt w A r ∧ (A = none → c = 0)
theorem RowsAt.at {w w' : World} {B : Option Addr} {rs : List (List Va)} (h : RowsAt w B rs) (hb : Below w.heap.size w w') {i : Nat} (hi : i < rs.length) :
    ∃ b off : Nat, B = some ⟨b, off, none⟩ ∧ b < w.heap.size ∧ ∃ A c, w'.cell? ⟨b, off + i, none⟩ = some (.slice A rs[i].length c) ∧ RowAt w' A rs[i] ∧ ElemAt w' w.heap.size A rs[i] ∧ (A = none → c = 0) := by
  rcases h with h | ⟨b, off, hB, hlt, hc⟩
  · subst h; simp at hi
  · obtain ⟨A, c, hcell, hrow, hA⟩ := hc i rs[i] (List.getElem?_eq_getElem hi)
    exact ⟨b, off, hB, hlt, A, c, (hb.cell (p := ⟨b, _, none⟩) hlt).trans hcell, hrow.kept hb, (ElemAt.low hrow (Nat.le_refl _)).kept (Grows.below (Nat.le_refl _) hb), hA⟩
theorem RowsAt.kept {w w' : World} {B : Option Addr} {rs : List (List Va)} (h : RowsAt w B rs) (hb : Below w.heap.size w w') : RowsAt w' B rs := by
  rcases h with h | ⟨b, off, hB, hlt, hc⟩
  · exact .inl h
  · refine .inr ⟨b, off, hB, Nat.lt_of_lt_of_le hlt hb.size, fun i r hr => ?_⟩
    obtain ⟨A, c, hcell, hrow, hA⟩ := hc i r hr
    exact ⟨A, c, (hb.cell (p := ⟨b, _, none⟩) hlt).trans hcell, hrow.kept hb, hA⟩

end Go.Proofs.Ytdjhoiamongdaaa
