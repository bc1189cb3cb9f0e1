/-
  Lists of rows: one appended to another; a list's end.
-/
import Derived.Test.YtdjhoiamongdaaaSam
import Derived.Test.YtdjhoiamongdaaaRRead
namespace Go.Proofs.Ytdjhoiamongdaaa
open Go.RowKit Go.Shelf

/-- A list of rows, its values told. -/
def RowsIn (w : World) (B : Nat) (A : Option Addr) (rs : List (List Va)) : Prop :=
  rs = [] ∨ ∃ (b off : Nat) (xs : List Value), A = some ⟨b, off, none⟩ ∧ b < w.heap.size ∧ (∀ (i : Nat) (v : Value), xs[i]? = some v → w.cell? ⟨b, off + i, none⟩ = some v) ∧ Elems w B xs rs
theorem RowsAt.inB {w : World} {B : Nat} {A : Option Addr} {rs : List (List Va)} (h : RowsAt w A rs) (hB : w.heap.size ≤ B) : RowsIn w B A rs := by
  rcases h with h | ⟨b, off, hA, hlt, hc⟩
  · exact .inl h
  · have each : ∀ i, i < rs.length → ∃ v, w.cell? ⟨b, off + i, none⟩ = some v ∧ ∃ A c, v = .slice A (rs.getD i []).length c ∧ RowAt w A (rs.getD i []) ∧ (A = none → c = 0) := by
      intro i hi
      have e : rs.getD i [] = rs[i] := by simp [List.getD, hi]
      rw [e]
      obtain ⟨A, c, hcell, hrow, hA'⟩ := hc i rs[i] (List.getElem?_eq_getElem hi)
      exact ⟨_, hcell, A, c, rfl, hrow, hA'⟩
    have ch : ∃ f : Nat → Value, ∀ i, i < rs.length → w.cell? ⟨b, off + i, none⟩ = some (f i) ∧ ∃ A c, f i = .slice A (rs.getD i []).length c ∧ RowAt w A (rs.getD i []) ∧ (A = none → c = 0) := by
      refine ⟨fun i => if h : i < rs.length then Classical.choose (each i h) else .slice none 0 0, fun i hi => ?_⟩
      simp only [hi, dif_pos]
      exact Classical.choose_spec (each i hi)
    obtain ⟨f, hf⟩ := ch
    refine .inr ⟨b, off, (List.range rs.length).map f, hA, hlt, fun i v hv => ?_, by simp, fun k r hr => ?_⟩
    · rw [List.getElem?_map] at hv
      obtain ⟨j, hj, rfl⟩ := Option.map_eq_some_iff.1 hv
      obtain ⟨hjl, hje⟩ := List.getElem?_eq_some_iff.1 hj
      simp at hje hjl
      subst hje
      exact (hf i hjl).1
    · obtain ⟨hk, rfl⟩ := List.getElem?_eq_some_iff.1 hr
      obtain ⟨_, A', c, hv, hrow, hA'⟩ := hf k hk
      have e : rs.getD k [] = rs[k] := by simp [List.getD, hk]
      rw [e] at hv hrow
      exact ⟨A', c, by simp [hk, hv], ElemAt.low hrow hB, hA'⟩
theorem RowsIn.kept {w w' : World} {B : Nat} {A : Option Addr} {rs : List (List Va)} (h : RowsIn w B A rs) (hB : B ≤ w.heap.size) (hb : Below w.heap.size w w') : RowsIn w' B A rs := by
  rcases h with h | ⟨b, off, xs, hA, hlt, hc, he⟩
  · exact .inl h
  · exact .inr ⟨b, off, xs, hA, Nat.lt_of_lt_of_le hlt hb.size, fun i v hv => (hb.cell (p := ⟨b, _, none⟩) hlt).trans (hc i v hv), he.kept (Grows.below hB hb)⟩
theorem ListOwn.inB {w : World} {B : Nat} {v : Value} {p : List (List Va)} (h : ListOwn w B v p) : ∃ A c, v = .slice A p.length c ∧ RowsIn w B A p ∧ (A = none → c = 0) := by
  obtain ⟨xs, ho, he⟩ := h
  rcases ho.2 with ⟨rfl, hn⟩ | ⟨g, cap, cur, rfl, hb, hgg, hnc, hcm, hcs, htake⟩
  · rw [List.eq_nil_of_length_eq_zero hn]
    exact ⟨none, 0, rfl, .inl rfl, fun _ => rfl⟩
  · refine ⟨some ⟨g, 0, none⟩, cap, rfl, .inr ⟨g, 0, xs, rfl, lt_of_block hgg, fun i v hv => ?_, he⟩, fun hh => by cases hh⟩
    rw [Nat.zero_add]
    have hcell := World.ownsRow.cells ho (g := g) rfl i _ hv
    have hadd : (⟨g, 0, none⟩ : Addr).add i = ⟨g, i, none⟩ := by unfold Addr.add; split <;> simp_all
    rwa [hadd] at hcell
theorem RowsIn.rows {w : World} {B : Nat} {A : Option Addr} {rs : List (List Va)} (h : RowsIn w B A rs) : RowsAt w A rs := by
  rcases h with h | ⟨b, off, xs, hA, hlt, hc, he⟩
  · exact .inl h
  · refine .inr ⟨b, off, hA, hlt, fun i r hr => ?_⟩
    obtain ⟨A', c, hx, hel, hA'⟩ := he.2 i r hr
    exact ⟨A', c, hc i _ hx, hel.1, hA'⟩

theorem oneCell_elems {w : World} {B : Nat} {xs : List Value} {p : List (List Va)} (h : Elems w B xs p) : ∀ u ∈ xs, u.oneCell' = true := by
  intro u hu
  obtain ⟨i, hi, rfl⟩ := List.getElem_of_mem hu
  have hp : i < p.length := by rw [← h.1]; exact hi
  obtain ⟨A, c, hx, _⟩ := h.2 i p[i] (List.getElem?_eq_getElem hp)
  rw [List.getElem?_eq_getElem hi] at hx
  injection hx with hx
  rw [hx]
  rfl
theorem Elems.append {w : World} {B : Nat} {xs ys : List Value} {p q : List (List Va)} (h : Elems w B xs p) (h' : Elems w B ys q) : Elems w B (xs ++ ys) (p ++ q) := by
  refine ⟨by simp [h.1, h'.1], fun k r hr => ?_⟩
  by_cases hk : k < p.length
  · rw [List.getElem?_append_left hk] at hr
    rw [List.getElem?_append_left (by rw [h.1]; exact hk)]
    exact h.2 k r hr
  · rw [List.getElem?_append_right (by omega)] at hr
    rw [List.getElem?_append_right (by rw [h.1]; omega), h.1]
    exact h'.2 _ r hr
theorem run_appL (ty : TypeId) (v : Value) (p : List (List Va)) (A : Option Addr) (c : Nat) (rs : List (List Va)) (W : World) (B : Nat) (hv : ListOwn W B v p) (hr : RowsIn W B A rs) (hA : A = none → c = 0) (hB : B ≤ W.heap.size) (hl : p.length + rs.length ≤ 65536) :
    ∃ v' w', (Builtin.append_ #[22, 22] ty #[v, .slice A rs.length c]).run Try.prog W = .ok v' w' ∧ ListOwn w' B v' (p ++ rs) ∧ Grows B W w' := by
  obtain ⟨i0, hi, hz0, hz1, hz2⟩ := info_parts info_rowT
  obtain ⟨xs, hown, hel⟩ := hv
  cases A with
  | none =>
    have hc := hA rfl
    subst hc
    have hrs : rs = [] := by
      rcases hr with h | ⟨_, _, _, h, _⟩
      · exact h
      · cases h
    subst hrs
    have h := run_append_owned_none (P := Try.prog) (w := W) B 22 ty 30 i0 1 Try.underlying22 hi v p.length xs hown
    exact ⟨v, W, h, by rw [List.append_nil]; exact ⟨xs, hown, hel⟩, Grows.refl _ _⟩
  | some ad =>
    have hys : ∃ ys, Elems W B ys rs ∧ ∀ j u, ys[j]? = some u → W.cell? (ad.add j) = some u := by
      rcases hr with h | ⟨b, off, ys, h, hlt, hc, he⟩
      · subst h; exact ⟨[], Elems.nil _ _, fun j u h => by simp at h⟩
      · cases h
        refine ⟨ys, he, fun j u hu => ?_⟩
        have hadd : (⟨b, off, none⟩ : Addr).add j = ⟨b, off + j, none⟩ := by unfold Addr.add; split <;> simp_all
        rw [hadd]; exact hc j u hu
    obtain ⟨ys, he, hcell⟩ := hys
    obtain ⟨v', w', h, hown', hgr, _⟩ := run_append_own (P := Try.prog) W B 22 ty 30 i0 _ 1 24 Try.underlying22 hi hz0 hz1 hz2 rfl (by decide) v p.length xs hown ad rs.length c ys (by rw [he.1]; simp) hcell (oneCell_elems he) (by simp [maxLen]; omega) (by omega) hB
    have hG : Grows B W w' := Grows.grown hB hgr (fun k hk => by
      obtain ⟨hb, cs, fr, hcs⟩ := owns_typed hown k hk
      exact ⟨hb, cs, _, fr, hcs, by decide⟩)
    exact ⟨v', w', h, ⟨xs ++ ys, by simpa using hown', (hel.kept hG).append (he.kept hG)⟩, hG⟩
theorem wpList_appL {ops : Array Oper} {rest : List Oper} {o : Oper} {a : Act} {Q : Exit → Act → World → Prop} (hgd : o.guard = none) (s x : Operand)
    (ho : o.op = .call { callee := .builtin .append, args := #[s, x], argTypes := #[22, 22] }) (v : Value) (p : List (List Va)) (A : Option Addr) (c L : Nat) (rs : List (List Va)) (W : World) (B : Nat) (hs : a.eval s = v) (hx : a.eval x = .slice A L c) (hL : rs.length = L) (hv : ListOwn W B v p) (hr : RowsIn W B A rs) (hA : A = none → c = 0) (hB : B ≤ W.heap.size) (hl : p.length + rs.length ≤ 65536)
    (h : ∀ v' w', ListOwn w' B v' (p ++ rs) → Grows B W w' → wpList Try.prog ops Q rest (a.put o.dst v') w') :
    wpList Try.prog ops Q (o :: rest) a W := by
  subst hL
  refine wpList_plain hgd fun K hK => ?_
  obtain ⟨v', w', hr', h2, h3⟩ := run_appL o.type v p A c rs W B hv hr hA hB hl
  unfold Oper.wp execOp
  simp only [ho, resolve, invoke, builtin, Sem.run_bind, Sem.run_pure, Result.andThen_ok, List.map_toArray, List.map_cons, List.map_nil, hs, hx, hr']
  exact hK _ _ (h v' w' h2 h3)

theorem size_rowT : ∀ w, (sizeOf 30).run Try.prog w = .ok 1 w := by
  intro w
  obtain ⟨i0, hi, hz0, hz1, hz2⟩ := info_parts info_rowT
  simp [sizeOf, typeInfo, hi, hz1]
/-- l[k:] of a list of rows. -/
theorem run_fromL (A : Option Addr) (L c l : Nat) (hl : l ≤ L) (W : World) :
    (Instr.slice 22 (.slice A L c) (some (.int .i64 (l : Int))) none none).run Try.prog W = .ok (.slice (adv A c l) (L - l) (c - l)) W := by
  have ht := Try.underlying22
  have ht' : Try.prog.underlying 22 = some (.slice (Try.prog.elem 22)) := by simp [Program.elem, ht]
  have he : Try.prog.elem 22 = 30 := by simp [Program.elem, ht]
  rw [run_slice_l W _ _ _ _ ht' .i64 _ (by omega) (by omega), he, size_rowT]
  simp [Result.andThen, sliced, adv]
theorem RowsAt.drop {w : World} {A : Option Addr} {rs : List (List Va)} (h : RowsAt w A rs) (c l : Nat) (hc : rs.length ≤ c) : RowsAt w (adv A c l) (rs.drop l) := by
  rcases h with h0 | ⟨b, off, rfl, hb, hcell⟩
  · left; simp [h0]
  · by_cases hl : c = l
    · left; rw [List.drop_eq_nil_of_le (by omega)]
    · right
      refine ⟨b, off + l, ?_, hb, fun i v hv => ?_⟩
      · simp [adv, hl, Addr.add]
      · rw [List.getElem?_drop] at hv
        rw [Nat.add_assoc]
        exact hcell _ _ hv
theorem RowsAt.take {w : World} {A : Option Addr} {rs : List (List Va)} (h : RowsAt w A rs) (l : Nat) : RowsAt w A (rs.take l) := by
  rcases h with h0 | ⟨b, off, rfl, hb, hcell⟩
  · left; simp [h0]
  · refine .inr ⟨b, off, rfl, hb, fun i v hv => ?_⟩
    by_cases hi : i < l
    · rw [List.getElem?_take_of_lt hi] at hv; exact hcell i v hv
    · rw [List.getElem?_take] at hv; simp [hi] at hv
theorem adv_none {A : Option Addr} {c l : Nat} (h : A = none → c = 0) (hl : l ≤ c) : adv A c l = none → c - l = 0 := by
  unfold adv
  split
  · intro _; omega
  · intro hh
    cases A with
    | none => have := h rfl; omega
    | some a => cases hh
theorem owns_emptyL (w : World) (n B : Nat) (hn : w.heap.size = n) (hb : B ≤ n) : ListOwn (w.alloc (.cells #[] 30)) B (.slice (some ⟨n, 0, none⟩) 0 0) [] := by
  subst hn
  exact ⟨[], ⟨rfl, .inr ⟨w.heap.size, 0, #[], rfl, hb, heap_alloc_new w _, Nat.le_refl _, Nat.zero_le _, rfl, rfl⟩⟩, Elems.nil _ _⟩
end Go.Proofs.Ytdjhoiamongdaaa
