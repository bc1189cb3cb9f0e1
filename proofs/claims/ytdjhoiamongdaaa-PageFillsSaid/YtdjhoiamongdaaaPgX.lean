/-
  A list of rows copied and lengthened in one statement.
-/
import Derived.Test.YtdjhoiamongdaaaPgS
import Derived.Test.YtdjhoiamongdaaaPgN
import Derived.Test.YtdjhoiamongdaaaPgJ
namespace Go.Proofs.Ytdjhoiamongdaaa
open Go.RowKit Go.Shelf

/-- append(empty, rows...), the block of the empty list known. -/
theorem run_appE (ty : TypeId) (n : Nat) (A : Option Addr) (c L : Nat) (rs : List (List Va)) (W : World) (B : Nat) (hE : W.heap[n]? = some (.cells #[] 30 (0, 0))) (hn : B ≤ n) (hL : rs.length = L) (hr : RowsIn W B A rs) (hA : A = none → c = 0) (hB : B ≤ W.heap.size) (hl : L ≤ 65536) :
    ∃ v' w', (Builtin.append_ #[22, 22] ty #[.slice (some ⟨n, 0, none⟩) 0 0, .slice A L c]).run Try.prog W = .ok v' w' ∧ ListOwn w' B v' rs ∧ Grows B W w' ∧ W.grownBy w' (some n) := by
  subst hL
  obtain ⟨i0, hi, hz0, hz1, hz2⟩ := info_parts info_rowT
  have hown : W.ownsRow B 30 1 (.slice (some ⟨n, 0, none⟩) 0 0) 0 [] := ⟨rfl, .inr ⟨n, 0, #[], rfl, hn, hE, Nat.le_refl _, Nat.zero_le _, rfl, rfl⟩⟩
  cases A with
  | none =>
    have hc := hA rfl
    subst hc
    have hrs : rs = [] := by
      rcases hr with h | ⟨_, _, _, h, _⟩
      · exact h
      · cases h
    subst hrs
    have h := run_append_owned_none (P := Try.prog) (w := W) B 22 ty 30 i0 1 Try.underlying22 hi (.slice (some ⟨n, 0, none⟩) 0 0) 0 [] hown
    exact ⟨_, W, h, ⟨[], hown, Elems.nil _ _⟩, Grows.refl _ _, ⟨rfl, rfl, rfl, Nat.le_refl _, fun _ _ _ => rfl⟩⟩
  | some ad =>
    have hys : ∃ ys, Elems W B ys rs ∧ ∀ j u, ys[j]? = some u → W.cell? (ad.add j) = some u := by
      rcases hr with h | ⟨b, off, ys, h, hlt, hc, he⟩
      · subst h; exact ⟨[], Elems.nil _ _, fun j u h => by simp at h⟩
      · cases h
        refine ⟨ys, he, fun j u hu => ?_⟩
        have hadd : (⟨b, off, none⟩ : Addr).add j = ⟨b, off + j, none⟩ := by unfold Addr.add; split <;> simp_all
        rw [hadd]; exact hc j u hu
    obtain ⟨ys, he, hcell⟩ := hys
    obtain ⟨v', w', h, hown', hgr, _⟩ := run_append_own (P := Try.prog) W B 22 ty 30 i0 _ 1 24 Try.underlying22 hi hz0 hz1 hz2 rfl (by decide) (.slice (some ⟨n, 0, none⟩) 0 0) 0 [] hown ad rs.length c ys (by rw [he.1]; simp) hcell (oneCell_elems he) (by simp [maxLen]; omega) (by omega) hB
    have hgr' : W.grownBy w' (some n) := hgr
    have hG : Grows B W w' := Grows.grown hB hgr (fun k hk => by
      obtain ⟨hb, cs, fr, hcs⟩ := owns_typed hown k hk
      exact ⟨hb, cs, _, fr, hcs, by decide⟩)
    exact ⟨v', w', h, ⟨ys, by simpa using hown', he.kept hG⟩, hG, hgr'⟩
theorem step_appE {ops : Array Oper} {o : Oper} {a : Act} {K : Act → World → Prop} {Q : Exit → Act → World → Prop} {E : Prop} (hgd : o.guard = none) (s x : Operand)
    (ho : o.op = .call { callee := .builtin .append, args := #[s, x], argTypes := #[22, 22] }) (n : Nat) (A : Option Addr) (c L : Nat) (rs : List (List Va)) (W : World) (B : Nat) (hs : a.eval s = .slice (some ⟨n, 0, none⟩) 0 0) (hx : a.eval x = .slice A L c) (hE : W.heap[n]? = some (.cells #[] 30 (0, 0))) (hn : B ≤ n) (hL : rs.length = L) (hr : RowsIn W B A rs) (hA : A = none → c = 0) (hB : B ≤ W.heap.size) (hl : L ≤ 65536)
    (h : ∀ v' w', ListOwn w' B v' rs → Grows B W w' → W.grownBy w' (some n) → K (a.put o.dst v') w') :
    if Region.wanted o (yielded ops a.tmps) = true then Oper.wp Try.prog o a W K Q else E := by
  have hw : Region.wanted o (yielded ops a.tmps) = true := by simp [Region.wanted, hgd]
  rw [if_pos hw]
  obtain ⟨v', w', hr', h2, h3, h4⟩ := run_appE o.type n A c L rs W B hE hn hL hr hA hB hl
  unfold Oper.wp execOp
  simp only [ho, resolve, invoke, builtin, Sem.run_bind, Sem.run_pure, Result.andThen_ok, List.map_toArray, List.map_cons, List.map_nil, hs, hx, hr']
  exact h v' w' h2 h3 h4
theorem RowsIn.heap {w w' : World} {B : Nat} {A : Option Addr} {rs : List (List Va)} (h : RowsIn w B A rs) (hh : w'.heap = w.heap) : RowsIn w' B A rs := by
  have e1 : ∀ p, w'.cell? p = w.cell? p := fun p => World.cell?_of_block (by rw [hh])
  rcases h with h | ⟨b, off, xs, hA, hlt, hc, he⟩
  · exact .inl h
  · refine .inr ⟨b, off, xs, hA, by rw [hh]; exact hlt, fun i v hv => (e1 _).trans (hc i v hv), he.1, fun k r hr => ?_⟩
    obtain ⟨A', c, h1, ⟨h2, h3⟩, h4⟩ := he.2 k r hr
    refine ⟨A', c, h1, ⟨?_, fun hne b off hA => by rw [hh]; exact h3 hne b off hA⟩, h4⟩
    rcases h2 with h2 | ⟨b', off', e, hl', hc'⟩
    · exact .inl h2
    · exact .inr ⟨b', off', e, by rw [hh]; exact hl', fun i v hv => by
        obtain ⟨c0, c1, c2⟩ := hc' i v hv
        exact ⟨(e1 _).trans c0, (e1 _).trans c1, (e1 _).trans c2⟩⟩
theorem two_new (w : World) (o1 o2 : Obj) : ((w.alloc o1).alloc o2).heap[w.heap.size]? = some o1 ∧ ((w.alloc o1).alloc o2).heap[w.heap.size + 1]? = some o2 := by
  constructor
  · rw [(ba (w.alloc o1) o2).block w.heap.size (by simp)]
    exact heap_alloc_new w o1
  · have := heap_alloc_new (w.alloc o1) o2
    rwa [World.size_alloc] at this
end Go.Proofs.Ytdjhoiamongdaaa
