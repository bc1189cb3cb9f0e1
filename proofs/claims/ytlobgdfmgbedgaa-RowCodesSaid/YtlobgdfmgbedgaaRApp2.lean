/-
  Appends to rows of the call's own; operations under a guard.
-/
import Derived.Test.YtlobgdfmgbedgaaRSort
namespace Go.Proofs.Ytlobgdfmgbedgaa
open Go.RowKit Go.Shelf

/-- An operation under a guard that is met is the operation. -/
theorem wpList_unguard {P : Program} {ops : Array Oper} {rest : List Oper} {o : Oper} {a : Act} {w : World} {Q : Exit → Act → World → Prop} (hw : Region.wanted o (yielded ops a.tmps) = true)
    (h : wpList P ops Q ({ o with guard := none } :: rest) a w) : wpList P ops Q (o :: rest) a w := by
  unfold wpList at h ⊢
  rw [if_pos hw]
  rw [if_pos (by simp [Region.wanted])] at h
  exact h

theorem below_grown {W w' : World} {base n : Nat} {v : Value} {e : TypeId} {xs : List Value} (hown : W.ownsRow base e 3 v n xs) (hbase : base ≤ W.heap.size) (hg : W.grownBy w' v.ownBlock) : Below base W w' :=
  (Below.refl base W).grown hg hbase (fun k hk => by
    rcases hown.2 with ⟨rfl, _⟩ | ⟨g, cap, cur, rfl, hb, _⟩
    · simp [Value.ownBlock] at hk
    · simp [Value.ownBlock] at hk; omega)

theorem wpList_appRow {ops : Array Oper} {rest : List Oper} {o : Oper} {a : Act} {Q : Exit → Act → World → Prop} (hgd : o.guard = none) (s x : Operand)
    (ho : o.op = .call { callee := .builtin .append, args := #[s, x], argTypes := #[22, 22] })
    (base : Nat) (v : Value) (r0 : List Va) (A : Option Addr) (c : Nat) (r : List Va) (W : World) (hs : a.eval s = v) (hown : W.ownsRow base 83 3 v r0.length (rowList r0)) (hx : a.eval x = .slice A r.length c) (hr : RowAt W A r) (hA : A = none → c = 0) (hl : r0.length + r.length ≤ 65536) (hbase : base ≤ W.heap.size)
    (h : ∀ v' w', w'.ownsRow base 83 3 v' (r0 ++ r).length (rowList (r0 ++ r)) → Below base W w' → wpList Try.prog ops Q rest (a.put o.dst v') w') :
    wpList Try.prog ops Q (o :: rest) a W := by
  obtain ⟨i0, hi, hz0, hz1, hz2⟩ := info_parts info_val
  cases A with
  | none =>
    have hc := hA rfl
    subst hc
    have hr0 : r = [] := by
      rcases hr with hr | ⟨b, off, hA', _⟩
      · exact hr
      · cases hA'
    subst hr0
    refine wpList_append_own_none hgd s x 22 ho base 83 i0 3 Try.underlying22 hi v _ _ hs hown hx (h v W ?_ (Below.refl _ _))
    simpa using hown
  | some ad =>
    refine wpList_append_own _ hgd s x 22 ho base 83 i0 _ 3 32 Try.underlying22 hi hz0 hz1 hz2 rfl (by decide) v _ _ hs hown ad r.length c (rowList r) hx (rowList_length _) (news_of_row hr) (oneCell_row _) (by simp [maxLen]; omega) (by omega) hbase ?_
    intro v' w' ho' hg _
    refine h v' w' ?_ (below_grown hown hbase hg)
    rw [rowList_append, List.length_append]
    exact ho'

theorem owns_empty (w : World) (n base : Nat) (hn : w.heap.size = n) (hb : base ≤ n) : (w.alloc (.cells #[] 83)).ownsRow base 83 3 (.slice (some ⟨n, 0, none⟩) 0 0) 0 [] := by
  subst hn
  exact ⟨rfl, .inr ⟨w.heap.size, 0, #[], rfl, hb, heap_alloc_new w _, Nat.le_refl _, Nat.zero_le _, rfl, rfl⟩⟩

end Go.Proofs.Ytlobgdfmgbedgaa
