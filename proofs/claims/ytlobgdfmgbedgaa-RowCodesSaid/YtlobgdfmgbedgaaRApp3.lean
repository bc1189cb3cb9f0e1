/-
  Appends of bytes to bytes of the call's own.
-/
import Derived.Test.YtlobgdfmgbedgaaRWCod
import Derived.Test.YtlobgdfmgbedgaaRApp2
namespace Go.Proofs.Ytlobgdfmgbedgaa
open Go.RowKit Go.Shelf

theorem below_grown1 {W w' : World} {base n : Nat} {v : Value} {e : TypeId} {xs : List Value} (hown : W.ownsRow base e 1 v n xs) (hbase : base ≤ W.heap.size) (hg : W.grownBy w' v.ownBlock) : Below base W w' :=
  (Below.refl base W).grown hg hbase (fun k hk => by
    rcases hown.2 with ⟨rfl, _⟩ | ⟨g, cap, cur, rfl, hb, _⟩
    · simp [Value.ownBlock] at hk
    · simp [Value.ownBlock] at hk; omega)
theorem one_bytes (l : List Int) : ∀ u ∈ l.map (Value.int .u8), u.oneCell' = true := by
  intro u hu
  obtain ⟨x, _, rfl⟩ := List.mem_map.1 hu
  rfl

theorem wpList_appB {ops : Array Oper} {rest : List Oper} {o : Oper} {a : Act} {Q : Exit → Act → World → Prop} (hgd : o.guard = none) (s x : Operand)
    (ho : o.op = .call { callee := .builtin .append, args := #[s, x], argTypes := #[23, 23] })
    (base : Nat) (v : Value) (l0 : List Int) (A : Option Addr) (c L : Nat) (l : List Int) (W : World) (hs : a.eval s = v) (hown : W.ownsRow base 5 1 v l0.length (l0.map (Value.int .u8))) (hx : a.eval x = .slice A L c) (hL : l.length = L) (hr : BytesAt W A l) (hA : A = none → c = 0) (hl : l0.length + l.length ≤ 65536) (hbase : base ≤ W.heap.size)
    (h : ∀ v' w', w'.ownsRow base 5 1 v' (l0 ++ l).length ((l0 ++ l).map (Value.int .u8)) → Below base W w' → wpList Try.prog ops Q rest (a.put o.dst v') w') :
    wpList Try.prog ops Q (o :: rest) a W := by
  subst hL
  obtain ⟨i0, hi, hz0, hz1, hz2⟩ := info_parts info_byte
  cases A with
  | none =>
    have hc := hA rfl
    subst hc
    have hr0 : l = [] := by
      rcases hr.1 with hr | ⟨b, off, hA', _⟩
      · simpa using hr
      · cases hA'
    subst hr0
    refine wpList_append_own_none hgd s x 23 ho base 5 i0 1 Try.underlying23 hi v _ _ hs hown hx (h v W ?_ (Below.refl _ _))
    simpa using hown
  | some ad =>
    refine wpList_append_own _ hgd s x 23 ho base 5 i0 _ 1 1 Try.underlying23 hi hz0 hz1 hz2 rfl (by decide) v _ _ hs hown ad l.length c (l.map (Value.int .u8)) hx (by simp) (news_of_bytes hr) (one_bytes l) (by simp [maxLen]; omega) (by omega) hbase ?_
    intro v' w' ho' hg _
    refine h v' w' ?_ (below_grown1 hown hbase hg)
    rw [List.map_append, List.length_append]
    exact ho'

theorem owns_emptyB (w : World) (n base : Nat) (hn : w.heap.size = n) (hb : base ≤ n) : (w.alloc (.cells #[] 5)).ownsRow base 5 1 (.slice (some ⟨n, 0, none⟩) 0 0) 0 [] := by
  subst hn
  exact ⟨rfl, .inr ⟨w.heap.size, 0, #[], rfl, hb, heap_alloc_new w _, Nat.le_refl _, Nat.zero_le _, rfl, rfl⟩⟩

end Go.Proofs.Ytlobgdfmgbedgaa
