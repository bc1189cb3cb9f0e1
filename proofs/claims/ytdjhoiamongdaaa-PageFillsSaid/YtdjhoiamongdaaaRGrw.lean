/-
  Bytes of one's own that grow: append of a byte, and of a text.
-/
import Derived.Test.YtdjhoiamongdaaaRApp
namespace Go.Proofs.Ytdjhoiamongdaaa
open Go.RowKit Go.Shelf

theorem wpList_grow1 {ops : Array Oper} {rest : List Oper} {o : Oper} {a : Act} {Q : Exit → Act → World → Prop} (hgd : o.guard = none) (s x : Operand)
    (ho : o.op = .call { callee := .builtin .append, args := #[s, x], argTypes := #[25, 25] })
    (base g cap N : Nat) (l : List Int) (b : Int) (W : World) (hs : a.eval s = .slice (some ⟨g, 0, none⟩) N cap) (hbuf : Buf W base g cap N l) (nb : Nat) (hx : a.eval x = .slice (some ⟨nb, 0, none⟩) 1 1) (hnb : W.heap.size = nb) (hroom : N ≤ 65536)
    (h : ∀ g' cap' w', Buf w' base g' cap' (N + 1) (l ++ [b]) → (g' = g ∨ W.heap.size < g') → Elsewhere g W w' → Below base W w' → wpList Try.prog ops Q rest (a.put o.dst (.slice (some ⟨g', 0, none⟩) (N + 1) cap')) w') :
    wpList Try.prog ops Q (o :: rest) a (W.alloc (.cells #[.int .u8 b] 5)) := by
  subst hnb
  obtain ⟨i0, hi, hz0, hz1, hz2⟩ := info_parts info_byte
  have hlt := hbuf.lt
  refine wpList_append_lies _ hgd s x 25 ho base 5 i0 _ 1 1 Try.underlying25 hi hz0 hz1 hz2 rfl (by decide) _ N (l.map (Value.int .u8)) hs (hbuf.own.alloc _) ⟨W.heap.size, 0, none⟩ 1 1 [.int .u8 b] hx rfl (World.news_of_block (heap_alloc_new W _)) (by intro u hu; simp at hu; subst hu; rfl) (by omega) (by simp [maxLen]; omega) (by omega) (by simp; omega) _ (World.size_alloc _ _) ?_
  intro g' cap' w' hown hg hat _
  refine h g' cap' w' ⟨by simp [hbuf.len], by simpa using hown⟩ ?_ ?_ ?_
  · rcases hat with hat | hat
    · simp [Value.ownBlock] at hat; exact .inl hat.symm
    · right; omega
  · intro p v hp hne
    exact elsewhere_of hg p v ((World.cell?_alloc_lt W _ p (lt_cell hp)).trans hp) hne
  · exact ((Below.refl base W).alloc (Nat.le_of_lt (Nat.lt_of_le_of_lt hlt.1 hlt.2)) _).grown hg (by simp; omega) (fun k hk => by simp [Value.ownBlock] at hk; omega)

theorem wpList_growS {ops : Array Oper} {rest : List Oper} {o : Oper} {a : Act} {Q : Exit → Act → World → Prop} (hgd : o.guard = none) (s x : Operand)
    (ho : o.op = .call { callee := .builtin .append, args := #[s, x], argTypes := #[25, 9] })
    (base g cap N : Nat) (l : List Int) (t : ByteArray) (W : World) (hs : a.eval s = .slice (some ⟨g, 0, none⟩) N cap) (hbuf : Buf W base g cap N l) (hx : a.eval x = .string t) (h0 : 0 < N) (hroom : N + t.size ≤ 65536)
    (h : ∀ g' cap' w', Buf w' base g' cap' (N + t.size) (l ++ strB t) → Below base W w' → wpList Try.prog ops Q rest (a.put o.dst (.slice (some ⟨g', 0, none⟩) (N + t.size) cap')) w') :
    wpList Try.prog ops Q (o :: rest) a W := by
  obtain ⟨i0, hi, hz0, hz1, hz2⟩ := info_parts info_byte
  have hlt := hbuf.lt
  refine Lib.wpList_append_own_string _ hgd s x 25 9 ho base 5 i0 Try.underlying25 Try.underlying9 hi hz0 hz1 hz2 _ N (l.map (Value.int .u8)) hs hbuf.own t hx (by simp [maxLen]; omega) (by omega) (by omega) ?_
  intro v' w' hown hg _
  have e : l.map (Value.int .u8) ++ Lib.strCells t = (l ++ strB t).map (Value.int .u8) := by
    rw [List.map_append, show (strB t).map (Value.int .u8) = Lib.strCells t by unfold strB Lib.strCells; rw [List.map_map]; rfl]
  rw [e] at hown
  rcases hown.2 with ⟨_, hn⟩ | ⟨g', cap', cur, hv, hrest⟩
  · omega
  · subst hv
    exact h g' cap' w' ⟨by simp [hbuf.len, strB], hown⟩ ((Below.refl base W).grown hg (by omega) (fun k hk => by simp [Value.ownBlock] at hk; omega))

end Go.Proofs.Ytdjhoiamongdaaa
