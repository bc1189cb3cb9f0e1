/-
  Bytes of one's own as bytes that can be read; an append to a full row of bytes.
-/
import Derived.Test.YtdjhoiamongdaaaRGet
import Derived.Deep.RegionLawGrows
namespace Go.Proofs.Ytdjhoiamongdaaa
open Go.RowKit Go.Shelf

theorem bytes_of_owns {w : World} {base : Nat} {v : Value} {n : Nat} {l : List Int} (h : w.ownsRow base 5 1 v n (l.map (Value.int .u8))) (hr : ∀ x ∈ l, 0 ≤ x ∧ x < 256) :
    ∃ A c, v = .slice A n c ∧ n ≤ c ∧ BytesAt w A l ∧ (A = none → c = 0) := by
  have hl : l.length = n := by have := h.1; simpa using this
  rcases h.2 with ⟨hv, hn⟩ | ⟨g, cap, cur, hv, hb, hg, h1, _, h2, ht⟩
  · subst hn
    obtain rfl := List.eq_nil_of_length_eq_zero hl
    exact ⟨none, 0, hv, Nat.le_refl _, ⟨.inl rfl, by simp⟩, fun _ => rfl⟩
  · refine ⟨some ⟨g, 0, none⟩, cap, hv, h1, ⟨.inr ⟨g, 0, rfl, ?_, fun i u hu => ?_⟩, hr⟩, fun hh => by cases hh⟩
    · rcases Nat.lt_or_ge g w.heap.size with hl | hg'
      · exact hl
      · rw [Array.getElem?_eq_none hg'] at hg; cases hg
    · have hil : i < n := by
        have := (List.getElem?_eq_some_iff.1 hu).1
        simp at this; omega
      rw [← ht, List.getElem?_take_of_lt (by omega), Array.getElem?_toList] at hu
      rw [Nat.zero_add]
      simp [World.cell?, hg, hu]
theorem Buf.bytes {w : World} {base g cap N : Nat} {l : List Int} (h : Buf w base g cap N l) (hr : ∀ x ∈ l, 0 ≤ x ∧ x < 256) : BytesAt w (some ⟨g, 0, none⟩) l := by
  obtain ⟨A, c, hv, _, hb, _⟩ := bytes_of_owns h.own hr
  cases hv
  exact hb
theorem Buf.le {w : World} {base g cap N : Nat} {l : List Int} (h : Buf w base g cap N l) : N ≤ cap := by
  rcases h.own.2 with ⟨hv, hn⟩ | ⟨g', cap', cur, hv, hb, hg, h1, _, h2, ht⟩
  · cases hv
  · cases hv; exact h1
theorem news_of_bytes {w : World} {ad : Addr} {l : List Int} (h : BytesAt w (some ad) l) : ∀ j u, (l.map (Value.int .u8))[j]? = some u → w.cell? (ad.add j) = some u := by
  intro j u hu
  rcases h.1 with h | ⟨b, off, hA, _, hc⟩
  · simp at h; subst h; simp at hu
  · cases hA
    have := hc j u hu
    rwa [show (⟨b, off, none⟩ : Addr).add j = ⟨b, off + j, none⟩ by unfold Addr.add; split <;> simp_all]

/-- A byte more than a row of bytes holds: a new row. -/
theorem wpList_pushFull {ops : Array Oper} {rest : List Oper} {o : Oper} {a : Act} {Q : Exit → Act → World → Prop} (hgd : o.guard = none) (s x : Operand)
    (ho : o.op = .call { callee := .builtin .append, args := #[s, x], argTypes := #[25, 25] })
    (g N : Nat) (l : List Int) (b : Int) (W : World) (hs : a.eval s = .slice (some ⟨g, 0, none⟩) N N) (hbuf : BytesAt W (some ⟨g, 0, none⟩) l) (hN : l.length = N) (nb : Nat) (hx : a.eval x = .slice (some ⟨nb, 0, none⟩) 1 1) (hnb : W.heap.size = nb) (hl : N ≤ 65536) (h0 : 0 ≤ b) (h1 : b < 256)
    (h : ∀ A' c' w', BytesAt w' A' (l ++ [b]) → N + 1 ≤ c' → Below W.heap.size W w' → wpList Try.prog ops Q rest (a.put o.dst (.slice A' (N + 1) c')) w') :
    wpList Try.prog ops Q (o :: rest) a (W.alloc (.cells #[.int .u8 b] 5)) := by
  subst hnb
  obtain ⟨i0, hi, hz0, hz1, hz2⟩ := info_parts info_byte
  refine wpList_plain hgd fun K hK => ?_
  obtain ⟨v', w', hrun, r1, r2⟩ := run_append_arg_grows (P := Try.prog) (W.alloc (.cells #[.int .u8 b] 5)) 25 o.type 5 i0 _ 1 1 Try.underlying25 hi hz0 hz1 hz2 rfl (by decide) ⟨g, 0, none⟩ N N (l.map (Value.int .u8)) (by simp [hN]) (news_of_bytes (hbuf.kept (ba W _))) ⟨W.heap.size, 0, none⟩ 1 1 [.int .u8 b] rfl (World.news_of_block (heap_alloc_new W _)) (by omega) (by simp [maxLen]; omega) (by omega)
  rw [show l.map (Value.int .u8) ++ [Value.int .u8 b] = (l ++ [b]).map (Value.int .u8) by simp] at r1
  obtain ⟨A', c', rfl, hc', hb', _⟩ := bytes_of_owns r1 (fun y hy => by
    rcases List.mem_append.1 hy with hy | hy
    · exact hbuf.2 y hy
    · simp at hy; subst hy; exact ⟨h0, h1⟩)
  unfold Oper.wp
  simp [execOp, ho, resolve, invoke, builtin, hs, hx, hrun, Result.andThen]
  exact hK _ _ (h A' c' w' hb' hc' (bt (ba W _) ((Below.refl _ _).grown r2 (Nat.le_refl _) (fun k hk => by cases hk))))

end Go.Proofs.Ytdjhoiamongdaaa
