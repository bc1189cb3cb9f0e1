/-
  A list of rows among a law's arguments, opened.
Contracts of page.rowBytes and of the laws' own 'large' and 'size'.
Bytes of one's own as bytes that can be read; an append to a full row of bytes.
Bytes of one's own that grow: append of a byte, and of a text.
Contract of the document's own Put.
Contracts of the document's own May.
Package catalog: the document's Table.
Package catalog: the document's Show.
Contracts of package value's makers of bools, and of the document's own.
-/
import Derived.Test.YtmjckdgomlppeaaGreatDoorZ8
import Derived.Deep.RegionLawGrows
section
namespace Go.Proofs.YtmjckdgomlppeaaGreatDoor
open Go.ChangeShapes Go.WideShapes Go.ChangeAt Go.RowKit Go.Joins Go.Deep

section
variable {H : Type} {enc : TypeId × Value → H}

end
end Go.Proofs.YtmjckdgomlppeaaGreatDoor
end
section
namespace Go.Proofs.YtmjckdgomlppeaaGreatDoor
open Go.RowKit Go.Shelf

/-- The ends of page.rowBytes. -/
def RBEnd (w : World) (r : List Va) (e : Ending) (w' : World) : Prop :=
  if okR r = true then
    if 253 < 1 + sumV r then e = .returned (.tuple #[.slice none 0 0, .int .i64 3]) ∧ Below w.heap.size w w' else PutREnd w r e w'
  else e = .returned (.tuple #[.slice none 0 0, .int .i64 20]) ∧ Below w.heap.size w w'

set_option maxHeartbeats 400000 in
theorem rowBytes_any (A : Option Addr) (c : Nat) (r : List Va) (w : World) (h : RowAt w A r) (hf : Fine r) (hl : r.length ≤ 9223372036854775807) :
    Calls Tryz.prog 72 #[.slice A r.length c] w (RBEnd w r) := by
  unfold RBEnd
  by_cases hok : okR r = true
  · have HI := Lib.hid (put_ok A c r w h hf hok)
    have hs : sumV r ≤ 65536 := by
      obtain ⟨h32, hall⟩ := okR_parts hok
      have := sumV_le r hall
      omega
    clear h
    simp only [if_pos hok]
    by_cases hw : 253 < 1 + sumV r
    · simp only [if_pos hw]
      go_enter Tryz.func72, Tryz.ntmps72
      go_wp2_with fail
      refine HI.out.mono ?_
      rintro e w1 ⟨g, rfl, _, hb⟩
      go_wp2_with fail
      go_ret2
      exact ⟨rfl, hb⟩
    · simp only [if_neg hw]
      go_enter Tryz.func72, Tryz.ntmps72
      go_wp2_with fail
      refine HI.out.mono ?_
      rintro e w1 ⟨g, rfl, hB, hb⟩
      have HB := Lib.hid hB
      clear hB
      go_wp2_with fail
      go_ret2
      exact ⟨g, rfl, HB.out, hb⟩
  · have HI := Lib.hid (put_no A c r w h hf hl (by simpa using hok))
    clear h
    simp only [if_neg hok]
    go_enter Tryz.func72, Tryz.ntmps72
    go_wp2_with fail
    refine HI.out.mono ?_
    rintro e w1 ⟨rfl, hb⟩
    go_wp2_with fail
    go_ret2
    exact ⟨rfl, hb⟩

def wideP (r : List Va) : Bool := decide (100 < r.length)
def largeP (rs : List (List Va)) : Bool := decide (600 < rs.length) || rs.any wideP
theorem anyp_take_succ (p : List Va → Bool) (r : List (List Va)) (i : Nat) (hi : i < r.length) : (r.take (i + 1)).any p = ((r.take i).any p || p r[i]) := by
  rw [List.take_succ_eq_append_getElem hi, List.any_append]
  simp

theorem largeP_len {rs : List (List Va)} (h : largeP rs = false) : rs.length ≤ 600 ∧ ∀ r ∈ rs, r.length ≤ 100 := by
  simp [largeP, wideP] at h
  exact ⟨h.1, fun v hv => h.2 v hv⟩

end Go.Proofs.YtmjckdgomlppeaaGreatDoor
end
section
namespace Go.Proofs.YtmjckdgomlppeaaGreatDoor
open Go.RowKit Go.Shelf

theorem bytes_of_owns {w : World} {base : Nat} {v : Value} {n : Nat} {l : List Int} (h : w.ownsRow base 5 1 v n (l.map (Value.int .u8))) (hr : ∀ x ∈ l, 0 ≤ x ∧ x < 256) :
    ∃ A c, v = .slice A n c ∧ n ≤ c ∧ BytesAt w A l ∧ (A = none → c = 0) := by
  have hl : l.length = n := by have := h.1; simpa using this
  rcases h.2 with ⟨hv, hn⟩ | ⟨g, cap, cur, hv, hb, hg, h1, _, h2, ht⟩
  · subst hn
    obtain rfl := List.eq_nil_of_length_eq_zero hl
    exact ⟨none, 0, hv, Nat.le_refl _, ⟨.inl rfl, by simp⟩, fun _ => rfl⟩
  · refine ⟨some ⟨g, 0, none⟩, cap, hv, h1, ⟨.inr ⟨g, 0, rfl, ?_, fun i u hu => ?_⟩, hr⟩, fun hh => by cases hh⟩
    · rcases Nat.lt_or_ge g w.heap.size with hl | hg'
      · exact hl
      · rw [Array.getElem?_eq_none hg'] at hg; cases hg
    · have hil : i < n := by
        have := (List.getElem?_eq_some_iff.1 hu).1
        simp at this; omega
      rw [← ht, List.getElem?_take_of_lt (by omega), Array.getElem?_toList] at hu
      rw [Nat.zero_add]
      simp [World.cell?, hg, hu]
theorem Buf.bytes {w : World} {base g cap N : Nat} {l : List Int} (h : Buf w base g cap N l) (hr : ∀ x ∈ l, 0 ≤ x ∧ x < 256) : BytesAt w (some ⟨g, 0, none⟩) l := by
  obtain ⟨A, c, hv, _, hb, _⟩ := bytes_of_owns h.own hr
  cases hv
  exact hb
theorem Buf.le {w : World} {base g cap N : Nat} {l : List Int} (h : Buf w base g cap N l) : N ≤ cap := by
  rcases h.own.2 with ⟨hv, hn⟩ | ⟨g', cap', cur, hv, hb, hg, h1, _, h2, ht⟩
  · cases hv
  · cases hv; exact h1
theorem news_of_bytes {w : World} {ad : Addr} {l : List Int} (h : BytesAt w (some ad) l) : ∀ j u, (l.map (Value.int .u8))[j]? = some u → w.cell? (ad.add j) = some u := by
  intro j u hu
  rcases h.1 with h | ⟨b, off, hA, _, hc⟩
  · simp at h; subst h; simp at hu
  · cases hA
    have := hc j u hu
    rwa [show (⟨b, off, none⟩ : Addr).add j = ⟨b, off + j, none⟩ by unfold Addr.add; split <;> simp_all]

/-- A byte more than a row of bytes holds: a new row. -/
theorem wpList_pushFull {ops : Array Oper} {rest : List Oper} {o : Oper} {a : Act} {Q : Exit → Act → World → Prop} (hgd : o.guard = none) (s x : Operand)
    (ho : o.op = .call { callee := .builtin .append, args := #[s, x], argTypes := #[49, 49] })
    (g N : Nat) (l : List Int) (b : Int) (W : World) (hs : a.eval s = .slice (some ⟨g, 0, none⟩) N N) (hbuf : BytesAt W (some ⟨g, 0, none⟩) l) (hN : l.length = N) (nb : Nat) (hx : a.eval x = .slice (some ⟨nb, 0, none⟩) 1 1) (hnb : W.heap.size = nb) (hl : N ≤ 65536) (h0 : 0 ≤ b) (h1 : b < 256)
    (h : ∀ A' c' w', BytesAt w' A' (l ++ [b]) → N + 1 ≤ c' → Below W.heap.size W w' → wpList Tryz.prog ops Q rest (a.put o.dst (.slice A' (N + 1) c')) w') :
    wpList Tryz.prog ops Q (o :: rest) a (W.alloc (.cells #[.int .u8 b] 5)) := by
  subst hnb
  obtain ⟨i0, hi, hz0, hz1, hz2⟩ := info_parts info_byte
  refine wpList_plain hgd fun K hK => ?_
  obtain ⟨v', w', hrun, r1, r2⟩ := run_append_arg_grows (P := Tryz.prog) (W.alloc (.cells #[.int .u8 b] 5)) 49 o.type 5 i0 _ 1 1 Tryz.underlying49 hi hz0 hz1 hz2 rfl (by decide) ⟨g, 0, none⟩ N N (l.map (Value.int .u8)) (by simp [hN]) (news_of_bytes (hbuf.kept (ba W _))) ⟨W.heap.size, 0, none⟩ 1 1 [.int .u8 b] rfl (World.news_of_block (heap_alloc_new W _)) (by omega) (by simp [maxLen]; omega) (by omega)
  rw [show l.map (Value.int .u8) ++ [Value.int .u8 b] = (l ++ [b]).map (Value.int .u8) by simp] at r1
  obtain ⟨A', c', rfl, hc', hb', _⟩ := bytes_of_owns r1 (fun y hy => by
    rcases List.mem_append.1 hy with hy | hy
    · exact hbuf.2 y hy
    · simp at hy; subst hy; exact ⟨h0, h1⟩)
  unfold Oper.wp
  simp [execOp, ho, resolve, invoke, builtin, hs, hx, hrun, Result.andThen]
  exact hK _ _ (h A' c' w' hb' hc' (bt (ba W _) ((Below.refl _ _).grown r2 (Nat.le_refl _) (fun k hk => by cases hk))))

end Go.Proofs.YtmjckdgomlppeaaGreatDoor
end
section
namespace Go.Proofs.YtmjckdgomlppeaaGreatDoor
open Go.RowKit Go.Shelf

theorem wpList_grow1 {ops : Array Oper} {rest : List Oper} {o : Oper} {a : Act} {Q : Exit → Act → World → Prop} (hgd : o.guard = none) (s x : Operand)
    (ho : o.op = .call { callee := .builtin .append, args := #[s, x], argTypes := #[49, 49] })
    (base g cap N : Nat) (l : List Int) (b : Int) (W : World) (hs : a.eval s = .slice (some ⟨g, 0, none⟩) N cap) (hbuf : Buf W base g cap N l) (nb : Nat) (hx : a.eval x = .slice (some ⟨nb, 0, none⟩) 1 1) (hnb : W.heap.size = nb) (hroom : N ≤ 65536)
    (h : ∀ g' cap' w', Buf w' base g' cap' (N + 1) (l ++ [b]) → (g' = g ∨ W.heap.size < g') → Elsewhere g W w' → Below base W w' → wpList Tryz.prog ops Q rest (a.put o.dst (.slice (some ⟨g', 0, none⟩) (N + 1) cap')) w') :
    wpList Tryz.prog ops Q (o :: rest) a (W.alloc (.cells #[.int .u8 b] 5)) := by
  subst hnb
  obtain ⟨i0, hi, hz0, hz1, hz2⟩ := info_parts info_byte
  have hlt := hbuf.lt
  refine wpList_append_lies _ hgd s x 49 ho base 5 i0 _ 1 1 Tryz.underlying49 hi hz0 hz1 hz2 rfl (by decide) _ N (l.map (Value.int .u8)) hs (hbuf.own.alloc _) ⟨W.heap.size, 0, none⟩ 1 1 [.int .u8 b] hx rfl (World.news_of_block (heap_alloc_new W _)) (by intro u hu; simp at hu; subst hu; rfl) (by omega) (by simp [maxLen]; omega) (by omega) (by simp; omega) _ (World.size_alloc _ _) ?_
  intro g' cap' w' hown hg hat _
  refine h g' cap' w' ⟨by simp [hbuf.len], by simpa using hown⟩ ?_ ?_ ?_
  · rcases hat with hat | hat
    · simp [Value.ownBlock] at hat; exact .inl hat.symm
    · right; omega
  · intro p v hp hne
    exact elsewhere_of hg p v ((World.cell?_alloc_lt W _ p (lt_cell hp)).trans hp) hne
  · exact ((Below.refl base W).alloc (Nat.le_of_lt (Nat.lt_of_le_of_lt hlt.1 hlt.2)) _).grown hg (by simp; omega) (fun k hk => by simp [Value.ownBlock] at hk; omega)

theorem wpList_growS {ops : Array Oper} {rest : List Oper} {o : Oper} {a : Act} {Q : Exit → Act → World → Prop} (hgd : o.guard = none) (s x : Operand)
    (ho : o.op = .call { callee := .builtin .append, args := #[s, x], argTypes := #[49, 9] })
    (base g cap N : Nat) (l : List Int) (t : ByteArray) (W : World) (hs : a.eval s = .slice (some ⟨g, 0, none⟩) N cap) (hbuf : Buf W base g cap N l) (hx : a.eval x = .string t) (h0 : 0 < N) (hroom : N + t.size ≤ 65536)
    (h : ∀ g' cap' w', Buf w' base g' cap' (N + t.size) (l ++ strB t) → Below base W w' → wpList Tryz.prog ops Q rest (a.put o.dst (.slice (some ⟨g', 0, none⟩) (N + t.size) cap')) w') :
    wpList Tryz.prog ops Q (o :: rest) a W := by
  obtain ⟨i0, hi, hz0, hz1, hz2⟩ := info_parts info_byte
  have hlt := hbuf.lt
  refine Lib.wpList_append_own_string _ hgd s x 49 9 ho base 5 i0 Tryz.underlying49 Tryz.underlying9 hi hz0 hz1 hz2 _ N (l.map (Value.int .u8)) hs hbuf.own t hx (by simp [maxLen]; omega) (by omega) (by omega) ?_
  intro v' w' hown hg _
  have e : l.map (Value.int .u8) ++ Lib.strCells t = (l ++ strB t).map (Value.int .u8) := by
    rw [List.map_append, show (strB t).map (Value.int .u8) = Lib.strCells t by unfold strB Lib.strCells; rw [List.map_map]; rfl]
  rw [e] at hown
  rcases hown.2 with ⟨_, hn⟩ | ⟨g', cap', cur, hv, hrest⟩
  · omega
  · subst hv
    exact h g' cap' w' ⟨by simp [hbuf.len, strB], hown⟩ ((Below.refl base W).grown hg (by omega) (fun k hk => by simp [Value.ownBlock] at hk; omega))

end Go.Proofs.YtmjckdgomlppeaaGreatDoor
end
section
namespace Go.Proofs.YtmjckdgomlppeaaGreatDoor
open Go.RowKit Go.Shelf

def RefPutEnd (w : World) (r : List Va) (e : Ending) (w' : World) : Prop :=
  ∃ g cap, e = .returned (.slice (some ⟨g, 0, none⟩) (1 + sumV r) cap) ∧ Buf w' w.heap.size g cap (1 + sumV r) (putR r) ∧ Below w.heap.size w w'

theorem buf_new (w : World) (n : Nat) (hn : w.heap.size = n) (b : Int) : Buf (w.alloc (.cells #[.int .u8 b] 5)) n n 1 1 [b] := by
  subst hn
  exact ⟨rfl, rfl, .inr ⟨w.heap.size, 1, #[.int .u8 b], rfl, Nat.le_refl _, heap_alloc_new w _, Nat.le_refl _, by simp [maxLen], rfl, rfl⟩⟩
theorem putV_0 (n : Int) (s : ByteArray) : putV ⟨0, n, s⟩ = [0] := by simp [putV]
theorem putV_1 (n : Int) (s : ByteArray) : putV ⟨1, n, s⟩ = [1] ++ [n] := by simp [putV]
theorem putV_2 (n : Int) (s : ByteArray) : putV ⟨2, n, s⟩ = [2] ++ seven (n + 9007199254740992) := by simp [putV]
theorem putV_3 (n : Int) (s : ByteArray) : putV ⟨3, n, s⟩ = [3] ++ [(s.size : Int)] ++ strB s := by simp [putV]
theorem size_putV (v : Va) : (putV v).length = sizeV v := rfl

set_option maxRecDepth 100000 in
set_option maxHeartbeats 1000000 in
theorem refPut_any (A : Option Addr) (c : Nat) (r : List Va) (w : World) (h : RowAt w A r) (hok : okR r = true) :
    Calls Tryz.prog 61 #[.slice A r.length c] w (RefPutEnd w r) := by
  obtain ⟨h32, hall⟩ := okR_parts hok
  have HA := Lib.hid hall
  clear hall hok
  go_enter Tryz.func61, Tryz.ntmps61
  go_wp2_with fail
  have hbuf := buf_new w _ rfl (r.length : Int)
  have hB0 := ba w (.cells #[.int .u8 (r.length : Int)] 5)
  generalize w.alloc (.cells #[.int .u8 (r.length : Int)] 5) = W at hbuf hB0 ⊢
  go_loopw [3, 4] (fun v i wr => ∃ j g cap N : Nat, j ≤ r.length ∧ i = .int .i64 j ∧ v = .slice (some ⟨g, 0, none⟩) N cap ∧ N ≤ 66 * j + 1 ∧ 0 < N ∧ Hid (N = 1 + sumV (r.take j)) ∧ Hid (Buf wr w.heap.size g cap N ((r.length : Int) :: bodyR (r.take j))) ∧ Below w.heap.size w wr) (fun _ i _ => r.length - (intOf i).toNat)
  case atStart => exact ⟨0, w.heap.size, 1, 1, Nat.zero_le _, rfl, rfl, by omega, by omega, Lib.hid (by simp [sumV]), Lib.hid (by simpa [bodyR] using hbuf), hB0⟩
  case round =>
    obtain ⟨j, g, cap, N, hj, rfl, rfl, hN, hN0, HN, HBj, hB⟩ := hrel
    have hr := h.kept hB
    clear hbuf hB0
    by_cases hlt : j < r.length
    · obtain ⟨b, off, rfl, hb, c0, c1, c2⟩ := hr.at hlt
      have HV := Lib.hid (HA.out r[j] (List.getElem_mem hlt))
      have HX := Lib.hid (bodyR_succ r j hlt)
      have HX2 := Lib.hid (sumV_succ r j hlt)
      have hsv := sizeV_le HV.out
      have hne : wr.heap.size ≠ g := ne_box HBj.out
      have hbl : w.heap.size ≤ wr.heap.size := hB.size
      have hji : (j : Int) < (r.length : Int) := by omega
      generalize r[j] = v at c0 c1 c2 HV HX HX2 hsv
      clear hr
      obtain ⟨k, n, s⟩ := v
      have ht := ok_text HV.out
      have hk := ok_kind HV.out
      simp only at ht hk c0 c1 c2
      rcases hk with rfl | rfl | rfl | rfl
      · go_wp2_with (at_builtin; refine wpList_grow1 rfl (.tmp 22) (.tmp 26) rfl w.heap.size g cap N _ 0 _ rfl (HBj.out.alloc _) _ rfl (World.size_alloc _ _) ?c1 ?_)
        case c1 => omega
        intro g1 cap1 w1 hb1 hg1 he1 hB1
        have e0 := he1 ⟨wr.heap.size, 0, none⟩ (.int .i64 0) (by simp) hne
        have HB1 := Lib.hid hb1
        have HW1 := Lib.hid ((hB.alloc hbl _).trans hB1)
        clear hb1 he1 hB1
        go_wp2_with fail
        go_roundw
        case rel => exact ⟨j + 1, g1, cap1, N + 1, by omega, by go_num, rfl, by omega, by omega, Lib.hid (by rw [HX2.out, HN.out, ← size_putV, putV_0]; simp; omega), Lib.hid (by rw [HX.out, putV_0]; simpa using HB1.out), HW1.out⟩
        case measure => simp [intOf]; omega
      · have hn : n = 0 ∨ n = 1 := by
          have := HV.out
          unfold Va.ok okV at this
          simp at this
          omega
        go_wp2_with (at_builtin; refine wpList_grow1 rfl (.tmp 22) (.tmp 26) rfl w.heap.size g cap N _ 1 _ rfl (HBj.out.alloc _) _ rfl (World.size_alloc _ _) ?c1 ?_)
        case c1 => omega
        intro g1 cap1 w1 hb1 hg1 he1 hB1
        have e0 := he1 ⟨wr.heap.size, 0, none⟩ (.int .i64 1) (by simp) hne
        have e1 := he1 ⟨wr.heap.size, 1, none⟩ (.int .i64 n) (by simp) hne
        have e2 := he1 ⟨wr.heap.size, 2, none⟩ (.string s) (by simp) hne
        have hlt1 : wr.heap.size ≠ g1 := by omega
        have HB1 := Lib.hid hb1
        have HW1 := Lib.hid ((hB.alloc hbl _).trans hB1)
        clear hb1 he1 hB1
        rcases hn with rfl | rfl
        all_goals
          go_wp2_with (at_builtin; refine wpList_grow1 rfl (.tmp 32) (.tmp 36) rfl w.heap.size g1 cap1 (N + 1) _ _ _ rfl HB1.out _ rfl rfl ?c2 ?_)
          case c2 => omega
          intro g2 cap2 w2 hb2 hg2 he2 hB2
          have HB2 := Lib.hid hb2
          have HW2 := Lib.hid (HW1.out.trans hB2)
          clear hb2 he2 hB2
          go_wp2_with fail
          go_roundw
          case rel => exact ⟨j + 1, g2, cap2, N + 1 + 1, by omega, by go_num, rfl, by omega, by omega, Lib.hid (by rw [HX2.out, HN.out, ← size_putV, putV_1]; simp; omega), Lib.hid (by rw [HX.out, putV_1]; simpa using HB2.out), HW2.out⟩
          case measure => simp [intOf]; omega
      · have hn : -9007199254740991 ≤ n ∧ n ≤ 9007199254740991 := by
          have := HV.out
          unfold Va.ok okV at this
          simp at this
          omega
        obtain ⟨hn1, hn2⟩ := hn
        go_wp2_with (at_builtin; refine wpList_grow1 rfl (.tmp 22) (.tmp 26) rfl w.heap.size g cap N _ 2 _ rfl (HBj.out.alloc _) _ rfl (World.size_alloc _ _) ?c1 ?_)
        case c1 => omega
        intro g1 cap1 w1 hb1 hg1 he1 hB1
        have e0 := he1 ⟨wr.heap.size, 0, none⟩ (.int .i64 2) (by simp) hne
        have e1 := he1 ⟨wr.heap.size, 1, none⟩ (.int .i64 n) (by simp) hne
        have e2 := he1 ⟨wr.heap.size, 2, none⟩ (.string s) (by simp) hne
        have hlt1 : wr.heap.size ≠ g1 := by omega
        have HB1 := Lib.hid hb1
        have HW1 := Lib.hid ((hB.alloc hbl _).trans hB1)
        clear hb1 he1 hB1
        go_wp2_with fail
        generalize hm : n + 9007199254740992 = m
        have hm1 : 1 ≤ m := by omega
        have hm2 : m ≤ 18014398509481983 := by omega
        have HM := Lib.hid hm
        clear hm
        go_loopw [3, 7] (fun v i wq => ∃ q g2 cap2 : Nat, q ≤ 7 ∧ i = .int .i64 (6 - (q : Int)) ∧ v = .slice (some ⟨g2, 0, none⟩) (N + 1 + q) cap2 ∧ Hid (Buf wq w.heap.size g2 cap2 (N + 1 + q) ((r.length : Int) :: bodyR (r.take j) ++ [2] ++ (seven m).take q)) ∧ Hid (Below w.heap.size w wq)) (fun _ i _ => (intOf i + 1).toNat)
        case atStart => exact ⟨0, g1, cap1, by omega, rfl, rfl, Lib.hid (by simpa using HB1.out), HW1⟩
        case round =>
          obtain ⟨q, g2, cap2, hq, rfl, rfl, HBq, HWq⟩ := hrel
          by_cases hlq : q < 7
          · have hi0 : (0 : Int) ≤ 8 * (6 - (q : Int)) := by omega
            have hi1 : 8 * (6 - (q : Int)) < 64 := by omega
            go_wp2_with (at_builtin; refine wpList_grow1 rfl (.tmp 47) (.tmp 53) rfl w.heap.size g2 cap2 (N + 1 + q) _ _ _ rfl HBq.out _ rfl rfl ?c2 ?_)
            case c2 => omega
            intro g3 cap3 w3 hb3 hg3 he3 hB3
            have HB3 := Lib.hid hb3
            have HW3 := Lib.hid (HWq.out.trans hB3)
            clear hb3 he3 hB3
            go_wp2_with fail
            refine ⟨⟨q + 1, g3, cap3, by omega, ?_, rfl, ?_, HW3⟩, ?_⟩
            · congr 1; omega
            · refine Lib.hid ?_
              have := HB3.out
              rw [seven_take m q hlq, show N + 1 + (q + 1) = N + 1 + q + 1 by omega]
              simpa using this
            · simp [intOf]; omega
          · obtain rfl : q = 7 := by omega
            have e7 : n + 9007199254740992 = m := HM.out
            go_wp2_with fail
            go_roundw
            case rel => exact ⟨j + 1, g2, cap2, N + 1 + 7, by omega, by go_num, rfl, by omega, by omega, Lib.hid (by rw [HX2.out, HN.out, ← size_putV, putV_2]; simp [seven]; omega), Lib.hid (by rw [HX.out, putV_2, e7]; simpa [seven] using HBq.out), HWq.out⟩
            case measure => simp [intOf]; omega
      · go_wp2_with (at_builtin; refine wpList_grow1 rfl (.tmp 22) (.tmp 26) rfl w.heap.size g cap N _ 3 _ rfl (HBj.out.alloc _) _ rfl (World.size_alloc _ _) ?c1 ?_)
        case c1 => omega
        intro g1 cap1 w1 hb1 hg1 he1 hB1
        have e0 := he1 ⟨wr.heap.size, 0, none⟩ (.int .i64 3) (by simp) hne
        have e1 := he1 ⟨wr.heap.size, 1, none⟩ (.int .i64 n) (by simp) hne
        have e2 := he1 ⟨wr.heap.size, 2, none⟩ (.string s) (by simp) hne
        have hlt1 : wr.heap.size ≠ g1 := by omega
        have HB1 := Lib.hid hb1
        have HW1 := Lib.hid ((hB.alloc hbl _).trans hB1)
        clear hb1 he1 hB1
        go_wp2_with (at_builtin; refine wpList_grow1 rfl (.tmp 57) (.tmp 62) rfl w.heap.size g1 cap1 (N + 1) _ (s.size : Int) _ rfl HB1.out _ rfl rfl ?c2 ?_)
        case c2 => omega
        intro g2 cap2 w2 hb2 hg2 he2 hB2
        have d2 := he2 ⟨wr.heap.size, 2, none⟩ (.string s) e2 hlt1
        have HB2 := Lib.hid hb2
        have HW2 := Lib.hid (HW1.out.trans hB2)
        clear hb2 he2 hB2 e0 e1 e2
        go_wp2_with (at_builtin; refine wpList_growS rfl (.tmp 64) (.tmp 66) rfl w.heap.size g2 cap2 (N + 1 + 1) _ s _ rfl HB2.out rfl ?c3 ?c4 ?_)
        case c3 => omega
        case c4 => omega
        intro g3 cap3 w3 hb3 hB3
        have HB3 := Lib.hid hb3
        have HW3 := Lib.hid (HW2.out.trans hB3)
        clear hb3 hB3
        go_wp2_with fail
        go_roundw
        case rel => exact ⟨j + 1, g3, cap3, N + 1 + 1 + s.size, by omega, by go_num, rfl, by omega, by omega, Lib.hid (by rw [HX2.out, HN.out, ← size_putV, putV_3]; simp [strB]; omega), Lib.hid (by rw [HX.out, putV_3]; simpa using HB3.out), HW3.out⟩
        case measure => simp [intOf]; omega
    · obtain rfl : j = r.length := by omega
      have eN : N = 1 + sumV r := by rw [HN.out, List.take_length]
      have hbj := HBj.out
      rw [List.take_length, eN] at hbj
      have HF := Lib.hid hbj
      clear hbj
      go_wp2_with fail
      go_ret
      exact ⟨g, cap, by simp [eN], HF.out, hB⟩

end Go.Proofs.YtmjckdgomlppeaaGreatDoor
end
section
namespace Go.Proofs.YtmjckdgomlppeaaGreatDoor
open Go.RowKit Go.Shelf

def mayI (r : List Va) : Int := if okR r = true then if 253 < 1 + sumV r then 3 else 0 else 20

set_option maxRecDepth 100000 in
set_option maxHeartbeats 400000 in
theorem may_any (A : Option Addr) (c : Nat) (r : List Va) (w : World) (h : RowAt w A r) (hf : Fine r) (hl : r.length ≤ 9223372036854775807) :
    Calls Tryz.prog 38 #[.slice A r.length c] w fun e w' => e = .returned (.int .i64 (mayI r)) ∧ Below w.heap.size w w' := by
  have HC := Lib.hid (refRowCheck_any A c r w h hf hl)
  have HR := Lib.hid h
  clear h
  by_cases hok : okR r = true
  · have hs : sumV r ≤ 65536 := by
      obtain ⟨h32, hall⟩ := okR_parts hok
      have := sumV_le r hall
      omega
    rw [hok] at HC
    by_cases hw : 253 < 1 + sumV r
    · have HM := Lib.hid (show mayI r = 3 by simp [mayI, hok, hw])
      go_enter Tryz.func38, Tryz.ntmps38
      go_wp2_with fail
      refine HC.out.mono ?_
      rintro e w1 ⟨rfl, hb⟩
      have HP := Lib.hid (refPut_any A c r w1 (HR.out.kept hb) hok)
      have HB := Lib.hid hb
      clear hb
      go_wp2_with fail
      refine HP.out.mono ?_
      rintro e w2 ⟨g, cap, rfl, _, hb2⟩
      go_wp2_with fail
      go_ret
      exact ⟨by rw [HM.out]; rfl, bt HB.out hb2⟩
    · have HM := Lib.hid (show mayI r = 0 by simp [mayI, hok, hw])
      go_enter Tryz.func38, Tryz.ntmps38
      go_wp2_with fail
      refine HC.out.mono ?_
      rintro e w1 ⟨rfl, hb⟩
      have HP := Lib.hid (refPut_any A c r w1 (HR.out.kept hb) hok)
      have HB := Lib.hid hb
      clear hb
      go_wp2_with fail
      refine HP.out.mono ?_
      rintro e w2 ⟨g, cap, rfl, _, hb2⟩
      go_wp2_with fail
      go_ret
      exact ⟨by rw [HM.out]; rfl, bt HB.out hb2⟩
  · have HM := Lib.hid (show mayI r = 20 by simp [mayI, hok])
    rw [show okR r = false by simpa using hok] at HC
    go_enter Tryz.func38, Tryz.ntmps38
    go_wp2_with fail
    refine HC.out.mono ?_
    rintro e w1 ⟨rfl, hb⟩
    go_wp2_with fail
    go_ret
    exact ⟨by rw [HM.out]; rfl, hb⟩
end Go.Proofs.YtmjckdgomlppeaaGreatDoor
end
section
namespace Go.Proofs.YtmjckdgomlppeaaGreatDoor
open Go.RowKit Go.Shelf
attribute [local go_sem] Oper.semAt_some

section
variable {o : Oper} {a : Act} {w : World}
theorem run_faT2 {x : Operand} (ho : o.op = .fieldAddr 29 x 2) {u : Nat} (hx : a.eval x = .pointer (some ⟨u, 0, none⟩)) : (execOp a.eval o).run Tryz.prog w = .ok (.value (.pointer (some ⟨u, 2, none⟩))) w := by
  have h : (Instr.fieldAt 29 (.pointer (some ⟨u, 0, none⟩)) 2).run Tryz.prog w = .ok (.pointer (some ⟨u, 2, none⟩)) w := by go_simp
  unfold execOp
  simp only [ho, hx]
  rw [Sem.run_bind, h]
  rfl
theorem run_ixR {x y : Operand} (ho : o.op = .indexAddr 27 x y) {b off n c j : Nat} (hj : j < n) (hx : a.eval x = .slice (some ⟨b, off, none⟩) n c) (hy : a.eval y = .int .i64 (j : Nat)) : (execOp a.eval o).run Tryz.prog w = .ok (.value (.pointer (some ⟨b, off + j, none⟩))) w := by
  have hjI : (j : Int) < (n : Int) := by omega
  have h : (Instr.indexAt 27 (.slice (some ⟨b, off, none⟩) n c) (.int .i64 (j : Nat))).run Tryz.prog w = .ok (.pointer (some ⟨b, off + j, none⟩)) w := by go_simp
  unfold execOp
  simp only [ho, hx, hy]
  rw [Sem.run_bind, h]
  rfl
theorem run_ldRow {x : Operand} (ho : o.op = .load 38 x) {u p : Nat} {A : Option Addr} {n c : Nat} (hx : a.eval x = .pointer (some ⟨u, p, none⟩)) (hc : w.cell? ⟨u, p, none⟩ = some (.slice A n c)) : (execOp a.eval o).run Tryz.prog w = .ok (.value (.slice A n c)) w := by
  have h : (Instr.loadAt 38 (.pointer (some ⟨u, p, none⟩))).run Tryz.prog w = .ok (.slice A n c) w := by go_simp
  unfold execOp
  simp only [ho, hx]
  rw [Sem.run_bind, h]
  rfl
theorem run_neI {P : Program} {x y : Operand} {t t' : TypeId} (ho : o.op = .binOp .neq t x y t') {k : IntKind} {m n : Int} (hx : a.eval x = .int k m) (hy : a.eval y = .int k n) : (execOp a.eval o).run P w = .ok (.value (.bool (m != n))) w := by
  unfold execOp
  simp [ho, hx, hy, eqGuard, binOp, Op.intCmp]
end
theorem oddsB_of {l : List Co} {j : Nat} (hj : j < l.length) (h : oddAt l j = true) : colsB l = false := by rw [colsB, oddsB_yes hj h, Bool.not_true, Bool.and_false]
theorem tabB_oddC {t : Ta} {j : Nat} (hj : j < t.cols.length) (h : oddAt t.cols j = true) : tabB t = false := by rw [tabB, oddsB_of hj h, Bool.and_false, Bool.false_and]
theorem tabB_oddR {t : Ta} {j : Nat} (hj : j < t.rows.length) (h : oddR t.cols t.rows[j] = true) : tabB t = false := by
  rw [tabB, rowsB, any_yes hj h, Bool.not_true, Bool.and_false, Bool.and_false]
theorem tabB_yes {t : Ta} (h1 : isName t.nm = true) (h2 : 1 ≤ t.cols.length) (h3 : t.cols.length ≤ 16) (h4 : t.rows.length ≤ 4096) (h5 : ∀ i, i < t.cols.length → oddAt t.cols i = false) (h6 : ∀ i (hi : i < t.rows.length), oddR t.cols t.rows[i] = false) : tabB t = true := by
  rw [tabB, h1, colsB, decide_eq_true h2, decide_eq_true h3, oddsB_no h5, rowsB, decide_eq_true h4, any_no h6]; rfl
theorem hasB_no {l : List Co} {j : Nat} {s : ByteArray} (hj : j ≤ l.length) (h : ∀ i (hi : i < l.length), i < j → (l[i].nm.toList == s.toList) = false) : hasB ((l.take j).map Co.nm) s = false := by
  unfold hasB
  rw [List.any_map, List.any_eq_false]
  intro x hx
  obtain ⟨i, hi, rfl⟩ := List.mem_iff_getElem.1 hx
  rw [List.length_take] at hi
  have := h i (by omega) (by omega)
  simp only [Function.comp, List.getElem_take]
  rw [this]; simp
theorem hasB_yes {l : List Co} {j k : Nat} {s : ByteArray} (hj : j ≤ l.length) (hk : k < j) (h : ((l[k]'(by omega)).nm.toList == s.toList) = true) : hasB ((l.take j).map Co.nm) s = true := by
  unfold hasB
  rw [List.any_map, List.any_eq_true]
  refine ⟨l[k]'(by omega), ?_, h⟩
  rw [List.mem_take_iff_getElem]
  exact ⟨k, by omega, rfl⟩
theorem oddR_is {cols : List Co} {r : List Va} : oddR cols r = ((!fitT cols r) || (mayI r != 0)) := by
  unfold oddR
  cases hf : fitT cols r with
  | false => rfl
  | true =>
    rw [Bool.not_true, Bool.false_or, Bool.false_or, mayI, if_pos (fitT_ok hf)]
    by_cases h : 253 < 1 + sumV r
    · rw [if_pos h, decide_eq_true h]; rfl
    · rw [if_neg h, decide_eq_false h]; rfl
/-- The second half of the document's Table: each row. -/
theorem oddAt_eq {l : List Co} {j : Nat} (hj : j < l.length) : oddAt l j = oddC ((l.take j).map Co.nm) l[j] := by
  unfold oddAt
  rw [List.getD_eq_getElem?_getD, List.getElem?_eq_getElem hj]
  rfl
set_option maxRecDepth 100000 in
set_option maxHeartbeats 8000000 in
theorem rtable_any (t : Ta) (A B : Option Addr) (c d : Nat) (wz : World) (h : TaOk wz t A c B d) (hF : FineT t) {q : Bool} (hq : tabB t = q) :
    Calls Tryz.prog 15 #[TV t.nm A t.cols.length c B t.rows.length d] wz fun e w' => e = .returned (.bool q) ∧ Below wz.heap.size wz w' := by
  have hba := ba wz (tbox t.nm A t.cols.length c B t.rows.length d)
  have HBx := Lib.hid (MapKept.heap_alloc wz (tbox t.nm A t.cols.length c B t.rows.length d)).1
  have hnm := hF.nm
  have HNm := Lib.hid (refName_any t.nm (wz.alloc (tbox t.nm A t.cols.length c B t.rows.length d)) (by unfold maxLen at hnm; omega))
  have HC := Lib.hid (h.co.kept hba)
  have HR := Lib.hid (h.ro.kept hba)
  have HFn := Lib.hid hF
  have HB := Lib.hid hba
  have HQ := Lib.hid hq
  have HCl := Lib.hid (show t.cols.length ≤ 9223372036854775807 by have := h.cl; have := h.cm; omega)
  have HRl := Lib.hid (show t.rows.length ≤ 9223372036854775807 by have := h.rl; have := h.rm; omega)
  obtain ⟨nm, cols, rows⟩ := t
  simp only at HBx HNm HC HR HB HCl HRl ⊢
  clear hba h hF hq hnm
  go_enter Tryz.func15, Tryz.ntmps15
  go_upto_region 1 with fail
  obtain ⟨u, hu⟩ : ∃ u, wz.heap.size = u := ⟨_, rfl⟩
  have HU := Lib.hid hu
  generalize wz.alloc (.cells #[.string nm, .slice A cols.length c, .slice B rows.length d] 29) = W0 at HBx HNm HC HR HB ⊢
  rw [hu] at HBx
  try rw [hu]
  clear hu
  obtain ⟨x0, x1, x2⟩ := cell3 HBx.out
  go_wp2_with fail
  refine HNm.out.mono ?_
  rintro e w1 ⟨rfl, hb1⟩
  have HB1 := Lib.hid (bt HB.out hb1)
  have HB01 := Lib.hid hb1
  have hx1 := (hb1.block _ (Array.getElem?_eq_some_iff.1 HBx.out).1).trans HBx.out
  clear hb1 x0 x1 x2
  obtain ⟨x0, x1, x2⟩ := cell3 hx1
  clear hx1
  cases hn : isName nm
  · obtain rfl : false = q := by rw [← HQ.out, tabB, hn]; rfl
    go_wp2_with fail
    go_ret
    exact ⟨rfl, HB1.out⟩
  · have HNn := Lib.hid hn
    clear hn
    by_cases g1 : 1 ≤ cols.length
    rotate_left 1
    · obtain rfl : false = q := by rw [← HQ.out, tabB, colsB, decide_eq_false g1, Bool.false_and, Bool.false_and, Bool.and_false, Bool.false_and]
      have hI : (cols.length : Int) < 1 := by omega
      clear g1
      go_wp2_with fail
      go_ret
      exact ⟨rfl, HB1.out⟩
    have hI1 : ¬ (cols.length : Int) < 1 := by omega
    by_cases g2 : cols.length ≤ 16
    rotate_left 1
    · obtain rfl : false = q := by rw [← HQ.out, tabB, colsB, decide_eq_false g2, Bool.and_false, Bool.false_and, Bool.and_false, Bool.false_and]
      have hI : (16 : Int) < (cols.length : Int) := by omega
      clear g1 g2
      go_wp2_with fail
      go_ret
      exact ⟨rfl, HB1.out⟩
    have hI2 : ¬ (16 : Int) < (cols.length : Int) := by omega
    by_cases g3 : rows.length ≤ 4096
    rotate_left 1
    · obtain rfl : false = q := by rw [← HQ.out, tabB, rowsB, decide_eq_false g3, Bool.false_and, Bool.and_false]
      have hI : (4096 : Int) < (rows.length : Int) := by omega
      clear g1 g2 g3
      go_wp2_with fail
      go_ret
      exact ⟨rfl, HB1.out⟩
    have hI3 : ¬ (4096 : Int) < (rows.length : Int) := by omega
    have HG := Lib.hid (show 1 ≤ cols.length ∧ cols.length ≤ 16 ∧ rows.length ≤ 4096 from ⟨g1, g2, g3⟩)
    clear g1 g2 g3
    have HXc := Lib.hid (fun W (hb : Below W0.heap.size W0 W) => cell3 ((hb.block _ (Array.getElem?_eq_some_iff.1 HBx.out).1).trans HBx.out))
    have HUl := Lib.hid (show u < W0.heap.size from (Array.getElem?_eq_some_iff.1 HBx.out).1)
    go_wp2_with fail
    clear hI1 hI2 hI3 x0 x1 x2
    go_loopw [3] (fun i wr => ∃ j : Nat, j ≤ cols.length ∧ i = .int .i64 j ∧ Hid (Below wz.heap.size wz wr) ∧ Hid (Below W0.heap.size W0 wr) ∧ Hid (∀ i, i < j → oddAt cols i = false)) (fun i _ => cols.length - (intOf i).toNat)
    case atStart => exact ⟨0, Nat.zero_le _, rfl, HB1, HB01, Lib.hid (fun i hi => absurd hi (by omega))⟩
    case round =>
      obtain ⟨j, hj, rfl, HW, HW0, HNo⟩ := hrel
      obtain ⟨wo, rfl⟩ : ∃ wo : World, wo = wr := ⟨_, rfl⟩
      obtain ⟨x0, x1, x2⟩ := HXc.out wo HW0.out
      have hg := HG.out
      by_cases hlt : j < cols.length
      · obtain ⟨b1, off1, rfl, hb1, c0, c1, c2⟩ := (HC.out.kept HW0.out).at hlt
        have HOdd := Lib.hid (fun (h : oddAt cols j = true) => tabB_oddC (t := ⟨nm, cols, rows⟩) hlt h)
        have HAt := Lib.hid (oddAt_eq hlt)
        have HNn2 := Lib.hid (HFn.out.co cols[j] (List.getElem_mem hlt))
        have HLt := Lib.hid hlt
        have hjI : (j : Int) < (cols.length : Int) := by omega
        have hj0 : 0 ≤ (j : Int) := Int.natCast_nonneg _
        generalize cols[j] = x at c0 c1 c2 HAt HNn2
        obtain ⟨xt, xn, xy⟩ := x
        simp only at c0 c1 c2 HNn2
        have hba := ba wo (.cells #[.string xt, .string xn, .int .i64 xy] 57)
        have HK := Lib.hid (MapKept.heap_alloc wo (.cells #[.string xt, .string xn, .int .i64 xy] 57)).1
        have HW1 := Lib.hid (bt HW.out hba)
        have HW01 := Lib.hid (bt HW0.out hba)
        clear hlt hba hb1 hg hj
        go_upto_region 7 with fail
        generalize wo.alloc (.cells #[.string xt, .string xn, .int .i64 xy] 57) = W1 at HK HW1 HW01 ⊢
        generalize wo.heap.size = p at HK ⊢
        clear x0 x1 x2 c0 c1 c2
        obtain ⟨y0, y1, y2⟩ := cell3 HK.out
        cases hxt : xt.toList.isEmpty
        · obtain rfl : false = q := by rw [← HQ.out, HOdd.out (by rw [HAt.out, oddC, hxt, Bool.not_false, Bool.or_true, Bool.true_or])]
          have hne : (xt.toList == []) = false := by rw [← hxt]; cases xt.toList <;> rfl
          clear hxt
          go_wp2_with fail
          go_ret
          exact ⟨rfl, HW1.out⟩
        have hnt : xt.toList = [] := List.isEmpty_iff.1 hxt
        have HXt := Lib.hid hxt
        have HNa := Lib.hid (refName_any xn W1 (by have := HNn2.out; unfold maxLen at this; omega))
        clear hxt
        go_wp2_with fail
        refine HNa.out.mono ?_
        rintro e w2 ⟨rfl, hb2⟩
        have hk2 := (hb2.block _ (Array.getElem?_eq_some_iff.1 HK.out).1).trans HK.out
        have HK2 := Lib.hid hk2
        have HW2 := Lib.hid (bt HW1.out hb2)
        have HW02 := Lib.hid (bt HW01.out hb2)
        clear hb2 y0 y1 y2
        obtain ⟨y0, y1, y2⟩ := cell3 hk2
        clear hk2
        cases hxn : isName xn
        · obtain rfl : false = q := by rw [← HQ.out, HOdd.out (by rw [HAt.out, oddC, hxn, Bool.not_false, Bool.or_true, Bool.true_or, Bool.true_or])]
          clear hxn
          go_wp2_with fail
          go_ret
          exact ⟨rfl, HW2.out⟩
        have HXn := Lib.hid hxn
        clear hxn
        by_cases t1 : 1 ≤ xy
        rotate_left 1
        · obtain rfl : false = q := by rw [← HQ.out, HOdd.out (by rw [HAt.out, oddC, typeB, decide_eq_false t1, Bool.false_and, Bool.not_false, Bool.or_true])]
          have hI : xy < 1 := by omega
          clear t1
          go_wp2_with fail
          go_ret
          exact ⟨rfl, HW2.out⟩
        have hI1 : ¬ xy < 1 := by omega
        by_cases t2 : xy ≤ 3
        rotate_left 1
        · obtain rfl : false = q := by rw [← HQ.out, HOdd.out (by rw [HAt.out, oddC, typeB, decide_eq_false t2, Bool.and_false, Bool.not_false, Bool.or_true])]
          have hI : 3 < xy := by omega
          clear t1 t2
          go_wp2_with fail
          go_ret
          exact ⟨rfl, HW2.out⟩
        have hI2 : ¬ 3 < xy := by omega
        have HTy := Lib.hid (show typeB xy = true by rw [typeB, decide_eq_true t1, decide_eq_true t2]; rfl)
        clear t1 t2
        go_wp2_with fail
        clear hI1 hI2 y0 y1 y2
        go_loopw [5] (fun i wr => ∃ k : Nat, k ≤ j ∧ i = .int .i64 k ∧ Hid (Below w2.heap.size w2 wr) ∧ Hid (∀ i (hi : i < cols.length), i < k → (cols[i].nm.toList == xn.toList) = false)) (fun i _ => j - (intOf i).toNat)
        case atStart => exact ⟨0, Nat.zero_le _, rfl, Lib.hid (Below.refl _ _), Lib.hid (fun i hi h => absurd h (by omega))⟩
        case round =>
          obtain ⟨k, hk, rfl, HV, HNk⟩ := hrel
          have hg := HG.out
          have hltj := HLt.out
          by_cases hkj : k < j
          · have HV0 := Lib.hid (bt HW02.out HV.out)
            have HV2 := Lib.hid (bt HW2.out (bt HV.out (Below.drew (Below.refl _ _))))
            have HVd := Lib.hid (bt HV.out (Below.drew (Below.refl wr.heap.size wr)))
            obtain ⟨x0, x1, x2⟩ := HXc.out wr HV0.out
            obtain ⟨_, y1, _⟩ := cell3 ((HV.out.block _ (Array.getElem?_eq_some_iff.1 HK2.out).1).trans HK2.out)
            have hkc : k < cols.length := by omega
            obtain ⟨b3, off3, e3, hb3, d0, d1, d2⟩ := (HC.out.kept HV0.out).at hkc
            simp only [Option.some.injEq, Addr.mk.injEq] at e3
            obtain ⟨rfl, rfl, _⟩ := e3
            have hkI : (k : Int) < (cols.length : Int) := by omega
            have hkJ : (k : Int) < (j : Int) := by omega
            have hk0 : 0 ≤ (k : Int) := Int.natCast_nonneg _
            cases hqk : (cols[k].nm.toList == xn.toList)
            · have HNk1 := Lib.hid (fun i (hi : i < cols.length) (h' : i < k + 1) => by
                rcases Nat.lt_or_ge i k with h1 | h1
                · exact HNk.out i hi h1
                · obtain rfl : i = k := by omega
                  exact hqk)
              generalize cols[k].nm = kn at d1 hqk
              clear hb3 d0 d2
              go_wp2_with fail
              go_region
              all_goals
                go_wp2_with fail
                go_roundw
                case rel => exact ⟨k + 1, by omega, by go_num, HVd, HNk1⟩
                case measure => simp [intOf]; omega
            · obtain rfl : false = q := by rw [← HQ.out, HOdd.out (by rw [HAt.out, oddC, hasB_yes (Nat.le_of_lt hltj) hkj hqk, Bool.true_or, Bool.true_or, Bool.true_or])]
              generalize cols[k].nm = kn at d1 hqk
              clear hb3 d0 d2
              go_wp2_with fail
              go_region
              all_goals
                go_wp2_with fail
                go_ret
                exact ⟨rfl, HV2.out⟩
          · have HNj := Lib.hid (show ∀ i, i < j + 1 → oddAt cols i = false from fun i hi => by
              rcases Nat.lt_or_ge i j with h1 | h1
              · exact HNo.out i h1
              · obtain rfl : i = j := by omega
                rw [HAt.out, oddC, hasB_no (Nat.le_of_lt hltj) fun a ha hb => HNk.out a ha (by omega), HXn.out, HXt.out, HTy.out]; rfl)
            have HB9 := Lib.hid (bt HW2.out HV.out)
            have HB09 := Lib.hid (bt HW02.out HV.out)
            go_wp2_with fail
            go_roundw
            case rel => first | exact ⟨j + 1, by omega, by go_num, HB9, HB09, HNj⟩ | ((repeat apply Exists.intro); exact ⟨⟨j + 1, by omega, by go_num, HB9, HB09, HNj⟩, rfl⟩)
            case measure => simp [intOf]; omega
      · obtain rfl : j = cols.length := by omega
        clear hlt hj
        have HNc := HNo
        go_wp2_with fail
        clear x0 x1 x2 hg
        go_loopw [6] (fun i wr => ∃ j : Nat, j ≤ rows.length ∧ i = .int .i64 j ∧ Hid (Below wz.heap.size wz wr) ∧ Hid (Below W0.heap.size W0 wr) ∧ Hid (∀ i (hi : i < rows.length), i < j → oddR cols rows[i] = false)) (fun i _ => rows.length - (intOf i).toNat)
        case atStart => exact ⟨0, Nat.zero_le _, rfl, HW, HW0, Lib.hid (fun i hi h => absurd h (by omega))⟩
        case round =>
          clear HW HW0
          obtain ⟨j, hj, rfl, HW, HW0, HNr⟩ := hrel
          obtain ⟨x0, x1, x2⟩ := HXc.out wr HW0.out
          have hg := HG.out
          have hul : u < wr.heap.size := Nat.lt_of_lt_of_le HUl.out HW0.out.size
          by_cases hlt : j < rows.length
          · obtain ⟨b1, off1, rfl, hb1, Ar, cr, y0, hrow, hz3, hz4⟩ := HR.out.at HW0.out hlt
            replace hb1 := Nat.lt_of_lt_of_le hb1 HW0.out.size
            have HOdd := Lib.hid (fun (h : oddR cols rows[j] = true) => tabB_oddR (t := ⟨nm, cols, rows⟩) hlt h)
            have HNx := Lib.hid (fun (h : oddR cols rows[j] = false) i (hi : i < rows.length) (h' : i < j + 1) => by
              rcases Nat.lt_or_ge i j with h1 | h1
              · exact HNr.out i hi h1
              · obtain rfl : i = j := by omega
                exact h)
            have hfr := HFn.out.ro rows[j] (List.getElem_mem hlt)
            have hlr := HFn.out.rl rows[j] (List.getElem_mem hlt)
            clear hz3 hz4
            generalize rows[j] = r at y0 hrow HOdd HNx hfr hlr
            obtain ⟨fq, hfq⟩ : ∃ fq, fitT cols r = fq := ⟨_, rfl⟩
            obtain ⟨mq, hmq⟩ : ∃ mq, mayI r = mq := ⟨_, rfl⟩
            have HFt := Lib.hid (fun W (hb : Below wr.heap.size wr W) => rcfits_any A Ar c cr cols r W ((HC.out.kept HW0.out).kept hb) (hrow.kept hb) hfr hlr hfq)
            have HMy := Lib.hid (fun W (hb : Below wr.heap.size wr W) => may_any Ar cr r W (hrow.kept hb) hfr hlr)
            rw [hmq] at HMy
            obtain ⟨n1, hn1⟩ : ∃ n1, (!fq) = n1 := ⟨_, rfl⟩
            obtain ⟨n2, hn2⟩ : ∃ n2, (n1 || (mq != 0)) = n2 := ⟨_, rfl⟩
            have HN1 := Lib.hid hn1
            have HN2 := Lib.hid (show ∀ u v : Value, u = .bool true → (n1 = false → v = .bool (mq != 0)) → (if n1 then u else v) = .bool n2 by
              intro u v hu hv
              cases n1
              · rw [if_neg (by simp), hv rfl, ← hn2, Bool.false_or]
              · rw [if_pos rfl, hu, ← hn2, Bool.true_or])
            have hod : oddR cols r = n2 := by rw [oddR_is, hfq, hmq, hn1, hn2]
            have HNo1 := Lib.hid (show n2 = false → ∀ i (hi : i < rows.length), i < j + 1 → oddR cols rows[i] = false from fun h => HNx.out (hod.trans h))
            have HNo2 := Lib.hid (show n2 = true → false = q from fun h => by rw [← HQ.out, HOdd.out (hod.trans h)])
            clear hn1 hn2 hod hfq hmq hrow hfr hlr
            go_wp2_with fail
            refine wp_region_inv (n := 18) (ds := [some 81, some 82, some 83, some 84, some 85, some 86, some 87, some 88, some 89, some 90, some 91, some 92, some 93, some 94, some 95, some 96, some 97, some 98]) (need := [[], [0], [], [2], [], [3, 4], [5], [1, 6], [7], [7, 8], [9], [9, 10], [9], [9, 11, 12], [9, 13], [9, 14], [9, 15], [9, 16]]) (R := Bel) (Gs := [
                (fun v _ => v = .pointer (some ⟨u, 1, none⟩)),
                (fun v _ => v = .slice A cols.length c),
                (fun v _ => v = .pointer (some ⟨u, 2, none⟩)),
                (fun v _ => v = .slice (some ⟨b1, off1, none⟩) rows.length d),
                (fun v _ => v = .int .i64 (j : Nat)),
                (fun v _ => v = .pointer (some ⟨b1, off1 + j, none⟩)),
                (fun v _ => v = .slice Ar r.length cr),
                (fun v _ => v = .bool fq),
                (fun v _ => v = .bool n1),
                (fun v _ => v = .bool n1),
                (Cnd (n1 = false) (fun v _ => v = .pointer (some ⟨u, 2, none⟩))),
                (Cnd (n1 = false) (fun v _ => v = .slice (some ⟨b1, off1, none⟩) rows.length d)),
                (Cnd (n1 = false) (fun v _ => v = .int .i64 (j : Nat))),
                (Cnd (n1 = false) (fun v _ => v = .pointer (some ⟨b1, off1 + j, none⟩))),
                (Cnd (n1 = false) (fun v _ => v = .slice Ar r.length cr)),
                (Cnd (n1 = false) (fun v _ => v = .int .i64 mq)),
                (Cnd (n1 = false) (fun v _ => v = .bool (mq != 0))),
                (fun v _ => v = .bool n2)])
              (by kernel_rfl) (by kernel_rfl) (by decide) (by kernel_rfl) (by kernel_rfl) (by kernel_rfl) (fun x => Below.refl _ x) (fun _ _ _ h k => bt h k) ?_ ?_
            · refine Each.cons rfl (Keeps.const _) (StepOk.plain (g := (fun v _ => v = .pointer (some ⟨u, 1, none⟩))) rfl rfl rfl (fun a w hs hR hr pre => ?_)) ?_
              · have ep : a.eval (.tmp 1) = .pointer (some ⟨u, 0, none⟩) := hr 1 (by decide)
                exact wp_pure (run_faT1 rfl ep) rfl
              refine Each.cons rfl (Keeps.const _) (StepOk.plain (g := (fun v _ => v = .slice A cols.length c)) rfl rfl rfl (fun a w hs hR hr pre => ?_)) ?_
              · have e81 : a.eval (.tmp 81) = .pointer (some ⟨u, 1, none⟩) := pre 0 (by decide)
                exact wp_pure (run_ldCs rfl e81 ((hR.cell (p := ⟨u, _, none⟩) hul).trans x1)) rfl
              refine Each.cons rfl (Keeps.const _) (StepOk.plain (g := (fun v _ => v = .pointer (some ⟨u, 2, none⟩))) rfl rfl rfl (fun a w hs hR hr pre => ?_)) ?_
              · have ep : a.eval (.tmp 1) = .pointer (some ⟨u, 0, none⟩) := hr 1 (by decide)
                exact wp_pure (run_faT2 rfl ep) rfl
              refine Each.cons rfl (Keeps.const _) (StepOk.plain (g := (fun v _ => v = .slice (some ⟨b1, off1, none⟩) rows.length d)) rfl rfl rfl (fun a w hs hR hr pre => ?_)) ?_
              · have e83 : a.eval (.tmp 83) = .pointer (some ⟨u, 2, none⟩) := pre 2 (by decide)
                exact wp_pure (run_ldRs rfl e83 ((hR.cell (p := ⟨u, _, none⟩) hul).trans x2)) rfl
              refine Each.cons rfl (Keeps.const _) (StepOk.plain (g := (fun v _ => v = .int .i64 (j : Nat))) rfl rfl rfl (fun a w hs hR hr pre => ?_)) ?_
              · have ep : a.eval (.tmp 6) = .int .i64 (j : Nat) := hr 6 (by decide)
                exact wp_pure (run_move rfl) ep
              refine Each.cons rfl (Keeps.const _) (StepOk.plain (g := (fun v _ => v = .pointer (some ⟨b1, off1 + j, none⟩))) rfl rfl rfl (fun a w hs hR hr pre => ?_)) ?_
              · have e84 : a.eval (.tmp 84) = .slice (some ⟨b1, off1, none⟩) rows.length d := pre 3 (by decide)
                have e85 : a.eval (.tmp 85) = .int .i64 (j : Nat) := pre 4 (by decide)
                exact wp_pure (run_ixR rfl hlt e84 e85) rfl
              refine Each.cons rfl (Keeps.const _) (StepOk.plain (g := (fun v _ => v = .slice Ar r.length cr)) rfl rfl rfl (fun a w hs hR hr pre => ?_)) ?_
              · have e86 : a.eval (.tmp 86) = .pointer (some ⟨b1, off1 + j, none⟩) := pre 5 (by decide)
                exact wp_pure (run_ldRow rfl e86 ((hR.cell (p := ⟨b1, _, none⟩) hb1).trans y0)) rfl
              refine Each.cons rfl (Keeps.const _) (StepOk.plain (g := (fun v _ => v = .bool fq)) rfl rfl rfl (fun a w hs hR hr pre => ?_)) ?_
              · have e82 : a.eval (.tmp 82) = .slice A cols.length c := pre 1 (by decide)
                have e87 : a.eval (.tmp 87) = .slice Ar r.length cr := pre 6 (by decide)
                exact wp_fn (vs := #[.slice A cols.length c, .slice Ar r.length cr]) rfl Tryz.func23 (by kernel_rfl) (by kernel_rfl) (by simp only [List.map_toArray, List.map_cons, List.map_nil, e82, e87]) ((HFt.out w (bt (Below.drew (Below.refl _ _)) hR)).mono fun _ _ ⟨h1, h2⟩ => ⟨_, h1, h2, rfl⟩)
              refine Each.cons rfl (Keeps.const _) (StepOk.plain (g := (fun v _ => v = .bool n1)) rfl rfl rfl (fun a w hs hR hr pre => ?_)) ?_
              · have e88 : a.eval (.tmp 88) = .bool fq := pre 7 (by decide)
                exact wp_pure (run_not rfl e88) (by rw [HN1.out])
              refine Each.cons rfl (Keeps.const _) (StepOk.plain (g := (fun v _ => v = .bool n1)) rfl rfl rfl (fun a w hs hR hr pre => ?_)) ?_
              · have e89 : a.eval (.tmp 89) = .bool n1 := pre 8 (by decide)
                exact wp_pure (run_move rfl) e89
              refine Each.cons rfl (Cnd.keeps (Keeps.const _)) ?_ ?_
              · cases n1
                · refine StepOk.guarded 9 90 false (g := (Cnd (false = false) (fun v _ => v = .pointer (some ⟨u, 2, none⟩)))) rfl rfl rfl rfl (fun a w hs hR hr pre => ⟨pre 9 (by decide), ?_⟩)
                  refine Cnd.wp rfl ?_
                  have ep : a.eval (.tmp 1) = .pointer (some ⟨u, 0, none⟩) := hr 1 (by decide)
                  exact wp_pure (run_faT2 rfl ep) rfl
                · exact StepOk.idle 9 90 false (g := (Cnd (true = false) (fun v _ => v = .pointer (some ⟨u, 2, none⟩)))) rfl rfl rfl (fun a w hs hR hr pre => ⟨pre 9 (by decide), fun h => by cases h⟩)
              refine Each.cons rfl (Cnd.keeps (Keeps.const _)) ?_ ?_
              · cases n1
                · refine StepOk.guarded 9 90 false (g := (Cnd (false = false) (fun v _ => v = .slice (some ⟨b1, off1, none⟩) rows.length d))) rfl rfl rfl rfl (fun a w hs hR hr pre => ⟨pre 9 (by decide), ?_⟩)
                  refine Cnd.wp rfl ?_
                  have e91 : a.eval (.tmp 91) = .pointer (some ⟨u, 2, none⟩) := (show Cnd (false = false) (fun v _ => v = .pointer (some ⟨u, 2, none⟩)) (a.eval (.tmp 91)) w from pre 10 (by decide)) rfl
                  exact wp_pure (run_ldRs rfl e91 ((hR.cell (p := ⟨u, _, none⟩) hul).trans x2)) rfl
                · exact StepOk.idle 9 90 false (g := (Cnd (true = false) (fun v _ => v = .slice (some ⟨b1, off1, none⟩) rows.length d))) rfl rfl rfl (fun a w hs hR hr pre => ⟨pre 9 (by decide), fun h => by cases h⟩)
              refine Each.cons rfl (Cnd.keeps (Keeps.const _)) ?_ ?_
              · cases n1
                · refine StepOk.guarded 9 90 false (g := (Cnd (false = false) (fun v _ => v = .int .i64 (j : Nat)))) rfl rfl rfl rfl (fun a w hs hR hr pre => ⟨pre 9 (by decide), ?_⟩)
                  refine Cnd.wp rfl ?_
                  have ep : a.eval (.tmp 6) = .int .i64 (j : Nat) := hr 6 (by decide)
                  exact wp_pure (run_move rfl) ep
                · exact StepOk.idle 9 90 false (g := (Cnd (true = false) (fun v _ => v = .int .i64 (j : Nat)))) rfl rfl rfl (fun a w hs hR hr pre => ⟨pre 9 (by decide), fun h => by cases h⟩)
              refine Each.cons rfl (Cnd.keeps (Keeps.const _)) ?_ ?_
              · cases n1
                · refine StepOk.guarded 9 90 false (g := (Cnd (false = false) (fun v _ => v = .pointer (some ⟨b1, off1 + j, none⟩)))) rfl rfl rfl rfl (fun a w hs hR hr pre => ⟨pre 9 (by decide), ?_⟩)
                  refine Cnd.wp rfl ?_
                  have e92 : a.eval (.tmp 92) = .slice (some ⟨b1, off1, none⟩) rows.length d := (show Cnd (false = false) (fun v _ => v = .slice (some ⟨b1, off1, none⟩) rows.length d) (a.eval (.tmp 92)) w from pre 11 (by decide)) rfl
                  have e93 : a.eval (.tmp 93) = .int .i64 (j : Nat) := (show Cnd (false = false) (fun v _ => v = .int .i64 (j : Nat)) (a.eval (.tmp 93)) w from pre 12 (by decide)) rfl
                  exact wp_pure (run_ixR rfl hlt e92 e93) rfl
                · exact StepOk.idle 9 90 false (g := (Cnd (true = false) (fun v _ => v = .pointer (some ⟨b1, off1 + j, none⟩)))) rfl rfl rfl (fun a w hs hR hr pre => ⟨pre 9 (by decide), fun h => by cases h⟩)
              refine Each.cons rfl (Cnd.keeps (Keeps.const _)) ?_ ?_
              · cases n1
                · refine StepOk.guarded 9 90 false (g := (Cnd (false = false) (fun v _ => v = .slice Ar r.length cr))) rfl rfl rfl rfl (fun a w hs hR hr pre => ⟨pre 9 (by decide), ?_⟩)
                  refine Cnd.wp rfl ?_
                  have e94 : a.eval (.tmp 94) = .pointer (some ⟨b1, off1 + j, none⟩) := (show Cnd (false = false) (fun v _ => v = .pointer (some ⟨b1, off1 + j, none⟩)) (a.eval (.tmp 94)) w from pre 13 (by decide)) rfl
                  exact wp_pure (run_ldRow rfl e94 ((hR.cell (p := ⟨b1, _, none⟩) hb1).trans y0)) rfl
                · exact StepOk.idle 9 90 false (g := (Cnd (true = false) (fun v _ => v = .slice Ar r.length cr))) rfl rfl rfl (fun a w hs hR hr pre => ⟨pre 9 (by decide), fun h => by cases h⟩)
              refine Each.cons rfl (Cnd.keeps (Keeps.const _)) ?_ ?_
              · cases n1
                · refine StepOk.guarded 9 90 false (g := (Cnd (false = false) (fun v _ => v = .int .i64 mq))) rfl rfl rfl rfl (fun a w hs hR hr pre => ⟨pre 9 (by decide), ?_⟩)
                  refine Cnd.wp rfl ?_
                  have e95 : a.eval (.tmp 95) = .slice Ar r.length cr := (show Cnd (false = false) (fun v _ => v = .slice Ar r.length cr) (a.eval (.tmp 95)) w from pre 14 (by decide)) rfl
                  exact wp_fn (vs := #[.slice Ar r.length cr]) rfl Tryz.func38 (by kernel_rfl) (by kernel_rfl) (by simp only [List.map_toArray, List.map_cons, List.map_nil, e95]) ((HMy.out w (bt (Below.drew (Below.refl _ _)) hR)).mono fun _ _ ⟨h1, h2⟩ => ⟨_, h1, h2, rfl⟩)
                · exact StepOk.idle 9 90 false (g := (Cnd (true = false) (fun v _ => v = .int .i64 mq))) rfl rfl rfl (fun a w hs hR hr pre => ⟨pre 9 (by decide), fun h => by cases h⟩)
              refine Each.cons rfl (Cnd.keeps (Keeps.const _)) ?_ ?_
              · cases n1
                · refine StepOk.guarded 9 90 false (g := (Cnd (false = false) (fun v _ => v = .bool (mq != 0)))) rfl rfl rfl rfl (fun a w hs hR hr pre => ⟨pre 9 (by decide), ?_⟩)
                  refine Cnd.wp rfl ?_
                  have e96 : a.eval (.tmp 96) = .int .i64 mq := (show Cnd (false = false) (fun v _ => v = .int .i64 mq) (a.eval (.tmp 96)) w from pre 15 (by decide)) rfl
                  exact wp_pure (run_neI rfl e96 rfl) rfl
                · exact StepOk.idle 9 90 false (g := (Cnd (true = false) (fun v _ => v = .bool (mq != 0)))) rfl rfl rfl (fun a w hs hR hr pre => ⟨pre 9 (by decide), fun h => by cases h⟩)
              refine Each.cons rfl (Keeps.const _) (StepOk.plain (g := (fun v _ => v = .bool n2)) rfl rfl rfl (fun a w hs hR hr pre => ?_)) ?_
              · have e90 : a.eval (.tmp 90) = .bool n1 := pre 9 (by decide)
                have hc : Cnd (n1 = false) (fun v _ => v = .bool (mq != 0)) (a.eval (.tmp 97)) w := pre 16 (by decide)
                exact wp_pure (run_pick rfl n1 e90) (HN2.out _ _ rfl hc)
              exact Each.nil
            · intro v w1 hB hG
              have e17 : v 17 = .bool n2 := hG 17 (by decide)
              clear hG
              simp only [List.take_succ_cons, List.take_zero, puts, Act.put, List.setIfInBounds_toArray, List.set_cons_zero, List.set_cons_succ, Nat.reduceAdd, e17]
              have HB2 := Lib.hid (bt HW.out (bt (Below.drew (Below.refl _ _)) hB))
              have HB3 := Lib.hid (bt HW0.out (bt (Below.drew (Below.refl _ _)) hB))
              clear hB
              refine wpAny_done (by kernel_rfl) ?_ _
              cases n2
              · have HN9 := Lib.hid (HNo1.out rfl)
                go_wp2_with fail
                go_roundw
                case rel => exact ⟨j + 1, by omega, by go_num, HB2, HB3, HN9⟩
                case measure => simp [intOf]; omega
              · obtain rfl : false = q := HNo2.out rfl
                go_wp2_with fail
                go_ret
                exact ⟨rfl, HB2.out⟩
          · obtain rfl : true = q := by rw [← HQ.out, tabB_yes (t := ⟨nm, cols, rows⟩) HNn.out HG.out.1 HG.out.2.1 HG.out.2.2 HNc.out fun i hi => HNr.out i hi (by have h9 : i < rows.length := hi; omega)]
            go_wp2_with fail
            go_ret
            exact ⟨rfl, HW.out⟩
end Go.Proofs.YtmjckdgomlppeaaGreatDoor
end
section
namespace Go.Proofs.YtmjckdgomlppeaaGreatDoor
open Go.RowKit Go.Shelf
attribute [local go_sem] Oper.semAt_some

section
variable {o : Oper} {a : Act} {w : World}
theorem run_ixC {x y : Operand} (ho : o.op = .indexAddr 26 x y) {b off n c j : Nat} (hj : j < n) (hx : a.eval x = .slice (some ⟨b, off, none⟩) n c) (hy : a.eval y = .int .i64 (j : Nat)) : (execOp a.eval o).run Tryz.prog w = .ok (.value (.pointer (some ⟨b, off + j * 3, none⟩))) w := by
  have hjI : (j : Int) < (n : Int) := by omega
  have h : (Instr.indexAt 26 (.slice (some ⟨b, off, none⟩) n c) (.int .i64 (j : Nat))).run Tryz.prog w = .ok (.pointer (some ⟨b, off + j * 3, none⟩)) w := by go_simp
  unfold execOp
  simp only [ho, hx, hy]
  rw [Sem.run_bind, h]
  rfl
theorem run_faD1 {x : Operand} (ho : o.op = .fieldAddr 57 x 1) {u k : Nat} (hx : a.eval x = .pointer (some ⟨u, k, none⟩)) : (execOp a.eval o).run Tryz.prog w = .ok (.value (.pointer (some ⟨u, k + 1, none⟩))) w := by
  have h : (Instr.fieldAt 57 (.pointer (some ⟨u, k, none⟩)) 1).run Tryz.prog w = .ok (.pointer (some ⟨u, k + 1, none⟩)) w := by go_simp
  unfold execOp
  simp only [ho, hx]
  rw [Sem.run_bind, h]
  rfl
theorem run_faD2 {x : Operand} (ho : o.op = .fieldAddr 57 x 2) {u k : Nat} (hx : a.eval x = .pointer (some ⟨u, k, none⟩)) : (execOp a.eval o).run Tryz.prog w = .ok (.value (.pointer (some ⟨u, k + 2, none⟩))) w := by
  have h : (Instr.fieldAt 57 (.pointer (some ⟨u, k, none⟩)) 2).run Tryz.prog w = .ok (.pointer (some ⟨u, k + 2, none⟩)) w := by go_simp
  unfold execOp
  simp only [ho, hx]
  rw [Sem.run_bind, h]
  rfl
theorem wp_assign {P : Program} {K : Act → World → Prop} {Q : Exit → Act → World → Prop} (x : Operand) (ho : o.op = .assign x) {v : Value} (hx : a.eval x = v) (h : K (a.put o.dst v) w) : o.wp P a w K Q := by
  unfold Oper.wp execOp
  simp only [ho, hx]
  go_simp
  exact h
end
theorem join_first (l : List (List UInt8)) (sep : List UInt8) {y : List UInt8} (h : l[0]? = some y) : Lib.join (l.take 1) sep = y := by
  cases l with
  | nil => simp at h
  | cons x r => simp only [List.getElem?_cons_zero, Option.some.injEq] at h; subst h; exact (congrArg (fun z => Lib.join z sep) (show (x :: r).take 1 = [x] from rfl)).trans (Lib.join_one x sep)
theorem join_next (l : List (List UInt8)) (sep : List UInt8) {j : Nat} {y : List UInt8} (hj : 0 < j) (h : l[j]? = some y) : Lib.join (l.take (j + 1)) sep = Lib.join (l.take j) sep ++ sep ++ y := by
  cases l with
  | nil => simp at h
  | cons x r =>
    obtain ⟨k, rfl⟩ : ∃ k, j = k + 1 := ⟨j - 1, by omega⟩
    rw [List.getElem?_cons_succ] at h
    rw [List.take_succ_cons, List.take_succ_cons, Lib.join_cons, Lib.join_cons, Lib.joinTail_take_succ sep r k y h]
    simp [List.append_assoc]
theorem join_take_le (l : List (List UInt8)) (sep : List UInt8) (j : Nat) : (Lib.join (l.take j) sep).length ≤ (Lib.join l sep).length := by
  cases l with
  | nil => simp
  | cons x r =>
    cases j with
    | zero => simp [Lib.join_nil]
    | succ k =>
      have := Lib.joinTail_take_le sep r k
      rw [List.take_succ_cons, Lib.join_cons, Lib.join_cons, List.length_append, List.length_append]
      omega
theorem bsz (b : ByteArray) : b.size = b.data.toList.length := (Array.length_toList (xs := b.data)).symm
/-- What the loop has put together after j columns. -/
def shoJ (nm : ByteArray) (cols : List Co) (j : Nat) : List UInt8 := nm.data.toList ++ [40] ++ Lib.join ((cols.map fun c => (colS c).data.toList).take j) [44, 32]
theorem shoJ_len (nm : ByteArray) (cols : List Co) (j : Nat) : (shoJ nm cols j).length ≤ nm.size + 1 + (Lib.join (cols.map fun c => (colS c).data.toList) [44, 32]).length := by
  have := join_take_le (cols.map fun c => (colS c).data.toList) [44, 32] j
  unfold shoJ
  rw [bsz]
  simp only [List.length_append, List.length_cons, List.length_nil]
  omega
theorem shoJ_first (nm : ByteArray) (cols : List Co) (h : 0 < cols.length) : shoJ nm cols 1 = shoJ nm cols 0 ++ (colS cols[0]).data.toList := by
  unfold shoJ
  rw [join_first (y := (colS cols[0]).data.toList) _ _ (by rw [List.getElem?_map, List.getElem?_eq_getElem h]; rfl), List.take_zero, Lib.join_nil, List.append_nil]
theorem shoJ_next (nm : ByteArray) (cols : List Co) {j : Nat} (hj : 0 < j) (h : j < cols.length) : shoJ nm cols (j + 1) = (shoJ nm cols j ++ [44, 32]) ++ (colS cols[j]).data.toList := by
  unfold shoJ
  rw [join_next (y := (colS cols[j]).data.toList) _ _ hj (by rw [List.getElem?_map, List.getElem?_eq_getElem h]; rfl)]
  simp [List.append_assoc]
set_option maxRecDepth 100000 in
set_option maxHeartbeats 4000000 in
theorem rshow13_any (t : Ta) (A B : Option Addr) (c d : Nat) (wz : World) (h : TaOk wz t A c B d) (hl : t.cols.length ≤ 65536) (hn : t.nm.size ≤ 140737488355328) (hs : ∀ x ∈ t.cols, x.nm.size ≤ 140737488355328) (hlen : (Lib.join (t.cols.map fun c => (colS c).data.toList) [44, 32]).length ≤ 140737488355328) :
    Calls Tryz.prog 21 #[TV t.nm A t.cols.length c B t.rows.length d] wz fun e w' => ∃ s, e = .returned (.string s) ∧ s.data.toList = shoT t ∧ Below wz.heap.size wz w' := by
  have hba := ba wz (tbox t.nm A t.cols.length c B t.rows.length d)
  have HBx := Lib.hid (MapKept.heap_alloc wz (tbox t.nm A t.cols.length c B t.rows.length d)).1
  have HC := Lib.hid (h.co.kept hba)
  have HB := Lib.hid hba
  have HL := Lib.hid hl
  have HSn := Lib.hid hn
  have HSc := Lib.hid hs
  have HLn := Lib.hid hlen
  obtain ⟨nm, cols, rows⟩ := t
  simp only at HBx HC HB HL HSn HSc HLn ⊢
  clear hba h hl hn hs hlen
  go_enter Tryz.func21, Tryz.ntmps21
  go_upto_region 1 with fail
  obtain ⟨u, hu⟩ : ∃ u, wz.heap.size = u := ⟨_, rfl⟩
  generalize wz.alloc (.cells #[.string nm, .slice A cols.length c, .slice B rows.length d] 29) = W0 at HBx HC HB ⊢
  rw [hu] at HBx
  try rw [hu]
  have HUz := Lib.hid hu
  clear hu
  obtain ⟨x0, x1, x2⟩ := cell3 HBx.out
  have hul := (Array.getElem?_eq_some_iff.1 HBx.out).1
  have HBW : Hid (Below W0.heap.size W0 W0) := Lib.hid (Below.refl _ _)
  refine wp_region_seq (ds := [some 5, some 6, some 7, some 3]) (need := [[], [0], [1], [0, 1, 2]]) (R := Bel) (Gs := [
      (fun v _ => v = .pointer (some ⟨u, 0, none⟩)),
      (fun v _ => v = .string nm),
      (fun v _ => v = .string (nm ++ ⟨#[40]⟩)),
      (fun v _ => v = .string (nm ++ ⟨#[40]⟩))])
    (by kernel_rfl) (by kernel_rfl) (by kernel_rfl) (fun x => Below.refl _ x) (fun _ _ _ h k => bt h k) ?_ ?_
  · refine Each.cons rfl (Keeps.const _) (StepOk.plain (g := (fun v _ => v = .pointer (some ⟨u, 0, none⟩))) rfl rfl rfl (fun a w hs hR hr pre => ?_)) ?_
    · have ep : a.eval (.tmp 1) = .pointer (some ⟨u, 0, none⟩) := hr 1 (by decide)
      exact wp_pure (run_faTa0 rfl ep) rfl
    refine Each.cons rfl (Keeps.const _) (StepOk.plain (g := (fun v _ => v = .string nm)) rfl rfl rfl (fun a w hs hR hr pre => ?_)) ?_
    · have e5 : a.eval (.tmp 5) = .pointer (some ⟨u, 0, none⟩) := pre 0 (by decide)
      exact wp_pure (run_ldStr rfl e5 ((hR.cell (p := ⟨u, _, none⟩) hul).trans x0)) rfl
    refine Each.cons rfl (Keeps.const _) (StepOk.plain (g := (fun v _ => v = .string (nm ++ ⟨#[40]⟩))) rfl rfl rfl (fun a w hs hR hr pre => ?_)) ?_
    · have e6 : a.eval (.tmp 6) = .string nm := pre 1 (by decide)
      exact wp_pure (run_cat rfl e6 rfl (by have := HSn.out; have h1 : ByteArray.size ⟨#[40]⟩ = 1 := rfl; omega)) rfl
    refine Each.cons rfl (Keeps.const _) (StepOk.plain (g := (fun v _ => v = .string (nm ++ ⟨#[40]⟩))) rfl rfl rfl (fun a w hs hR hr pre => ?_)) ?_
    · have e7 : a.eval (.tmp 7) = .string (nm ++ ⟨#[40]⟩) := pre 2 (by decide)
      exact wp_pure (run_assign rfl) e7
    exact Each.nil
  · intro v w1 hB hG
    have e3 : v 3 = .string (nm ++ ⟨#[40]⟩) := hG 3 (by decide)
    clear hG
    simp only [puts, Act.put, List.setIfInBounds_toArray, List.set_cons_zero, List.set_cons_succ, Nat.reduceAdd, e3]
    replace HB := Lib.hid (bt HB.out hB)
    replace HBW := Lib.hid (bt HBW.out hB)
    clear hB
    have H0 := Lib.hid (show (nm ++ ⟨#[40]⟩ : ByteArray).data.toList = shoJ nm cols 0 by simp [shoJ, Lib.join_nil])
    have hx := (HBW.out.block u hul).trans HBx.out
    generalize nm ++ (⟨#[40]⟩ : ByteArray) = b0 at H0 ⊢
    clear x0 x1 x2 hul e3
    have hul : u < w1.heap.size := (Array.getElem?_eq_some_iff.1 hx).1
    obtain ⟨x0, x1, x2⟩ := cell3 hx
    have hl64 := HL.out
    clear hx
    go_wp2_with fail
    clear x0 x1 x2
    go_loopw [3, 4] (fun s i wr => ∃ (j : Nat) (b : ByteArray), j ≤ cols.length ∧ s = .string b ∧ i = .int .i64 j ∧ Hid (b.data.toList = shoJ nm cols j) ∧ Hid (Below wz.heap.size wz wr) ∧ Hid (Below W0.heap.size W0 wr)) (fun _ i _ => cols.length - (intOf i).toNat)
    case atStart => exact ⟨0, b0, Nat.zero_le _, rfl, by simp, H0, HB, HBW⟩
    case round =>
      obtain ⟨j, b, hj, rfl, rfl, HCt, HW, HW0⟩ := hrel
      have HSz := Lib.hid (show b.size ≤ 281474976710657 by
        have := shoJ_len nm cols j
        have := HSn.out
        have := HLn.out
        rw [bsz, HCt.out]; omega)
      have hx := (HW0.out.block u (Array.getElem?_eq_some_iff.1 HBx.out).1).trans HBx.out
      have hur : u < wr.heap.size := (Array.getElem?_eq_some_iff.1 hx).1
      obtain ⟨x0, x1, x2⟩ := cell3 hx
      by_cases hlt : j < cols.length
      · obtain ⟨b1, off1, rfl, hb1, c0, c1, c2⟩ := (HC.out.kept HW0.out).at hlt
        have HSx := Lib.hid (HSc.out cols[j] (List.getElem_mem hlt))
        have HF := Lib.hid (fun h0 : j = 0 => show shoJ nm cols (j + 1) = shoJ nm cols j ++ (colS cols[j]).data.toList by subst h0; exact shoJ_first nm cols hlt)
        have HG := Lib.hid (fun h0 : 0 < j => shoJ_next nm cols h0 hlt)
        generalize cols[j] = x at c0 c1 c2 HSx HF HG
        obtain ⟨xt, xn, xy⟩ := x
        simp only at c0 c1 c2 HSx
        by_cases h0 : j = 0
        · have HN := Lib.hid (show (b ++ colS ⟨xt, xn, xy⟩).data.toList = shoJ nm cols (j + 1) by rw [HF.out h0, ← HCt.out]; simp)
          have hjI : ¬ (j : Int) > 0 := by omega
          clear c0 hx
          go_upto_region 7 with fail
          refine wp_region_inv (n := 17) (ds := [some 19, some 20, some 21, some 22, some 23, some 24, some 25, some 26, some 27, some 28, some 29, some 30, some 31, some 32, some 33, some 34, some 35, some 3]) (need := [[], [], [1], [], [2, 3], [4], [5], [0, 6], [7], [], [9], [], [10, 11], [12], [13], [14], [8, 15], [0, 1, 2, 3, 4, 5, 6, 7, 8, 9, 10, 11, 12, 13, 14, 15, 16]]) (R := Bel) (Gs := [
              (fun v _ => v = .string b),
              (fun v _ => v = .pointer (some ⟨u, 1, none⟩)),
              (fun v _ => v = .slice (some ⟨b1, off1, none⟩) cols.length c),
              (fun v _ => v = .int .i64 (j : Nat)),
              (fun v _ => v = .pointer (some ⟨b1, off1 + j * 3, none⟩)),
              (fun v _ => v = .pointer (some ⟨b1, off1 + j * 3 + 1, none⟩)),
              (fun v _ => v = .string xn),
              (fun v _ => v = .string (b ++ xn)),
              (fun v _ => v = .string ((b ++ xn) ++ ⟨#[32]⟩)),
              (fun v _ => v = .pointer (some ⟨u, 1, none⟩)),
              (fun v _ => v = .slice (some ⟨b1, off1, none⟩) cols.length c),
              (fun v _ => v = .int .i64 (j : Nat)),
              (fun v _ => v = .pointer (some ⟨b1, off1 + j * 3, none⟩)),
              (fun v _ => v = .pointer (some ⟨b1, off1 + j * 3 + 2, none⟩)),
              (fun v _ => v = .int .i64 xy),
              (fun v _ => v = strL (typW xy)),
              (fun v _ => v = .string (((b ++ xn) ++ ⟨#[32]⟩) ++ ⟨(typW xy).toArray⟩))])
            (by kernel_rfl) (by kernel_rfl) (by decide) (by kernel_rfl) (by kernel_rfl) (by kernel_rfl) (fun x => Below.refl _ x) (fun _ _ _ h k => bt h k) ?_ ?_
          · refine Each.cons rfl (Keeps.const _) (StepOk.plain (g := (fun v _ => v = .string b)) rfl rfl rfl (fun a w hs hR hr pre => ?_)) ?_
            · have ep : a.eval (.tmp 3) = .string b := hr 3 (by decide)
              exact wp_pure (run_move rfl) ep
            refine Each.cons rfl (Keeps.const _) (StepOk.plain (g := (fun v _ => v = .pointer (some ⟨u, 1, none⟩))) rfl rfl rfl (fun a w hs hR hr pre => ?_)) ?_
            · have ep : a.eval (.tmp 1) = .pointer (some ⟨u, 0, none⟩) := hr 1 (by decide)
              exact wp_pure (run_faT1 rfl ep) rfl
            refine Each.cons rfl (Keeps.const _) (StepOk.plain (g := (fun v _ => v = .slice (some ⟨b1, off1, none⟩) cols.length c)) rfl rfl rfl (fun a w hs hR hr pre => ?_)) ?_
            · have e20 : a.eval (.tmp 20) = .pointer (some ⟨u, 1, none⟩) := pre 1 (by decide)
              exact wp_pure (run_ldCs rfl e20 ((hR.cell (p := ⟨u, _, none⟩) hur).trans x1)) rfl
            refine Each.cons rfl (Keeps.const _) (StepOk.plain (g := (fun v _ => v = .int .i64 (j : Nat))) rfl rfl rfl (fun a w hs hR hr pre => ?_)) ?_
            · have ep : a.eval (.tmp 4) = .int .i64 (j : Nat) := hr 4 (by decide)
              exact wp_pure (run_move rfl) ep
            refine Each.cons rfl (Keeps.const _) (StepOk.plain (g := (fun v _ => v = .pointer (some ⟨b1, off1 + j * 3, none⟩))) rfl rfl rfl (fun a w hs hR hr pre => ?_)) ?_
            · have e21 : a.eval (.tmp 21) = .slice (some ⟨b1, off1, none⟩) cols.length c := pre 2 (by decide)
              have e22 : a.eval (.tmp 22) = .int .i64 (j : Nat) := pre 3 (by decide)
              exact wp_pure (run_ixC rfl hlt e21 e22) rfl
            refine Each.cons rfl (Keeps.const _) (StepOk.plain (g := (fun v _ => v = .pointer (some ⟨b1, off1 + j * 3 + 1, none⟩))) rfl rfl rfl (fun a w hs hR hr pre => ?_)) ?_
            · have e23 : a.eval (.tmp 23) = .pointer (some ⟨b1, off1 + j * 3, none⟩) := pre 4 (by decide)
              exact wp_pure (run_faD1 rfl e23) rfl
            refine Each.cons rfl (Keeps.const _) (StepOk.plain (g := (fun v _ => v = .string xn)) rfl rfl rfl (fun a w hs hR hr pre => ?_)) ?_
            · have e24 : a.eval (.tmp 24) = .pointer (some ⟨b1, off1 + j * 3 + 1, none⟩) := pre 5 (by decide)
              exact wp_pure (run_ldStr rfl e24 ((hR.cell (p := ⟨b1, _, none⟩) hb1).trans c1)) rfl
            refine Each.cons rfl (Keeps.const _) (StepOk.plain (g := (fun v _ => v = .string (b ++ xn))) rfl rfl rfl (fun a w hs hR hr pre => ?_)) ?_
            · have e19 : a.eval (.tmp 19) = .string b := pre 0 (by decide)
              have e25 : a.eval (.tmp 25) = .string xn := pre 6 (by decide)
              exact wp_pure (run_cat rfl e19 e25 (by have := HSz.out; have := HSx.out; have h1 : ByteArray.size ⟨#[32]⟩ = 1 := rfl; have h2 := typW_size xy; omega)) rfl
            refine Each.cons rfl (Keeps.const _) (StepOk.plain (g := (fun v _ => v = .string ((b ++ xn) ++ ⟨#[32]⟩))) rfl rfl rfl (fun a w hs hR hr pre => ?_)) ?_
            · have e26 : a.eval (.tmp 26) = .string (b ++ xn) := pre 7 (by decide)
              exact wp_pure (run_cat rfl e26 rfl (by have := HSz.out; have := HSx.out; have h1 : ByteArray.size ⟨#[32]⟩ = 1 := rfl; have h2 := typW_size xy; rw [ByteArray.size_append]; omega)) rfl
            refine Each.cons rfl (Keeps.const _) (StepOk.plain (g := (fun v _ => v = .pointer (some ⟨u, 1, none⟩))) rfl rfl rfl (fun a w hs hR hr pre => ?_)) ?_
            · have ep : a.eval (.tmp 1) = .pointer (some ⟨u, 0, none⟩) := hr 1 (by decide)
              exact wp_pure (run_faT1 rfl ep) rfl
            refine Each.cons rfl (Keeps.const _) (StepOk.plain (g := (fun v _ => v = .slice (some ⟨b1, off1, none⟩) cols.length c)) rfl rfl rfl (fun a w hs hR hr pre => ?_)) ?_
            · have e28 : a.eval (.tmp 28) = .pointer (some ⟨u, 1, none⟩) := pre 9 (by decide)
              exact wp_pure (run_ldCs rfl e28 ((hR.cell (p := ⟨u, _, none⟩) hur).trans x1)) rfl
            refine Each.cons rfl (Keeps.const _) (StepOk.plain (g := (fun v _ => v = .int .i64 (j : Nat))) rfl rfl rfl (fun a w hs hR hr pre => ?_)) ?_
            · have ep : a.eval (.tmp 4) = .int .i64 (j : Nat) := hr 4 (by decide)
              exact wp_pure (run_move rfl) ep
            refine Each.cons rfl (Keeps.const _) (StepOk.plain (g := (fun v _ => v = .pointer (some ⟨b1, off1 + j * 3, none⟩))) rfl rfl rfl (fun a w hs hR hr pre => ?_)) ?_
            · have e29 : a.eval (.tmp 29) = .slice (some ⟨b1, off1, none⟩) cols.length c := pre 10 (by decide)
              have e30 : a.eval (.tmp 30) = .int .i64 (j : Nat) := pre 11 (by decide)
              exact wp_pure (run_ixC rfl hlt e29 e30) rfl
            refine Each.cons rfl (Keeps.const _) (StepOk.plain (g := (fun v _ => v = .pointer (some ⟨b1, off1 + j * 3 + 2, none⟩))) rfl rfl rfl (fun a w hs hR hr pre => ?_)) ?_
            · have e31 : a.eval (.tmp 31) = .pointer (some ⟨b1, off1 + j * 3, none⟩) := pre 12 (by decide)
              exact wp_pure (run_faD2 rfl e31) rfl
            refine Each.cons rfl (Keeps.const _) (StepOk.plain (g := (fun v _ => v = .int .i64 xy)) rfl rfl rfl (fun a w hs hR hr pre => ?_)) ?_
            · have e32 : a.eval (.tmp 32) = .pointer (some ⟨b1, off1 + j * 3 + 2, none⟩) := pre 13 (by decide)
              exact wp_pure (run_ldInt rfl e32 ((hR.cell (p := ⟨b1, _, none⟩) hb1).trans c2)) rfl
            refine Each.cons rfl (Keeps.const _) (StepOk.plain (g := (fun v _ => v = strL (typW xy))) rfl rfl rfl (fun a w hs hR hr pre => ?_)) ?_
            · have e33 : a.eval (.tmp 33) = .int .i64 xy := pre 14 (by decide)
              exact wp_fn (vs := #[.int .i64 xy]) rfl Tryz.func42 (by kernel_rfl) (by kernel_rfl) (by simp only [List.map_toArray, List.map_cons, List.map_nil, e33]) ((rtype13_any xy w rfl).mono fun _ _ ⟨h1, h2⟩ => ⟨_, h1, by rw [h2]; exact Below.refl _ _, rfl⟩)
            refine Each.cons rfl (Keeps.const _) (StepOk.plain (g := (fun v _ => v = .string (((b ++ xn) ++ ⟨#[32]⟩) ++ ⟨(typW xy).toArray⟩))) rfl rfl rfl (fun a w hs hR hr pre => ?_)) ?_
            · have e27 : a.eval (.tmp 27) = .string ((b ++ xn) ++ ⟨#[32]⟩) := pre 8 (by decide)
              have e34 : a.eval (.tmp 34) = strL (typW xy) := pre 15 (by decide)
              exact wp_pure (run_cat rfl e27 e34 (by have := HSz.out; have := HSx.out; have h1 : ByteArray.size ⟨#[32]⟩ = 1 := rfl; have h2 := typW_size xy; rw [ByteArray.size_append, ByteArray.size_append]; omega)) rfl
            exact Each.nil
          · intro v w1 hB hG
            have e16 : v 16 = .string (((b ++ xn) ++ ⟨#[32]⟩) ++ ⟨(typW xy).toArray⟩) := hG 16 (by decide)
            clear hG
            simp only [List.take_succ_cons, List.take_zero, puts, Act.put, List.setIfInBounds_toArray, List.set_cons_zero, List.set_cons_succ, Nat.reduceAdd, e16]
            have HN2 := Lib.hid (show ((((b ++ xn) ++ ⟨#[32]⟩) ++ ⟨(typW xy).toArray⟩ : ByteArray)).data.toList = shoJ nm cols (j + 1) by rw [← HN.out]; simp [colS])
            generalize (((b ++ xn) ++ ⟨#[32]⟩) ++ ⟨(typW xy).toArray⟩ : ByteArray) = b9 at HN2 ⊢
            have HB2 := Lib.hid (bt HW.out (bt (Below.drew (Below.refl _ _)) hB))
            have HB3 := Lib.hid (bt HW0.out (bt (Below.drew (Below.refl _ _)) hB))
            clear hB e16
            refine wpAny_next (i := 17) (fuel := 0) (by kernel_rfl) rfl rfl ?_
            refine wp_assign (v := .string b9) (.tmp 35) rfl rfl ?_
            refine wpAny_done (by kernel_rfl) ?_ _
            go_wp2_with fail
            go_roundw
            case rel => exact ⟨j + 1, b9, by omega, rfl, by go_num, HN2, HB2, HB3⟩
            case measure => simp [intOf]; omega
        · have HN := Lib.hid (show ((b ++ ⟨#[44, 32]⟩) ++ colS ⟨xt, xn, xy⟩).data.toList = shoJ nm cols (j + 1) by rw [HG.out (by omega), ← HCt.out]; simp)
          have hjI : (j : Int) > 0 := by omega
          clear c0 hx
          have hbz : ¬ (b.size + 2 > 9223372036854775807) := by have := HSz.out; omega
          have HSz2 := Lib.hid (show (b ++ (⟨#[44, 32]⟩ : ByteArray)).size ≤ 281474976710659 by
            have := HSz.out
            have h2 : ByteArray.size ⟨#[44, 32]⟩ = 2 := rfl
            rw [ByteArray.size_append]; omega)
          go_upto_region 7 with fail
          generalize b ++ (⟨#[44, 32]⟩ : ByteArray) = b2 at HN HSz2 ⊢
          clear hbz
          refine wp_region_inv (n := 17) (ds := [some 19, some 20, some 21, some 22, some 23, some 24, some 25, some 26, some 27, some 28, some 29, some 30, some 31, some 32, some 33, some 34, some 35, some 3]) (need := [[], [], [1], [], [2, 3], [4], [5], [0, 6], [7], [], [9], [], [10, 11], [12], [13], [14], [8, 15], [0, 1, 2, 3, 4, 5, 6, 7, 8, 9, 10, 11, 12, 13, 14, 15, 16]]) (R := Bel) (Gs := [
              (fun v _ => v = .string b2),
              (fun v _ => v = .pointer (some ⟨u, 1, none⟩)),
              (fun v _ => v = .slice (some ⟨b1, off1, none⟩) cols.length c),
              (fun v _ => v = .int .i64 (j : Nat)),
              (fun v _ => v = .pointer (some ⟨b1, off1 + j * 3, none⟩)),
              (fun v _ => v = .pointer (some ⟨b1, off1 + j * 3 + 1, none⟩)),
              (fun v _ => v = .string xn),
              (fun v _ => v = .string (b2 ++ xn)),
              (fun v _ => v = .string ((b2 ++ xn) ++ ⟨#[32]⟩)),
              (fun v _ => v = .pointer (some ⟨u, 1, none⟩)),
              (fun v _ => v = .slice (some ⟨b1, off1, none⟩) cols.length c),
              (fun v _ => v = .int .i64 (j : Nat)),
              (fun v _ => v = .pointer (some ⟨b1, off1 + j * 3, none⟩)),
              (fun v _ => v = .pointer (some ⟨b1, off1 + j * 3 + 2, none⟩)),
              (fun v _ => v = .int .i64 xy),
              (fun v _ => v = strL (typW xy)),
              (fun v _ => v = .string (((b2 ++ xn) ++ ⟨#[32]⟩) ++ ⟨(typW xy).toArray⟩))])
            (by kernel_rfl) (by kernel_rfl) (by decide) (by kernel_rfl) (by kernel_rfl) (by kernel_rfl) (fun x => Below.refl _ x) (fun _ _ _ h k => bt h k) ?_ ?_
          · refine Each.cons rfl (Keeps.const _) (StepOk.plain (g := (fun v _ => v = .string b2)) rfl rfl rfl (fun a w hs hR hr pre => ?_)) ?_
            · have ep : a.eval (.tmp 3) = .string b2 := hr 3 (by decide)
              exact wp_pure (run_move rfl) ep
            refine Each.cons rfl (Keeps.const _) (StepOk.plain (g := (fun v _ => v = .pointer (some ⟨u, 1, none⟩))) rfl rfl rfl (fun a w hs hR hr pre => ?_)) ?_
            · have ep : a.eval (.tmp 1) = .pointer (some ⟨u, 0, none⟩) := hr 1 (by decide)
              exact wp_pure (run_faT1 rfl ep) rfl
            refine Each.cons rfl (Keeps.const _) (StepOk.plain (g := (fun v _ => v = .slice (some ⟨b1, off1, none⟩) cols.length c)) rfl rfl rfl (fun a w hs hR hr pre => ?_)) ?_
            · have e20 : a.eval (.tmp 20) = .pointer (some ⟨u, 1, none⟩) := pre 1 (by decide)
              exact wp_pure (run_ldCs rfl e20 ((hR.cell (p := ⟨u, _, none⟩) hur).trans x1)) rfl
            refine Each.cons rfl (Keeps.const _) (StepOk.plain (g := (fun v _ => v = .int .i64 (j : Nat))) rfl rfl rfl (fun a w hs hR hr pre => ?_)) ?_
            · have ep : a.eval (.tmp 4) = .int .i64 (j : Nat) := hr 4 (by decide)
              exact wp_pure (run_move rfl) ep
            refine Each.cons rfl (Keeps.const _) (StepOk.plain (g := (fun v _ => v = .pointer (some ⟨b1, off1 + j * 3, none⟩))) rfl rfl rfl (fun a w hs hR hr pre => ?_)) ?_
            · have e21 : a.eval (.tmp 21) = .slice (some ⟨b1, off1, none⟩) cols.length c := pre 2 (by decide)
              have e22 : a.eval (.tmp 22) = .int .i64 (j : Nat) := pre 3 (by decide)
              exact wp_pure (run_ixC rfl hlt e21 e22) rfl
            refine Each.cons rfl (Keeps.const _) (StepOk.plain (g := (fun v _ => v = .pointer (some ⟨b1, off1 + j * 3 + 1, none⟩))) rfl rfl rfl (fun a w hs hR hr pre => ?_)) ?_
            · have e23 : a.eval (.tmp 23) = .pointer (some ⟨b1, off1 + j * 3, none⟩) := pre 4 (by decide)
              exact wp_pure (run_faD1 rfl e23) rfl
            refine Each.cons rfl (Keeps.const _) (StepOk.plain (g := (fun v _ => v = .string xn)) rfl rfl rfl (fun a w hs hR hr pre => ?_)) ?_
            · have e24 : a.eval (.tmp 24) = .pointer (some ⟨b1, off1 + j * 3 + 1, none⟩) := pre 5 (by decide)
              exact wp_pure (run_ldStr rfl e24 ((hR.cell (p := ⟨b1, _, none⟩) hb1).trans c1)) rfl
            refine Each.cons rfl (Keeps.const _) (StepOk.plain (g := (fun v _ => v = .string (b2 ++ xn))) rfl rfl rfl (fun a w hs hR hr pre => ?_)) ?_
            · have e19 : a.eval (.tmp 19) = .string b2 := pre 0 (by decide)
              have e25 : a.eval (.tmp 25) = .string xn := pre 6 (by decide)
              exact wp_pure (run_cat rfl e19 e25 (by have := HSz2.out; have := HSx.out; have h1 : ByteArray.size ⟨#[32]⟩ = 1 := rfl; have h2 := typW_size xy; omega)) rfl
            refine Each.cons rfl (Keeps.const _) (StepOk.plain (g := (fun v _ => v = .string ((b2 ++ xn) ++ ⟨#[32]⟩))) rfl rfl rfl (fun a w hs hR hr pre => ?_)) ?_
            · have e26 : a.eval (.tmp 26) = .string (b2 ++ xn) := pre 7 (by decide)
              exact wp_pure (run_cat rfl e26 rfl (by have := HSz2.out; have := HSx.out; have h1 : ByteArray.size ⟨#[32]⟩ = 1 := rfl; have h2 := typW_size xy; rw [ByteArray.size_append]; omega)) rfl
            refine Each.cons rfl (Keeps.const _) (StepOk.plain (g := (fun v _ => v = .pointer (some ⟨u, 1, none⟩))) rfl rfl rfl (fun a w hs hR hr pre => ?_)) ?_
            · have ep : a.eval (.tmp 1) = .pointer (some ⟨u, 0, none⟩) := hr 1 (by decide)
              exact wp_pure (run_faT1 rfl ep) rfl
            refine Each.cons rfl (Keeps.const _) (StepOk.plain (g := (fun v _ => v = .slice (some ⟨b1, off1, none⟩) cols.length c)) rfl rfl rfl (fun a w hs hR hr pre => ?_)) ?_
            · have e28 : a.eval (.tmp 28) = .pointer (some ⟨u, 1, none⟩) := pre 9 (by decide)
              exact wp_pure (run_ldCs rfl e28 ((hR.cell (p := ⟨u, _, none⟩) hur).trans x1)) rfl
            refine Each.cons rfl (Keeps.const _) (StepOk.plain (g := (fun v _ => v = .int .i64 (j : Nat))) rfl rfl rfl (fun a w hs hR hr pre => ?_)) ?_
            · have ep : a.eval (.tmp 4) = .int .i64 (j : Nat) := hr 4 (by decide)
              exact wp_pure (run_move rfl) ep
            refine Each.cons rfl (Keeps.const _) (StepOk.plain (g := (fun v _ => v = .pointer (some ⟨b1, off1 + j * 3, none⟩))) rfl rfl rfl (fun a w hs hR hr pre => ?_)) ?_
            · have e29 : a.eval (.tmp 29) = .slice (some ⟨b1, off1, none⟩) cols.length c := pre 10 (by decide)
              have e30 : a.eval (.tmp 30) = .int .i64 (j : Nat) := pre 11 (by decide)
              exact wp_pure (run_ixC rfl hlt e29 e30) rfl
            refine Each.cons rfl (Keeps.const _) (StepOk.plain (g := (fun v _ => v = .pointer (some ⟨b1, off1 + j * 3 + 2, none⟩))) rfl rfl rfl (fun a w hs hR hr pre => ?_)) ?_
            · have e31 : a.eval (.tmp 31) = .pointer (some ⟨b1, off1 + j * 3, none⟩) := pre 12 (by decide)
              exact wp_pure (run_faD2 rfl e31) rfl
            refine Each.cons rfl (Keeps.const _) (StepOk.plain (g := (fun v _ => v = .int .i64 xy)) rfl rfl rfl (fun a w hs hR hr pre => ?_)) ?_
            · have e32 : a.eval (.tmp 32) = .pointer (some ⟨b1, off1 + j * 3 + 2, none⟩) := pre 13 (by decide)
              exact wp_pure (run_ldInt rfl e32 ((hR.cell (p := ⟨b1, _, none⟩) hb1).trans c2)) rfl
            refine Each.cons rfl (Keeps.const _) (StepOk.plain (g := (fun v _ => v = strL (typW xy))) rfl rfl rfl (fun a w hs hR hr pre => ?_)) ?_
            · have e33 : a.eval (.tmp 33) = .int .i64 xy := pre 14 (by decide)
              exact wp_fn (vs := #[.int .i64 xy]) rfl Tryz.func42 (by kernel_rfl) (by kernel_rfl) (by simp only [List.map_toArray, List.map_cons, List.map_nil, e33]) ((rtype13_any xy w rfl).mono fun _ _ ⟨h1, h2⟩ => ⟨_, h1, by rw [h2]; exact Below.refl _ _, rfl⟩)
            refine Each.cons rfl (Keeps.const _) (StepOk.plain (g := (fun v _ => v = .string (((b2 ++ xn) ++ ⟨#[32]⟩) ++ ⟨(typW xy).toArray⟩))) rfl rfl rfl (fun a w hs hR hr pre => ?_)) ?_
            · have e27 : a.eval (.tmp 27) = .string ((b2 ++ xn) ++ ⟨#[32]⟩) := pre 8 (by decide)
              have e34 : a.eval (.tmp 34) = strL (typW xy) := pre 15 (by decide)
              exact wp_pure (run_cat rfl e27 e34 (by have := HSz2.out; have := HSx.out; have h1 : ByteArray.size ⟨#[32]⟩ = 1 := rfl; have h2 := typW_size xy; rw [ByteArray.size_append, ByteArray.size_append]; omega)) rfl
            exact Each.nil
          · intro v w1 hB hG
            have e16 : v 16 = .string (((b2 ++ xn) ++ ⟨#[32]⟩) ++ ⟨(typW xy).toArray⟩) := hG 16 (by decide)
            clear hG
            simp only [List.take_succ_cons, List.take_zero, puts, Act.put, List.setIfInBounds_toArray, List.set_cons_zero, List.set_cons_succ, Nat.reduceAdd, e16]
            have HN2 := Lib.hid (show ((((b2 ++ xn) ++ ⟨#[32]⟩) ++ ⟨(typW xy).toArray⟩ : ByteArray)).data.toList = shoJ nm cols (j + 1) by rw [← HN.out]; simp [colS])
            generalize (((b2 ++ xn) ++ ⟨#[32]⟩) ++ ⟨(typW xy).toArray⟩ : ByteArray) = b9 at HN2 ⊢
            have HB2 := Lib.hid (bt HW.out (bt (Below.drew (Below.refl _ _)) hB))
            have HB3 := Lib.hid (bt HW0.out (bt (Below.drew (Below.refl _ _)) hB))
            clear hB e16
            refine wpAny_next (i := 17) (fuel := 0) (by kernel_rfl) rfl rfl ?_
            refine wp_assign (v := .string b9) (.tmp 35) rfl rfl ?_
            refine wpAny_done (by kernel_rfl) ?_ _
            go_wp2_with fail
            go_roundw
            case rel => exact ⟨j + 1, b9, by omega, rfl, by go_num, HN2, HB2, HB3⟩
            case measure => simp [intOf]; omega
      · obtain rfl : j = cols.length := by omega
        have HFin := Lib.hid (show (b ++ ⟨#[41]⟩ : ByteArray).data.toList = shoT ⟨nm, cols, rows⟩ by
          have h2 := HCt.out
          unfold shoJ at h2
          rw [List.take_of_length_le (by simp)] at h2
          simp only [shoT, ByteArray.data_append, Array.toList_append, h2])
        clear hlt hj hx
        have hbz : ¬ (b.size + 1 > 9223372036854775807) := by have := HSz.out; omega
        go_wp2_with fail
        go_ret
        exact ⟨_, rfl, HFin.out, HW.out⟩
end Go.Proofs.YtmjckdgomlppeaaGreatDoor
end
section
namespace Go.Proofs.YtmjckdgomlppeaaGreatDoor
open Go.RowKit

set_option maxHeartbeats 400000 in
theorem refText_any (s : ByteArray) (w : World) :
    Calls Tryz.prog 53 #[.string s] w fun e w' => e = .returned (VV 3 0 s) ∧ Below w.heap.size w w' := by
  go_enter Tryz.func53, Tryz.ntmps53
  go_wp2
  refine bodyPost_ret (v := VV 3 0 s) (by simp [results, Tryz.results53, go_sem]) rfl ⟨rfl, ?_⟩
  exact (Below.refl _ _).alloc (Nat.le_refl _) _
end Go.Proofs.YtmjckdgomlppeaaGreatDoor
end
