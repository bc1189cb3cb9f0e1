/-
  Contracts of row.putValue and row.Put: a row's bytes.
-/
import Derived.Test.YtdjhoiamongdaaaRByt
import Derived.Deep.AppendLies
namespace Go.Proofs.Ytdjhoiamongdaaa
open Go.RowKit Go.Shelf

theorem info_byte : (Try.prog.info? 5).map (fun i => (i.zero, i.size, i.bytes)) = some (some (.int .u8 0), 1, 1) := by kernel_rfl

/-- Bytes in memory of the call's own, in a row of a known capacity. -/
structure Buf (w : World) (base g cap N : Nat) (l : List Int) : Prop where
  len : l.length = N
  own : w.ownsRow base 5 1 (.slice (some ⟨g, 0, none⟩) N cap) N (l.map (Value.int .u8))

theorem Buf.lt {w : World} {base g cap N : Nat} {l : List Int} (h : Buf w base g cap N l) : base ≤ g ∧ g < w.heap.size := World.ownsRow.lt h.own g rfl
theorem Buf.alloc {w : World} {base g cap N : Nat} {l : List Int} (h : Buf w base g cap N l) (o : Obj) : Buf (w.alloc o) base g cap N l := ⟨h.len, h.own.alloc o⟩

/-- What a byte more, or some, leaves: all cells that lie elsewhere. -/
def Elsewhere (g : Nat) (w w' : World) : Prop := ∀ (p : Addr) (v : Value), w.cell? p = some v → p.block ≠ g → w'.cell? p = some v

theorem lt_cell {w : World} {p : Addr} {v : Value} (h : w.cell? p = some v) : p.block < w.heap.size := by
  rcases Nat.lt_or_ge p.block w.heap.size with hl | hg
  · exact hl
  · rw [World.cell?, Array.getElem?_eq_none hg] at h; cases h
theorem elsewhere_of {g : Nat} {w w' : World} (hg : w.grownBy w' (some g)) : Elsewhere g w w' := fun p v h hne =>
  (World.cell?_of_block (hg.block p.block (lt_cell h) (fun e => hne (by injection e)))).trans h

theorem wpList_push {ops : Array Oper} {rest : List Oper} {o : Oper} {a : Act} {Q : Exit → Act → World → Prop} (hgd : o.guard = none) (s x : Operand)
    (ho : o.op = .call { callee := .builtin .append, args := #[s, x], argTypes := #[25, 25] })
    (base g cap N : Nat) (l : List Int) (b : Int) (W : World) (hs : a.eval s = .slice (some ⟨g, 0, none⟩) N cap) (hbuf : Buf W base g cap N l) (nb : Nat) (hx : a.eval x = .slice (some ⟨nb, 0, none⟩) 1 1) (hnb : W.heap.size = nb) (hroom : N + 1 ≤ cap)
    (h : ∀ w', Buf w' base g cap (N + 1) (l ++ [b]) → Elsewhere g W w' → Below base W w' → W.heap.size < w'.heap.size → wpList Try.prog ops Q rest (a.put o.dst (.slice (some ⟨g, 0, none⟩) (N + 1) cap)) w') :
    wpList Try.prog ops Q (o :: rest) a (W.alloc (.cells #[.int .u8 b] 5)) := by
  subst hnb
  obtain ⟨i0, hi, hz0, hz1, hz2⟩ := info_parts info_byte
  have hlt := hbuf.lt
  refine wpList_append_fits _ hgd s x 25 ho base 5 i0 1 Try.underlying25 hi hz1 g N cap (l.map (Value.int .u8)) hs (hbuf.own.alloc _) ⟨W.heap.size, 0, none⟩ 1 1 [.int .u8 b] hx rfl ?_ ?_ hroom ?_
  · exact World.news_of_block (heap_alloc_new W _)
  · intro u hu; simp at hu; subst hu; rfl
  · intro w' hown hg
    refine h w' ⟨by simp [hbuf.len], by simpa using hown⟩ ?_ ?_ ?_
    · intro p v hp hne
      exact elsewhere_of hg p v ((World.cell?_alloc_lt W _ p (lt_cell hp)).trans hp) hne
    · exact ((Below.refl base W).alloc (Nat.le_of_lt (Nat.lt_of_le_of_lt hlt.1 hlt.2)) _).grown hg (by simp; omega) (fun k hk => by cases hk; exact hlt.1)
    · have := hg.size; simp at this; omega

theorem wpList_pushS {ops : Array Oper} {rest : List Oper} {o : Oper} {a : Act} {Q : Exit → Act → World → Prop} (hgd : o.guard = none) (s x : Operand)
    (ho : o.op = .call { callee := .builtin .append, args := #[s, x], argTypes := #[25, 9] })
    (base g cap N : Nat) (l : List Int) (t : ByteArray) (W : World) (hs : a.eval s = .slice (some ⟨g, 0, none⟩) N cap) (hbuf : Buf W base g cap N l) (hx : a.eval x = .string t) (h0 : 0 < cap) (hroom : N + t.size ≤ cap)
    (h : ∀ w', Buf w' base g cap (N + t.size) (l ++ strB t) → Elsewhere g W w' → Below base W w' → W.heap.size ≤ w'.heap.size → wpList Try.prog ops Q rest (a.put o.dst (.slice (some ⟨g, 0, none⟩) (N + t.size) cap)) w') :
    wpList Try.prog ops Q (o :: rest) a W := by
  obtain ⟨i0, hi, hz0, hz1, hz2⟩ := info_parts info_byte
  have hlt := hbuf.lt
  refine Lib.wpList_append_fits_string _ hgd s x 25 9 ho base 5 i0 Try.underlying25 Try.underlying9 hi hz1 (some ⟨g, 0, none⟩) N cap (l.map (Value.int .u8)) hs hbuf.own t hx h0 hroom ?_
  intro w' hown hg
  have hg' : W.grownBy w' (some g) := hg
  refine h w' ⟨by simp [hbuf.len, strB], ?_⟩ (elsewhere_of hg') ?_ hg'.size
  · have e : (l ++ strB t).map (Value.int .u8) = l.map (Value.int .u8) ++ Lib.strCells t := by
      rw [List.map_append, show (strB t).map (Value.int .u8) = Lib.strCells t by unfold strB Lib.strCells; rw [List.map_map]; rfl]
    rw [e]; exact hown
  · exact (Below.refl base W).grown hg' (Nat.le_of_lt (Nat.lt_of_le_of_lt hlt.1 hlt.2)) (fun k hk => by cases hk; exact hlt.1)

/-- The end of a value's putting: its bytes stand behind those that stood there. -/
def PutEnd (base g cap N : Nat) (l : List Int) (w : World) (e : Ending) (w' : World) : Prop :=
  e = .returned (.slice (some ⟨g, 0, none⟩) N cap) ∧ Buf w' base g cap N l ∧ Below base w w'

theorem ne_box {w : World} {base g cap N : Nat} {l : List Int} (h : Buf w base g cap N l) : w.heap.size ≠ g := by have := h.lt.2; omega

set_option maxRecDepth 100000 in
set_option maxHeartbeats 2000000 in
theorem putValue_null (base g cap N : Nat) (l : List Int) (n : Int) (s : ByteArray) (w : World) (hbuf : Buf w base g cap N l) (hroom : N + 1 ≤ cap) :
    Calls Try.prog 103 #[.slice (some ⟨g, 0, none⟩) N cap, VV 0 n s] w (PutEnd base g cap (N + 1) (l ++ [0]) w) := by
  have hne := ne_box hbuf
  have hbl : base ≤ w.heap.size := by have := hbuf.lt; omega
  have HB := Lib.hid hbuf
  clear hbuf
  go_enter Try.func103, Try.ntmps103
  go_wp2_with (at_builtin; refine wpList_push rfl (.tmp 7) (.tmp 11) rfl base g cap N l 0 _ rfl (HB.out.alloc _) _ rfl (World.size_alloc _ _) ?c1 ?_)
  case c1 => omega
  intro w1 hb1 he1 hB1 hz1
  have c0 := he1 ⟨w.heap.size, 0, none⟩ (.int .i64 0) (by simp) hne
  have HB1 := Lib.hid hb1
  have HW := Lib.hid hB1
  clear hb1 he1 hB1
  go_wp2_with fail
  go_ret
  exact ⟨rfl, HB1.out, ((Below.refl base w).alloc hbl _).trans HW.out⟩

set_option maxRecDepth 100000 in
set_option maxHeartbeats 2000000 in
theorem putValue_bool (base g cap N : Nat) (l : List Int) (n : Int) (s : ByteArray) (w : World) (hbuf : Buf w base g cap N l) (hn : n = 0 ∨ n = 1) (hroom : N + 2 ≤ cap) :
    Calls Try.prog 103 #[.slice (some ⟨g, 0, none⟩) N cap, VV 1 n s] w (PutEnd base g cap (N + 1 + 1) (l ++ [1] ++ [n]) w) := by
  have hne := ne_box hbuf
  have hbl : base ≤ w.heap.size := by have := hbuf.lt; omega
  have HB := Lib.hid hbuf
  clear hbuf
  rcases hn with rfl | rfl
  all_goals
    go_enter Try.func103, Try.ntmps103
    go_wp2_with (at_builtin; refine wpList_push rfl (.tmp 7) (.tmp 11) rfl base g cap N l 1 _ rfl (HB.out.alloc _) _ rfl (World.size_alloc _ _) ?c1 ?_)
    case c1 => omega
    intro w1 hb1 he1 hB1 hz1
    have c0 := he1 ⟨w.heap.size, 0, none⟩ (.int .i64 1) (by simp) hne
    have c1 := he1 ⟨w.heap.size, 1, none⟩ (.int .i64 _) (by simp; rfl) hne
    have HB1 := Lib.hid hb1
    have HW := Lib.hid hB1
    clear hb1 he1 hB1
    go_wp2_with (at_builtin; refine wpList_push rfl (.tmp 17) (.tmp 21) rfl base g cap (N + 1) (l ++ [1]) _ _ rfl HB1.out _ rfl rfl ?c2 ?_)
    case c2 => omega
    intro w2 hb2 he2 hB2 hz2
    have HB2 := Lib.hid hb2
    have HW2 := Lib.hid hB2
    clear hb2 he2 hB2
    go_wp2_with fail
    go_ret
    exact ⟨rfl, by simpa using HB2.out, (((Below.refl base w).alloc hbl _).trans HW.out).trans HW2.out⟩

set_option maxRecDepth 100000 in
set_option maxHeartbeats 2000000 in
theorem putValue_text (base g cap N : Nat) (l : List Int) (s : ByteArray) (w : World) (hbuf : Buf w base g cap N l) (hs : s.size ≤ 64) (hroom : N + 2 + s.size ≤ cap) :
    Calls Try.prog 103 #[.slice (some ⟨g, 0, none⟩) N cap, VV 3 0 s] w (PutEnd base g cap (N + 1 + 1 + s.size) (l ++ [3] ++ [(s.size : Int)] ++ strB s) w) := by
  have hne := ne_box hbuf
  have hbl : base ≤ w.heap.size := by have := hbuf.lt; omega
  have HB := Lib.hid hbuf
  clear hbuf
  go_enter Try.func103, Try.ntmps103
  go_wp2_with (at_builtin; refine wpList_push rfl (.tmp 7) (.tmp 11) rfl base g cap N l 3 _ rfl (HB.out.alloc _) _ rfl (World.size_alloc _ _) ?c1 ?_)
  case c1 => omega
  intro w1 hb1 he1 hB1 hz1
  have c0 := he1 ⟨w.heap.size, 0, none⟩ (.int .i64 3) (by simp) hne
  have c2 := he1 ⟨w.heap.size, 2, none⟩ (.string s) (by simp) hne
  have HB1 := Lib.hid hb1
  have HW := Lib.hid hB1
  clear hb1 he1 hB1
  go_wp2_with (at_builtin; refine wpList_push rfl (.tmp 42) (.tmp 47) rfl base g cap (N + 1) (l ++ [3]) (s.size : Int) _ rfl HB1.out _ rfl rfl ?c2 ?_)
  case c2 => omega
  intro w2 hb2 he2 hB2 hz2
  have d2 := he2 ⟨w.heap.size, 2, none⟩ (.string s) c2 hne
  have HB2 := Lib.hid hb2
  have HW2 := Lib.hid hB2
  clear hb2 he2 hB2 c0 c2
  go_wp2_with (at_builtin; refine wpList_pushS rfl (.tmp 49) (.tmp 51) rfl base g cap (N + 1 + 1) _ s _ rfl HB2.out rfl ?c3 ?c4 ?_)
  case c3 => omega
  case c4 => omega
  intro w3 hb3 he3 hB3 hz3
  have HB3 := Lib.hid hb3
  have HW3 := Lib.hid hB3
  clear hb3 he3 hB3
  go_wp2_with fail
  go_ret
  exact ⟨rfl, by simpa using HB3.out, ((((Below.refl base w).alloc hbl _).trans HW.out).trans HW2.out).trans HW3.out⟩

theorem seven_take (m : Int) (j : Nat) (h : j < 7) : (seven m).take (j + 1) = (seven m).take j ++ [m / 2 ^ (8 * (6 - j)) % 256] := by
  rcases j with _ | _ | _ | _ | _ | _ | _ | j
  all_goals first | (exfalso; omega) | (simp [seven, byteAt]; done) | (simp [seven]; rfl)

set_option maxRecDepth 100000 in
set_option maxHeartbeats 2000000 in
theorem putValue_int (base g cap N : Nat) (l : List Int) (n : Int) (s : ByteArray) (w : World) (hbuf : Buf w base g cap N l) (h1 : -9007199254740991 ≤ n) (h2 : n ≤ 9007199254740991) (hroom : N + 8 ≤ cap) :
    Calls Try.prog 103 #[.slice (some ⟨g, 0, none⟩) N cap, VV 2 n s] w (PutEnd base g cap (N + 1 + 7) (l ++ [2] ++ seven (n + 9007199254740992)) w) := by
  have hne := ne_box hbuf
  have hbl : base ≤ w.heap.size := by have := hbuf.lt; omega
  have HB := Lib.hid hbuf
  clear hbuf
  go_enter Try.func103, Try.ntmps103
  go_wp2_with (at_builtin; refine wpList_push rfl (.tmp 7) (.tmp 11) rfl base g cap N l 2 _ rfl (HB.out.alloc _) _ rfl (World.size_alloc _ _) ?c1 ?_)
  case c1 => omega
  intro w1 hb1 he1 hB1 hz1
  have c0 := he1 ⟨w.heap.size, 0, none⟩ (.int .i64 2) (by simp) hne
  have c1 := he1 ⟨w.heap.size, 1, none⟩ (.int .i64 n) (by simp) hne
  have HB1 := Lib.hid hb1
  have HW := Lib.hid (((Below.refl base w).alloc hbl _).trans hB1)
  clear hb1 he1 hB1
  go_wp2_with fail
  generalize hm : n + 9007199254740992 = m
  have hm1 : 1 ≤ m := by omega
  have hm2 : m ≤ 18014398509481983 := by omega
  have HM := Lib.hid hm
  clear hm
  go_loopw [0, 6] (fun v i wr => ∃ j : Nat, j ≤ 7 ∧ i = .int .i64 (6 - (j : Int)) ∧ v = .slice (some ⟨g, 0, none⟩) (N + 1 + j) cap ∧ Buf wr base g cap (N + 1 + j) (l ++ [2] ++ (seven m).take j) ∧ Below base w wr) (fun _ i _ => (intOf i + 1).toNat)
  case atStart => exact ⟨0, by omega, rfl, rfl, by simpa using HB1.out, HW.out⟩
  case round =>
    obtain ⟨j, hj, rfl, rfl, hb, hB⟩ := hrel
    have HBj := Lib.hid hb
    have HWj := Lib.hid hB
    clear hb hB c0 c1
    by_cases hlt : j < 7
    · have hi0 : (0 : Int) ≤ 8 * (6 - (j : Int)) := by omega
      have hi1 : 8 * (6 - (j : Int)) < 64 := by omega
      go_wp2_with (at_builtin; refine wpList_push rfl (.tmp 32) (.tmp 38) rfl base g cap (N + 1 + j) _ _ _ rfl HBj.out _ rfl rfl ?c2 ?_)
      case c2 => omega
      intro w2 hb2 he2 hB2 hz2
      have HB2 := Lib.hid hb2
      have HW2 := Lib.hid (HWj.out.trans hB2)
      clear hb2 he2 hB2
      go_wp2_with fail
      refine ⟨⟨j + 1, by omega, ?_, rfl, ?_, HW2.out⟩, ?_⟩
      · congr 1; omega
      · have := HB2.out
        rw [seven_take m j hlt, show N + 1 + (j + 1) = N + 1 + j + 1 by omega]
        simpa using this
      · simp [intOf]; omega
    · go_wp2_with fail
      have ej : j = 7 := by omega
      subst ej
      go_ret
      have e7 : n + 9007199254740992 = m := HM.out
      refine ⟨rfl, ?_, HWj.out⟩
      rw [e7]
      exact HBj.out

end Go.Proofs.Ytdjhoiamongdaaa
