/-
  Contracts of row.putValue and row.Put: a row's bytes.
Contract of row.readValue.
Lists of rows: one appended to another; a list's end.
Contract of the document's own Sort: the rows in order, by halves.
Package catalog: whether lists of rows are the same; sameRows, sameTable.
Package catalog: sameRows, sameTable, Same.
-/
import Derived.Test.YtmjckdgomlppeaaGreatDoorZ3
import Derived.Deep.AppendLies
import Derived.Laws.BytesArg
import Derived.Laws.BitsAllLaws
import Derived.Deep.LoopGhost
import Derived.IntWalk
import Derived.Deep.QuietTactic
import Derived.BigQuiet
import Derived.Deep.RegionHeld3
section
namespace Go.Proofs.YtmjckdgomlppeaaGreatDoor
open Go.RowKit Go.Shelf

theorem info_byte : (Tryz.prog.info? 5).map (fun i => (i.zero, i.size, i.bytes)) = some (some (.int .u8 0), 1, 1) := by kernel_rfl

/-- Bytes in memory of the call's own, in a row of a known capacity. -/
structure Buf (w : World) (base g cap N : Nat) (l : List Int) : Prop where
  len : l.length = N
  own : w.ownsRow base 5 1 (.slice (some ⟨g, 0, none⟩) N cap) N (l.map (Value.int .u8))

theorem Buf.lt {w : World} {base g cap N : Nat} {l : List Int} (h : Buf w base g cap N l) : base ≤ g ∧ g < w.heap.size := World.ownsRow.lt h.own g rfl
theorem Buf.alloc {w : World} {base g cap N : Nat} {l : List Int} (h : Buf w base g cap N l) (o : Obj) : Buf (w.alloc o) base g cap N l := ⟨h.len, h.own.alloc o⟩

/-- What a byte more, or some, leaves: all cells that lie elsewhere. -/
def Elsewhere (g : Nat) (w w' : World) : Prop := ∀ (p : Addr) (v : Value), w.cell? p = some v → p.block ≠ g → w'.cell? p = some v

theorem lt_cell {w : World} {p : Addr} {v : Value} (h : w.cell? p = some v) : p.block < w.heap.size := by
  rcases Nat.lt_or_ge p.block w.heap.size with hl | hg
  · exact hl
  · rw [World.cell?, Array.getElem?_eq_none hg] at h; cases h
theorem elsewhere_of {g : Nat} {w w' : World} (hg : w.grownBy w' (some g)) : Elsewhere g w w' := fun p v h hne =>
  (World.cell?_of_block (hg.block p.block (lt_cell h) (fun e => hne (by injection e)))).trans h

theorem wpList_push {ops : Array Oper} {rest : List Oper} {o : Oper} {a : Act} {Q : Exit → Act → World → Prop} (hgd : o.guard = none) (s x : Operand)
    (ho : o.op = .call { callee := .builtin .append, args := #[s, x], argTypes := #[49, 49] })
    (base g cap N : Nat) (l : List Int) (b : Int) (W : World) (hs : a.eval s = .slice (some ⟨g, 0, none⟩) N cap) (hbuf : Buf W base g cap N l) (nb : Nat) (hx : a.eval x = .slice (some ⟨nb, 0, none⟩) 1 1) (hnb : W.heap.size = nb) (hroom : N + 1 ≤ cap)
    (h : ∀ w', Buf w' base g cap (N + 1) (l ++ [b]) → Elsewhere g W w' → Below base W w' → W.heap.size < w'.heap.size → wpList Tryz.prog ops Q rest (a.put o.dst (.slice (some ⟨g, 0, none⟩) (N + 1) cap)) w') :
    wpList Tryz.prog ops Q (o :: rest) a (W.alloc (.cells #[.int .u8 b] 5)) := by
  subst hnb
  obtain ⟨i0, hi, hz0, hz1, hz2⟩ := info_parts info_byte
  have hlt := hbuf.lt
  refine wpList_append_fits _ hgd s x 49 ho base 5 i0 1 Tryz.underlying49 hi hz1 g N cap (l.map (Value.int .u8)) hs (hbuf.own.alloc _) ⟨W.heap.size, 0, none⟩ 1 1 [.int .u8 b] hx rfl ?_ ?_ hroom ?_
  · exact World.news_of_block (heap_alloc_new W _)
  · intro u hu; simp at hu; subst hu; rfl
  · intro w' hown hg
    refine h w' ⟨by simp [hbuf.len], by simpa using hown⟩ ?_ ?_ ?_
    · intro p v hp hne
      exact elsewhere_of hg p v ((World.cell?_alloc_lt W _ p (lt_cell hp)).trans hp) hne
    · exact ((Below.refl base W).alloc (Nat.le_of_lt (Nat.lt_of_le_of_lt hlt.1 hlt.2)) _).grown hg (by simp; omega) (fun k hk => by cases hk; exact hlt.1)
    · have := hg.size; simp at this; omega

theorem wpList_pushS {ops : Array Oper} {rest : List Oper} {o : Oper} {a : Act} {Q : Exit → Act → World → Prop} (hgd : o.guard = none) (s x : Operand)
    (ho : o.op = .call { callee := .builtin .append, args := #[s, x], argTypes := #[49, 9] })
    (base g cap N : Nat) (l : List Int) (t : ByteArray) (W : World) (hs : a.eval s = .slice (some ⟨g, 0, none⟩) N cap) (hbuf : Buf W base g cap N l) (hx : a.eval x = .string t) (h0 : 0 < cap) (hroom : N + t.size ≤ cap)
    (h : ∀ w', Buf w' base g cap (N + t.size) (l ++ strB t) → Elsewhere g W w' → Below base W w' → W.heap.size ≤ w'.heap.size → wpList Tryz.prog ops Q rest (a.put o.dst (.slice (some ⟨g, 0, none⟩) (N + t.size) cap)) w') :
    wpList Tryz.prog ops Q (o :: rest) a W := by
  obtain ⟨i0, hi, hz0, hz1, hz2⟩ := info_parts info_byte
  have hlt := hbuf.lt
  refine Lib.wpList_append_fits_string _ hgd s x 49 9 ho base 5 i0 Tryz.underlying49 Tryz.underlying9 hi hz1 (some ⟨g, 0, none⟩) N cap (l.map (Value.int .u8)) hs hbuf.own t hx h0 hroom ?_
  intro w' hown hg
  have hg' : W.grownBy w' (some g) := hg
  refine h w' ⟨by simp [hbuf.len, strB], ?_⟩ (elsewhere_of hg') ?_ hg'.size
  · have e : (l ++ strB t).map (Value.int .u8) = l.map (Value.int .u8) ++ Lib.strCells t := by
      rw [List.map_append, show (strB t).map (Value.int .u8) = Lib.strCells t by unfold strB Lib.strCells; rw [List.map_map]; rfl]
    rw [e]; exact hown
  · exact (Below.refl base W).grown hg' (Nat.le_of_lt (Nat.lt_of_le_of_lt hlt.1 hlt.2)) (fun k hk => by cases hk; exact hlt.1)

/-- The end of a value's putting: its bytes stand behind those that stood there. -/
def PutEnd (base g cap N : Nat) (l : List Int) (w : World) (e : Ending) (w' : World) : Prop :=
  e = .returned (.slice (some ⟨g, 0, none⟩) N cap) ∧ Buf w' base g cap N l ∧ Below base w w'

theorem ne_box {w : World} {base g cap N : Nat} {l : List Int} (h : Buf w base g cap N l) : w.heap.size ≠ g := by have := h.lt.2; omega

set_option maxRecDepth 100000 in
set_option maxHeartbeats 2000000 in
theorem putValue_null (base g cap N : Nat) (l : List Int) (n : Int) (s : ByteArray) (w : World) (hbuf : Buf w base g cap N l) (hroom : N + 1 ≤ cap) :
    Calls Tryz.prog 110 #[.slice (some ⟨g, 0, none⟩) N cap, VV 0 n s] w (PutEnd base g cap (N + 1) (l ++ [0]) w) := by
  have hne := ne_box hbuf
  have hbl : base ≤ w.heap.size := by have := hbuf.lt; omega
  have HB := Lib.hid hbuf
  clear hbuf
  go_enter Tryz.func110, Tryz.ntmps110
  go_wp2_with (at_builtin; refine wpList_push rfl (.tmp 7) (.tmp 11) rfl base g cap N l 0 _ rfl (HB.out.alloc _) _ rfl (World.size_alloc _ _) ?c1 ?_)
  case c1 => omega
  intro w1 hb1 he1 hB1 hz1
  have c0 := he1 ⟨w.heap.size, 0, none⟩ (.int .i64 0) (by simp) hne
  have HB1 := Lib.hid hb1
  have HW := Lib.hid hB1
  clear hb1 he1 hB1
  go_wp2_with fail
  go_ret
  exact ⟨rfl, HB1.out, ((Below.refl base w).alloc hbl _).trans HW.out⟩

set_option maxRecDepth 100000 in
set_option maxHeartbeats 2000000 in
theorem putValue_bool (base g cap N : Nat) (l : List Int) (n : Int) (s : ByteArray) (w : World) (hbuf : Buf w base g cap N l) (hn : n = 0 ∨ n = 1) (hroom : N + 2 ≤ cap) :
    Calls Tryz.prog 110 #[.slice (some ⟨g, 0, none⟩) N cap, VV 1 n s] w (PutEnd base g cap (N + 1 + 1) (l ++ [1] ++ [n]) w) := by
  have hne := ne_box hbuf
  have hbl : base ≤ w.heap.size := by have := hbuf.lt; omega
  have HB := Lib.hid hbuf
  clear hbuf
  rcases hn with rfl | rfl
  all_goals
    go_enter Tryz.func110, Tryz.ntmps110
    go_wp2_with (at_builtin; refine wpList_push rfl (.tmp 7) (.tmp 11) rfl base g cap N l 1 _ rfl (HB.out.alloc _) _ rfl (World.size_alloc _ _) ?c1 ?_)
    case c1 => omega
    intro w1 hb1 he1 hB1 hz1
    have c0 := he1 ⟨w.heap.size, 0, none⟩ (.int .i64 1) (by simp) hne
    have c1 := he1 ⟨w.heap.size, 1, none⟩ (.int .i64 _) (by simp; rfl) hne
    have HB1 := Lib.hid hb1
    have HW := Lib.hid hB1
    clear hb1 he1 hB1
    go_wp2_with (at_builtin; refine wpList_push rfl (.tmp 17) (.tmp 21) rfl base g cap (N + 1) (l ++ [1]) _ _ rfl HB1.out _ rfl rfl ?c2 ?_)
    case c2 => omega
    intro w2 hb2 he2 hB2 hz2
    have HB2 := Lib.hid hb2
    have HW2 := Lib.hid hB2
    clear hb2 he2 hB2
    go_wp2_with fail
    go_ret
    exact ⟨rfl, by simpa using HB2.out, (((Below.refl base w).alloc hbl _).trans HW.out).trans HW2.out⟩

set_option maxRecDepth 100000 in
set_option maxHeartbeats 2000000 in
theorem putValue_text (base g cap N : Nat) (l : List Int) (s : ByteArray) (w : World) (hbuf : Buf w base g cap N l) (hs : s.size ≤ 64) (hroom : N + 2 + s.size ≤ cap) :
    Calls Tryz.prog 110 #[.slice (some ⟨g, 0, none⟩) N cap, VV 3 0 s] w (PutEnd base g cap (N + 1 + 1 + s.size) (l ++ [3] ++ [(s.size : Int)] ++ strB s) w) := by
  have hne := ne_box hbuf
  have hbl : base ≤ w.heap.size := by have := hbuf.lt; omega
  have HB := Lib.hid hbuf
  clear hbuf
  go_enter Tryz.func110, Tryz.ntmps110
  go_wp2_with (at_builtin; refine wpList_push rfl (.tmp 7) (.tmp 11) rfl base g cap N l 3 _ rfl (HB.out.alloc _) _ rfl (World.size_alloc _ _) ?c1 ?_)
  case c1 => omega
  intro w1 hb1 he1 hB1 hz1
  have c0 := he1 ⟨w.heap.size, 0, none⟩ (.int .i64 3) (by simp) hne
  have c2 := he1 ⟨w.heap.size, 2, none⟩ (.string s) (by simp) hne
  have HB1 := Lib.hid hb1
  have HW := Lib.hid hB1
  clear hb1 he1 hB1
  go_wp2_with (at_builtin; refine wpList_push rfl (.tmp 42) (.tmp 47) rfl base g cap (N + 1) (l ++ [3]) (s.size : Int) _ rfl HB1.out _ rfl rfl ?c2 ?_)
  case c2 => omega
  intro w2 hb2 he2 hB2 hz2
  have d2 := he2 ⟨w.heap.size, 2, none⟩ (.string s) c2 hne
  have HB2 := Lib.hid hb2
  have HW2 := Lib.hid hB2
  clear hb2 he2 hB2 c0 c2
  go_wp2_with (at_builtin; refine wpList_pushS rfl (.tmp 49) (.tmp 51) rfl base g cap (N + 1 + 1) _ s _ rfl HB2.out rfl ?c3 ?c4 ?_)
  case c3 => omega
  case c4 => omega
  intro w3 hb3 he3 hB3 hz3
  have HB3 := Lib.hid hb3
  have HW3 := Lib.hid hB3
  clear hb3 he3 hB3
  go_wp2_with fail
  go_ret
  exact ⟨rfl, by simpa using HB3.out, ((((Below.refl base w).alloc hbl _).trans HW.out).trans HW2.out).trans HW3.out⟩

theorem seven_take (m : Int) (j : Nat) (h : j < 7) : (seven m).take (j + 1) = (seven m).take j ++ [m / 2 ^ (8 * (6 - j)) % 256] := by
  rcases j with _ | _ | _ | _ | _ | _ | _ | j
  all_goals first | (exfalso; omega) | (simp [seven, byteAt]; done) | (simp [seven]; rfl)

set_option maxRecDepth 100000 in
set_option maxHeartbeats 2000000 in
theorem putValue_int (base g cap N : Nat) (l : List Int) (n : Int) (s : ByteArray) (w : World) (hbuf : Buf w base g cap N l) (h1 : -9007199254740991 ≤ n) (h2 : n ≤ 9007199254740991) (hroom : N + 8 ≤ cap) :
    Calls Tryz.prog 110 #[.slice (some ⟨g, 0, none⟩) N cap, VV 2 n s] w (PutEnd base g cap (N + 1 + 7) (l ++ [2] ++ seven (n + 9007199254740992)) w) := by
  have hne := ne_box hbuf
  have hbl : base ≤ w.heap.size := by have := hbuf.lt; omega
  have HB := Lib.hid hbuf
  clear hbuf
  go_enter Tryz.func110, Tryz.ntmps110
  go_wp2_with (at_builtin; refine wpList_push rfl (.tmp 7) (.tmp 11) rfl base g cap N l 2 _ rfl (HB.out.alloc _) _ rfl (World.size_alloc _ _) ?c1 ?_)
  case c1 => omega
  intro w1 hb1 he1 hB1 hz1
  have c0 := he1 ⟨w.heap.size, 0, none⟩ (.int .i64 2) (by simp) hne
  have c1 := he1 ⟨w.heap.size, 1, none⟩ (.int .i64 n) (by simp) hne
  have HB1 := Lib.hid hb1
  have HW := Lib.hid (((Below.refl base w).alloc hbl _).trans hB1)
  clear hb1 he1 hB1
  go_wp2_with fail
  generalize hm : n + 9007199254740992 = m
  have hm1 : 1 ≤ m := by omega
  have hm2 : m ≤ 18014398509481983 := by omega
  have HM := Lib.hid hm
  clear hm
  go_loopw [0, 6] (fun v i wr => ∃ j : Nat, j ≤ 7 ∧ i = .int .i64 (6 - (j : Int)) ∧ v = .slice (some ⟨g, 0, none⟩) (N + 1 + j) cap ∧ Buf wr base g cap (N + 1 + j) (l ++ [2] ++ (seven m).take j) ∧ Below base w wr) (fun _ i _ => (intOf i + 1).toNat)
  case atStart => exact ⟨0, by omega, rfl, rfl, by simpa using HB1.out, HW.out⟩
  case round =>
    obtain ⟨j, hj, rfl, rfl, hb, hB⟩ := hrel
    have HBj := Lib.hid hb
    have HWj := Lib.hid hB
    clear hb hB c0 c1
    by_cases hlt : j < 7
    · have hi0 : (0 : Int) ≤ 8 * (6 - (j : Int)) := by omega
      have hi1 : 8 * (6 - (j : Int)) < 64 := by omega
      go_wp2_with (at_builtin; refine wpList_push rfl (.tmp 32) (.tmp 38) rfl base g cap (N + 1 + j) _ _ _ rfl HBj.out _ rfl rfl ?c2 ?_)
      case c2 => omega
      intro w2 hb2 he2 hB2 hz2
      have HB2 := Lib.hid hb2
      have HW2 := Lib.hid (HWj.out.trans hB2)
      clear hb2 he2 hB2
      go_wp2_with fail
      refine ⟨⟨j + 1, by omega, ?_, rfl, ?_, HW2.out⟩, ?_⟩
      · congr 1; omega
      · have := HB2.out
        rw [seven_take m j hlt, show N + 1 + (j + 1) = N + 1 + j + 1 by omega]
        simpa using this
      · simp [intOf]; omega
    · go_wp2_with fail
      have ej : j = 7 := by omega
      subst ej
      go_ret
      have e7 : n + 9007199254740992 = m := HM.out
      refine ⟨rfl, ?_, HWj.out⟩
      rw [e7]
      exact HBj.out

end Go.Proofs.YtmjckdgomlppeaaGreatDoor
end
section
namespace Go.Proofs.YtmjckdgomlppeaaGreatDoor
open Go.RowKit Go.Shelf

/-- Where b[l:] begins. -/
def adv (A : Option Addr) (c l : Nat) : Option Addr := if c = l then A else A.map (·.add (l * 1))

def BytesAt (w : World) (A : Option Addr) (bs : List Int) : Prop := CellsAt w A (bs.map (Value.int .u8)) ∧ ∀ x ∈ bs, 0 ≤ x ∧ x < 256

theorem size_byte : ∀ w, (sizeOf 5).run Tryz.prog w = .ok 1 w := by
  intro w
  obtain ⟨i0, hi, hz0, hz1, hz2⟩ := info_parts info_byte
  simp [sizeOf, typeInfo, hi, hz1]

theorem run_from (A : Option Addr) (L c l : Nat) (hl : l ≤ L) (W : World) :
    (Instr.slice 49 (.slice A L c) (some (.int .i64 (l : Int))) none none).run Tryz.prog W = .ok (.slice (adv A c l) (L - l) (c - l)) W := by
  have ht := Tryz.underlying49
  have ht' : Tryz.prog.underlying 49 = some (.slice (Tryz.prog.elem 49)) := by simp [Program.elem, ht]
  have he : Tryz.prog.elem 49 = 5 := by simp [Program.elem, ht]
  rw [run_slice_l W _ _ _ _ ht' .i64 _ (by omega) (by omega), he, size_byte]
  simp [Result.andThen, sliced, adv]

theorem BytesAt.kept {w w' : World} {A : Option Addr} {bs : List Int} (h : BytesAt w A bs) (hb : Below w.heap.size w w') : BytesAt w' A bs := ⟨h.1.kept hb, h.2⟩
theorem BytesAt.drop {w : World} {A : Option Addr} {bs : List Int} (h : BytesAt w A bs) (c l : Nat) (hc : bs.length ≤ c) : BytesAt w (adv A c l) (bs.drop l) := by
  refine ⟨?_, fun x hx => h.2 x (List.mem_of_mem_drop hx)⟩
  rcases h.1 with h0 | ⟨b, off, rfl, hb, hcell⟩
  · left; simp at h0; simp [h0]
  · by_cases hl : c = l
    · left; rw [List.drop_eq_nil_of_le (by omega)]; rfl
    · right
      refine ⟨b, off + l, ?_, hb, fun i v hv => ?_⟩
      · simp [adv, hl, Addr.add]
      · rw [List.map_drop, List.getElem?_drop] at hv
        rw [Nat.add_assoc]
        exact hcell _ _ hv
theorem BytesAt.take {w : World} {A : Option Addr} {bs : List Int} (h : BytesAt w A bs) (l : Nat) : BytesAt w A (bs.take l) := by
  refine ⟨?_, fun x hx => h.2 x (List.mem_of_mem_take hx)⟩
  rcases h.1 with h0 | ⟨b, off, rfl, hb, hcell⟩
  · left; simp at h0; simp [h0]
  · right
    refine ⟨b, off, rfl, hb, fun i v hv => hcell i v ?_⟩
    rw [List.map_take] at hv
    rcases Nat.lt_or_ge i l with hi | hi
    · rwa [List.getElem?_take_of_lt hi] at hv
    · rw [List.getElem?_eq_none (by simp; omega)] at hv; cases hv
theorem BytesAt.at {w : World} {A : Option Addr} {bs : List Int} (h : BytesAt w A bs) {i : Nat} {x : Int} (hx : bs[i]? = some x) :
    ∃ b off : Nat, A = some ⟨b, off, none⟩ ∧ b < w.heap.size ∧ w.cell? ⟨b, off + i, none⟩ = some (.int .u8 x) ∧ 0 ≤ x ∧ x < 256 := by
  rcases h.1 with h0 | ⟨b, off, rfl, hb, hcell⟩
  · simp at h0; simp [h0] at hx
  · exact ⟨b, off, rfl, hb, hcell i _ (by simp [hx]), (h.2 x (List.mem_of_getElem? hx)).1, (h.2 x (List.mem_of_getElem? hx)).2⟩
theorem BytesAt.str {w : World} {A : Option Addr} {bs : List Int} (h : BytesAt w A bs) (c : Nat) :
    (convert 49 9 (.slice A bs.length c)).run Tryz.prog w = .ok (.string (strOfNums bs)) w := by
  rcases h.1 with h0 | ⟨b, off, rfl, hb, hcell⟩
  · simp at h0; subst h0
    show (convert 49 9 (.slice A 0 c)).run Tryz.prog w = _
    rw [run_convert_bytes_string w _ _ _ A 0 c Tryz.underlying49 Tryz.underlying5 Tryz.underlying9]
    cases A <;> simp [Conv.bytesToString, loadCells, strOfNums] <;> rfl
  · refine run_convert_bytes_arg w _ _ Tryz.underlying49 Tryz.underlying5 b off bs.length c bs rfl (fun i hi => ?_) _ Tryz.underlying9
    refine hcell i _ ?_
    simp [List.getD, List.getElem?_eq_getElem hi]

/-- The number that bytes are. -/
def num (l : List Int) : Int := l.foldl (fun a x => a * 256 + x) 0
theorem num_succ (l : List Int) (j : Nat) (h : j < l.length) : num (l.take (j + 1)) = num (l.take j) * 256 + l[j] := by
  unfold num
  rw [List.take_succ_eq_append_getElem h, List.foldl_append]; rfl

/-- The box of a result, behind calls. -/
theorem boxR {w w1 : World} {a0 a1 a2 : Value} {T : TypeId} (hb : Below (w.alloc (.cells #[a0, a1, a2] T)).heap.size (w.alloc (.cells #[a0, a1, a2] T)) w1) :
    w1.cell? ⟨w.heap.size, 0, none⟩ = some a0 ∧ w1.cell? ⟨w.heap.size, 1, none⟩ = some a1 ∧ w1.cell? ⟨w.heap.size, 2, none⟩ = some a2 ∧
    w1.frozen? ⟨w.heap.size, 0, none⟩ = false ∧ w1.frozen? ⟨w.heap.size, 1, none⟩ = false ∧ w1.frozen? ⟨w.heap.size, 2, none⟩ = false := by
  obtain ⟨c0, c1, c2⟩ := box1 hb
  refine ⟨c0, c1, c2, ?_, ?_, ?_⟩
  all_goals
    rw [hb.frozen (by simp)]
    exact World.frozen?_alloc_new w _ _ _

theorem at_nil {w : World} {A : Option Addr} {bs : List Int} (h : BytesAt w A bs) {x : Int} (hx : bs[0]? = some x) :
    ∃ b off : Nat, A = some ⟨b, off, none⟩ ∧ b < w.heap.size ∧ w.cell? ⟨b, off, none⟩ = some (.int .u8 x) ∧ 0 ≤ x ∧ x < 256 := by
  obtain ⟨b, off, e, hb, c0, r⟩ := h.at hx
  exact ⟨b, off, e, hb, by simpa using c0, r⟩

theorem or_byte (m x : Int) (h0 : 0 ≤ m) (h1 : m < 281474976710656) (x0 : 0 ≤ x) (x1 : x < 256) : bits .or .i64 (m * 256) x = m * 256 + x := by
  obtain ⟨M, rfl⟩ := Int.eq_ofNat_of_zero_le h0
  obtain ⟨X, rfl⟩ := Int.eq_ofNat_of_zero_le x0
  have e : (M : Int) * 256 = ((M * 256 : Nat) : Int) := by omega
  have ho : M * 256 ||| X = M * 256 + X := by
    rw [show M * 256 = M <<< 8 by rw [Nat.shiftLeft_eq], Nat.shiftLeft_add_eq_or_of_lt (by omega : X < 2 ^ 8)]
  rw [e]
  show IntKind.i64.wrap ((BitVec.ofInt 64 ((M * 256 : Nat) : Int) ||| BitVec.ofInt 64 (X : Int)).toNat : Int) = _
  rw [BitVec.toNat_or, BitVec.ofInt_natCast, BitVec.ofInt_natCast, BitVec.toNat_ofNat, BitVec.toNat_ofNat, Nat.mod_eq_of_lt (by omega), Nat.mod_eq_of_lt (by omega), ho, IntKind.wrap_i64]
  omega

theorem num_take_le (t : List Int) (ht : ∀ x ∈ t, 0 ≤ x ∧ x < 256) : ∀ j : Nat, 0 ≤ num (t.take j) ∧ num (t.take j) < 256 ^ j
  | 0 => by simp [num]
  | j + 1 => by
    have ih := num_take_le t ht j
    by_cases hj : j < t.length
    · rw [num_succ t j hj, Int.pow_succ]
      have := ht t[j] (List.getElem_mem hj)
      omega
    · rw [List.take_of_length_le (by omega : t.length ≤ j + 1)]
      rw [List.take_of_length_le (by omega : t.length ≤ j)] at ih
      rw [Int.pow_succ]
      omega

end Go.Proofs.YtmjckdgomlppeaaGreatDoor
end
section
namespace Go.Proofs.YtmjckdgomlppeaaGreatDoor
open Go.RowKit Go.Shelf

/-- A list of rows, its values told. -/
def RowsIn (w : World) (B : Nat) (A : Option Addr) (rs : List (List Va)) : Prop :=
  rs = [] ∨ ∃ (b off : Nat) (xs : List Value), A = some ⟨b, off, none⟩ ∧ b < w.heap.size ∧ (∀ (i : Nat) (v : Value), xs[i]? = some v → w.cell? ⟨b, off + i, none⟩ = some v) ∧ Elems w B xs rs
theorem RowsAt.inB {w : World} {B : Nat} {A : Option Addr} {rs : List (List Va)} (h : RowsAt w A rs) (hB : w.heap.size ≤ B) : RowsIn w B A rs := by
  rcases h with h | ⟨b, off, hA, hlt, hc⟩
  · exact .inl h
  · have each : ∀ i, i < rs.length → ∃ v, w.cell? ⟨b, off + i, none⟩ = some v ∧ ∃ A c, v = .slice A (rs.getD i []).length c ∧ RowAt w A (rs.getD i []) ∧ (A = none → c = 0) := by
      intro i hi
      have e : rs.getD i [] = rs[i] := by simp [List.getD, hi]
      rw [e]
      obtain ⟨A, c, hcell, hrow, hA'⟩ := hc i rs[i] (List.getElem?_eq_getElem hi)
      exact ⟨_, hcell, A, c, rfl, hrow, hA'⟩
    have ch : ∃ f : Nat → Value, ∀ i, i < rs.length → w.cell? ⟨b, off + i, none⟩ = some (f i) ∧ ∃ A c, f i = .slice A (rs.getD i []).length c ∧ RowAt w A (rs.getD i []) ∧ (A = none → c = 0) := by
      refine ⟨fun i => if h : i < rs.length then Classical.choose (each i h) else .slice none 0 0, fun i hi => ?_⟩
      simp only [hi, dif_pos]
      exact Classical.choose_spec (each i hi)
    obtain ⟨f, hf⟩ := ch
    refine .inr ⟨b, off, (List.range rs.length).map f, hA, hlt, fun i v hv => ?_, by simp, fun k r hr => ?_⟩
    · rw [List.getElem?_map] at hv
      obtain ⟨j, hj, rfl⟩ := Option.map_eq_some_iff.1 hv
      obtain ⟨hjl, hje⟩ := List.getElem?_eq_some_iff.1 hj
      simp at hje hjl
      subst hje
      exact (hf i hjl).1
    · obtain ⟨hk, rfl⟩ := List.getElem?_eq_some_iff.1 hr
      obtain ⟨_, A', c, hv, hrow, hA'⟩ := hf k hk
      have e : rs.getD k [] = rs[k] := by simp [List.getD, hk]
      rw [e] at hv hrow
      exact ⟨A', c, by simp [hk, hv], ElemAt.low hrow hB, hA'⟩
theorem RowsIn.kept {w w' : World} {B : Nat} {A : Option Addr} {rs : List (List Va)} (h : RowsIn w B A rs) (hB : B ≤ w.heap.size) (hb : Below w.heap.size w w') : RowsIn w' B A rs := by
  rcases h with h | ⟨b, off, xs, hA, hlt, hc, he⟩
  · exact .inl h
  · exact .inr ⟨b, off, xs, hA, Nat.lt_of_lt_of_le hlt hb.size, fun i v hv => (hb.cell (p := ⟨b, _, none⟩) hlt).trans (hc i v hv), he.kept (Grows.below hB hb)⟩
theorem ListOwn.inB {w : World} {B : Nat} {v : Value} {p : List (List Va)} (h : ListOwn w B v p) : ∃ A c, v = .slice A p.length c ∧ RowsIn w B A p ∧ (A = none → c = 0) := by
  obtain ⟨xs, ho, he⟩ := h
  rcases ho.2 with ⟨rfl, hn⟩ | ⟨g, cap, cur, rfl, hb, hgg, hnc, hcm, hcs, htake⟩
  · rw [List.eq_nil_of_length_eq_zero hn]
    exact ⟨none, 0, rfl, .inl rfl, fun _ => rfl⟩
  · refine ⟨some ⟨g, 0, none⟩, cap, rfl, .inr ⟨g, 0, xs, rfl, lt_of_block hgg, fun i v hv => ?_, he⟩, fun hh => by cases hh⟩
    rw [Nat.zero_add]
    have hcell := World.ownsRow.cells ho (g := g) rfl i _ hv
    have hadd : (⟨g, 0, none⟩ : Addr).add i = ⟨g, i, none⟩ := by unfold Addr.add; split <;> simp_all
    rwa [hadd] at hcell
theorem RowsIn.rows {w : World} {B : Nat} {A : Option Addr} {rs : List (List Va)} (h : RowsIn w B A rs) : RowsAt w A rs := by
  rcases h with h | ⟨b, off, xs, hA, hlt, hc, he⟩
  · exact .inl h
  · refine .inr ⟨b, off, hA, hlt, fun i r hr => ?_⟩
    obtain ⟨A', c, hx, hel, hA'⟩ := he.2 i r hr
    exact ⟨A', c, hc i _ hx, hel.1, hA'⟩

theorem oneCell_elems {w : World} {B : Nat} {xs : List Value} {p : List (List Va)} (h : Elems w B xs p) : ∀ u ∈ xs, u.oneCell' = true := by
  intro u hu
  obtain ⟨i, hi, rfl⟩ := List.getElem_of_mem hu
  have hp : i < p.length := by rw [← h.1]; exact hi
  obtain ⟨A, c, hx, _⟩ := h.2 i p[i] (List.getElem?_eq_getElem hp)
  rw [List.getElem?_eq_getElem hi] at hx
  injection hx with hx
  rw [hx]
  rfl
theorem Elems.append {w : World} {B : Nat} {xs ys : List Value} {p q : List (List Va)} (h : Elems w B xs p) (h' : Elems w B ys q) : Elems w B (xs ++ ys) (p ++ q) := by
  refine ⟨by simp [h.1, h'.1], fun k r hr => ?_⟩
  by_cases hk : k < p.length
  · rw [List.getElem?_append_left hk] at hr
    rw [List.getElem?_append_left (by rw [h.1]; exact hk)]
    exact h.2 k r hr
  · rw [List.getElem?_append_right (by omega)] at hr
    rw [List.getElem?_append_right (by rw [h.1]; omega), h.1]
    exact h'.2 _ r hr
theorem run_appL (ty : TypeId) (v : Value) (p : List (List Va)) (A : Option Addr) (c : Nat) (rs : List (List Va)) (W : World) (B : Nat) (hv : ListOwn W B v p) (hr : RowsIn W B A rs) (hA : A = none → c = 0) (hB : B ≤ W.heap.size) (hl : p.length + rs.length ≤ 65536) :
    ∃ v' w', (Builtin.append_ #[27, 27] ty #[v, .slice A rs.length c]).run Tryz.prog W = .ok v' w' ∧ ListOwn w' B v' (p ++ rs) ∧ Grows B W w' := by
  obtain ⟨i0, hi, hz0, hz1, hz2⟩ := info_parts info_rowT
  obtain ⟨xs, hown, hel⟩ := hv
  cases A with
  | none =>
    have hc := hA rfl
    subst hc
    have hrs : rs = [] := by
      rcases hr with h | ⟨_, _, _, h, _⟩
      · exact h
      · cases h
    subst hrs
    have h := run_append_owned_none (P := Tryz.prog) (w := W) B 27 ty 38 i0 1 Tryz.underlying27 hi v p.length xs hown
    exact ⟨v, W, h, by rw [List.append_nil]; exact ⟨xs, hown, hel⟩, Grows.refl _ _⟩
  | some ad =>
    have hys : ∃ ys, Elems W B ys rs ∧ ∀ j u, ys[j]? = some u → W.cell? (ad.add j) = some u := by
      rcases hr with h | ⟨b, off, ys, h, hlt, hc, he⟩
      · subst h; exact ⟨[], Elems.nil _ _, fun j u h => by simp at h⟩
      · cases h
        refine ⟨ys, he, fun j u hu => ?_⟩
        have hadd : (⟨b, off, none⟩ : Addr).add j = ⟨b, off + j, none⟩ := by unfold Addr.add; split <;> simp_all
        rw [hadd]; exact hc j u hu
    obtain ⟨ys, he, hcell⟩ := hys
    obtain ⟨v', w', h, hown', hgr, _⟩ := run_append_own (P := Tryz.prog) W B 27 ty 38 i0 _ 1 24 Tryz.underlying27 hi hz0 hz1 hz2 rfl (by decide) v p.length xs hown ad rs.length c ys (by rw [he.1]; simp) hcell (oneCell_elems he) (by simp [maxLen]; omega) (by omega) hB
    have hG : Grows B W w' := Grows.grown hB hgr (fun k hk => by
      obtain ⟨hb, cs, fr, hcs⟩ := owns_typed hown k hk
      exact ⟨hb, cs, _, fr, hcs, by decide⟩)
    exact ⟨v', w', h, ⟨xs ++ ys, by simpa using hown', (hel.kept hG).append (he.kept hG)⟩, hG⟩
theorem wpList_appL {ops : Array Oper} {rest : List Oper} {o : Oper} {a : Act} {Q : Exit → Act → World → Prop} (hgd : o.guard = none) (s x : Operand)
    (ho : o.op = .call { callee := .builtin .append, args := #[s, x], argTypes := #[27, 27] }) (v : Value) (p : List (List Va)) (A : Option Addr) (c L : Nat) (rs : List (List Va)) (W : World) (B : Nat) (hs : a.eval s = v) (hx : a.eval x = .slice A L c) (hL : rs.length = L) (hv : ListOwn W B v p) (hr : RowsIn W B A rs) (hA : A = none → c = 0) (hB : B ≤ W.heap.size) (hl : p.length + rs.length ≤ 65536)
    (h : ∀ v' w', ListOwn w' B v' (p ++ rs) → Grows B W w' → wpList Tryz.prog ops Q rest (a.put o.dst v') w') :
    wpList Tryz.prog ops Q (o :: rest) a W := by
  subst hL
  refine wpList_plain hgd fun K hK => ?_
  obtain ⟨v', w', hr', h2, h3⟩ := run_appL o.type v p A c rs W B hv hr hA hB hl
  unfold Oper.wp execOp
  simp only [ho, resolve, invoke, builtin, Sem.run_bind, Sem.run_pure, Result.andThen_ok, List.map_toArray, List.map_cons, List.map_nil, hs, hx, hr']
  exact hK _ _ (h v' w' h2 h3)

theorem size_rowT : ∀ w, (sizeOf 38).run Tryz.prog w = .ok 1 w := by
  intro w
  obtain ⟨i0, hi, hz0, hz1, hz2⟩ := info_parts info_rowT
  simp [sizeOf, typeInfo, hi, hz1]
/-- l[k:] of a list of rows. -/
theorem run_fromL (A : Option Addr) (L c l : Nat) (hl : l ≤ L) (W : World) :
    (Instr.slice 27 (.slice A L c) (some (.int .i64 (l : Int))) none none).run Tryz.prog W = .ok (.slice (adv A c l) (L - l) (c - l)) W := by
  have ht := Tryz.underlying27
  have ht' : Tryz.prog.underlying 27 = some (.slice (Tryz.prog.elem 27)) := by simp [Program.elem, ht]
  have he : Tryz.prog.elem 27 = 38 := by simp [Program.elem, ht]
  rw [run_slice_l W _ _ _ _ ht' .i64 _ (by omega) (by omega), he, size_rowT]
  simp [Result.andThen, sliced, adv]
theorem RowsAt.drop {w : World} {A : Option Addr} {rs : List (List Va)} (h : RowsAt w A rs) (c l : Nat) (hc : rs.length ≤ c) : RowsAt w (adv A c l) (rs.drop l) := by
  rcases h with h0 | ⟨b, off, rfl, hb, hcell⟩
  · left; simp [h0]
  · by_cases hl : c = l
    · left; rw [List.drop_eq_nil_of_le (by omega)]
    · right
      refine ⟨b, off + l, ?_, hb, fun i v hv => ?_⟩
      · simp [adv, hl, Addr.add]
      · rw [List.getElem?_drop] at hv
        rw [Nat.add_assoc]
        exact hcell _ _ hv
theorem RowsAt.take {w : World} {A : Option Addr} {rs : List (List Va)} (h : RowsAt w A rs) (l : Nat) : RowsAt w A (rs.take l) := by
  rcases h with h0 | ⟨b, off, rfl, hb, hcell⟩
  · left; simp [h0]
  · refine .inr ⟨b, off, rfl, hb, fun i v hv => ?_⟩
    by_cases hi : i < l
    · rw [List.getElem?_take_of_lt hi] at hv; exact hcell i v hv
    · rw [List.getElem?_take] at hv; simp [hi] at hv
theorem adv_none {A : Option Addr} {c l : Nat} (h : A = none → c = 0) (hl : l ≤ c) : adv A c l = none → c - l = 0 := by
  unfold adv
  split
  · intro _; omega
  · intro hh
    cases A with
    | none => have := h rfl; omega
    | some a => cases hh
theorem owns_emptyL (w : World) (n B : Nat) (hn : w.heap.size = n) (hb : B ≤ n) : ListOwn (w.alloc (.cells #[] 38)) B (.slice (some ⟨n, 0, none⟩) 0 0) [] := by
  subst hn
  exact ⟨[], ⟨rfl, .inr ⟨w.heap.size, 0, #[], rfl, hb, heap_alloc_new w _, Nat.le_refl _, Nat.zero_le _, rfl, rfl⟩⟩, Elems.nil _ _⟩
end Go.Proofs.YtmjckdgomlppeaaGreatDoor
end
section
namespace Go.Proofs.YtmjckdgomlppeaaGreatDoor
open Go.RowKit Go.Shelf

def leR (a b : List Va) : Bool := decide (cmpR a b ≤ 0)
def InOrder (l : List (List Va)) : Prop := l.Pairwise (fun a b => leR a b = true)
theorem leR_trans (a b c : List Va) (h1 : leR a b = true) (h2 : leR b c = true) : leR a c = true := by
  simp [leR] at *; exact cmpR_trans h1 h2
theorem leR_total (a b : List Va) : (leR a b || leR b a) = true := by
  have := cmpR_anti a b
  simp [leR]; omega
theorem InOrder.merge {a b : List (List Va)} (ha : InOrder a) (hb : InOrder b) : InOrder (a.merge b leR) := List.pairwise_merge leR_trans leR_total a b ha hb
theorem InOrder.eq {a b : List (List Va)} (ha : InOrder a) (hb : InOrder b) (hp : a.Perm b) : a = b :=
  hp.eq_of_pairwise (fun x y _ _ h1 h2 => by
    have := cmpR_anti x y
    simp [leR] at h1 h2
    exact cmpR_eq (by omega)) ha hb

/-- The end of the document's own Sort. -/
def RefSortEnd (w : World) (rs : List (List Va)) (e : Ending) (w' : World) : Prop :=
  Below w.heap.size w w' ∧ ∃ A c rs', e = .returned (.slice A rs.length c) ∧ RowsAt w' A rs' ∧ rs'.Perm rs ∧ InOrder rs' ∧ (A = none → c = 0) ∧ rs.length ≤ c

theorem own_drewN {w : World} {B : Nat} {v : Value} {p : List (List Va)} (q : Nat) (h : ListOwn w B v p) : ListOwn (w.drewN q) B v p :=
  h.same (w' := w.drewN q) ⟨⟨rfl, rfl, rfl, Nat.le_refl _, fun _ _ => rfl⟩, fun _ _ _ h => h⟩ (fun _ _ => rfl)

def lenOf : Value → Nat
  | .slice _ n _ => n
  | _ => 0

theorem own_end {w : World} {B : Nat} {v : Value} {p : List (List Va)} (h : ListOwn w B v p) : ∃ A c, v = .slice A p.length c ∧ RowsAt w A p ∧ (A = none → c = 0) ∧ p.length ≤ c := by
  obtain ⟨A, c, rfl, hr, hA⟩ := h.inB
  refine ⟨A, c, rfl, hr.rows, hA, ?_⟩
  obtain ⟨xs, ho, _⟩ := h
  rcases ho.2 with ⟨hv, hn⟩ | ⟨g, cap, cur, hv, _, _, hnc, _⟩
  · omega
  · cases hv; exact hnc

set_option maxRecDepth 100000 in
set_option maxHeartbeats 2000000 in
theorem refSort_short (B : Option Addr) (N c : Nat) (rs : List (List Va)) (w : World) (hN : rs.length = N) (h2 : N < 2) (h : RowsAt w B rs) (hB : B = none → c = 0) :
    Calls Tryz.prog 39 #[.slice B N c] w (RefSortEnd w rs) := by
  have HI := Lib.hid ((h.inB (Nat.le_refl _)).kept (Nat.le_refl _) (ba w (.cells #[] 38)))
  have HO := Lib.hid (owns_emptyL w _ _ rfl (Nat.le_refl _))
  have HN := Lib.hid hN
  have hN' : (N : Int) < 2 := by omega
  clear h hN
  go_enter Tryz.func39, Tryz.ntmps39
  go_wp2_with (at_builtin; refine wpList_appL rfl (.tmp 9) (.tmp 10) rfl (.slice (some ⟨w.heap.size, 0, none⟩) 0 0) [] B c N rs _ w.heap.size rfl rfl HN.out HO.out HI.out hB ?c1 ?c2 ?_)
  case c1 => simp
  case c2 => rw [HN.out]; simp; omega
  intro v' w' hl hG
  have hl : ListOwn w' w.heap.size v' rs := by simpa using hl
  obtain ⟨A9, c9, rfl, hr9, hA9, hc9⟩ := own_end hl
  have HR := Lib.hid hr9
  have HB := Lib.hid ((ba w _).trans hG.1)
  have HS := Lib.hid (show InOrder rs by
    match rs, HN.out with
    | [], _ => exact List.Pairwise.nil
    | [a], _ => exact List.pairwise_singleton _ _
    | a :: b :: t, h => exfalso; simp at h; omega)
  have HA9 := Lib.hid hA9
  have HC9 := Lib.hid hc9
  clear hl hG hr9 hA9 hc9
  go_wp2_with fail
  go_ret
  exact ⟨HB.out, A9, c9, rs, rfl, HR.out, List.Perm.refl _, HS.out, HA9.out, HC9.out⟩

set_option maxRecDepth 100000 in
set_option maxHeartbeats 4000000 in
theorem refSort_step (n : Nat) (ih : ∀ (B : Option Addr) (N c : Nat) (rs : List (List Va)) (w : World), rs.length = N → N ≤ n → N ≤ c → N ≤ 65536 → RowsAt w B rs → (B = none → c = 0) → (∀ r ∈ rs, r.length ≤ 65536) → Calls Tryz.prog 39 #[.slice B N c] w (RefSortEnd w rs))
    (B : Option Addr) (N c : Nat) (rs : List (List Va)) (w : World) (hN : rs.length = N) (hn : N ≤ n + 1) (hc : N ≤ c) (h16 : N ≤ 65536) (h : RowsAt w B rs) (hB : B = none → c = 0) (hl : ∀ r ∈ rs, r.length ≤ 65536) (h2 : 2 ≤ N) :
    Calls Tryz.prog 39 #[.slice B N c] w (RefSortEnd w rs) := by
  obtain ⟨k, hk⟩ : ∃ k, k = N / 2 := ⟨_, rfl⟩
  have hk1 : k ≤ N := by omega
  have hq : (N : Int) / 2 = (k : Int) := by omega
  have hq2 : ¬ (N : Int) < 2 := by omega
  have hq1 : (N : Int).tdiv 2 = (k : Int) := by rw [Int.tdiv_eq_ediv_of_nonneg (by omega)]; exact hq
  have hq3 : IntKind.i64.wrap (k : Int) = (k : Int) := IntWalk.i64_in _ (by omega)
  have k0 : (0 : Int) ≤ (k : Int) := Int.natCast_nonneg _
  have k1 : (k : Int) ≤ (N : Int) := by omega
  have k2 : (k : Int) ≤ (c : Int) := by omega
  have hfrom := run_fromL B N c k hk1
  have HI1 := Lib.hid (fun (W : World) (hW : Below w.heap.size w W) => (ih B k c (rs.take k) W (by simp; omega) (by omega) (by omega) (by omega) ((h.take k).kept hW) hB (fun r hr => hl r (List.mem_of_mem_take hr))).mono (fun e w' hq => (show RefSortEnd W (rs.take k) e w' ∧ Below w.heap.size w w' from ⟨hq, bt hW hq.1⟩)))
  have HI2 := Lib.hid (fun (W : World) (hW : Below w.heap.size w W) => (ih (adv B c k) (N - k) (c - k) (rs.drop k) W (by simp; omega) (by omega) (by omega) (by omega) ((h.drop c k (by omega)).kept hW) (adv_none hB (by omega)) (fun r hr => hl r (List.mem_of_mem_drop hr))).mono (fun e w' hq => (show RefSortEnd W (rs.drop k) e w' ∧ Below w.heap.size w w' from ⟨hq, bt hW hq.1⟩)))
  have HL := Lib.hid hl
  have HN := Lib.hid hN
  have HK := Lib.hid hk
  clear h hl hN ih hk
  generalize adv B c k = B2 at hfrom HI2
  go_enter Tryz.func39, Tryz.ntmps39
  go_wp2_with fail
  have hB1 := Below.drew (Below.refl w.heap.size w)
  go_region_held3 (fun w' => Below w.heap.size w w')
    (first
      | exact hB1
      | exact hb2
      | exact hb3)
    (first
      | (go_at_call 39; (with_reducible refine (HI1.out _ ?_).mono ?_); exact hB1; rintro e w2 ⟨⟨hba, Aa, ca, la, rfl, hra, hpa, hoa, hna, hca⟩, hb2⟩; rw [show (rs.take k).length = k by rw [List.length_take, HN.out]; omega]; have HRa := Lib.hid hra; have HPa := Lib.hid hpa; have HOa := Lib.hid hoa; clear hra hpa hoa hba)
      | (go_at_call 39; (with_reducible refine (HI2.out _ ?_).mono ?_); exact hb2; rintro e w3 ⟨⟨hbb, Ab, cb, lb, rfl, hrb, hpb, hob, hnb, hcb⟩, hb3⟩; rw [show (rs.drop k).length = N - k by rw [List.length_drop, HN.out]]; have HRb := Lib.hid hrb; have HPb := Lib.hid hpb; have HOb := Lib.hid hob; have HBb := Lib.hid hbb; clear hrb hpb hob hbb))
  have hbt := bt hb2 (HBb.out)
  have HB3 := Lib.hid hbt
  have HRa := Lib.hid (HRa.out.kept HBb.out)
  have HM := Lib.hid (show (la.merge lb leR).Perm rs by
    refine (List.merge_perm_append leR).trans ((HPa.out.append HPb.out).trans ?_)
    rw [List.take_append_drop])
  have HMO := Lib.hid (HOa.out.merge HOb.out)
  have HLa := Lib.hid (show ∀ r ∈ la, r.length ≤ 65536 from fun r hr => HL.out r (List.mem_of_mem_take (HPa.out.mem_iff.1 hr)))
  have HLb := Lib.hid (show ∀ r ∈ lb, r.length ≤ 65536 from fun r hr => HL.out r (List.mem_of_mem_drop (HPb.out.mem_iff.1 hr)))
  have HCa := Lib.hid (show k ≤ ca by have := hca; rw [List.length_take, HN.out] at this; omega)
  have HCb := Lib.hid (show N - k ≤ cb by have := hcb; rw [List.length_drop, HN.out] at this; omega)
  have HLna := Lib.hid (show la.length = k by rw [HPa.out.length_eq, List.length_take, HN.out]; omega)
  have HLnb := Lib.hid (show lb.length = N - k by rw [HPb.out.length_eq, List.length_drop, HN.out])
  rename_i hold
  clear hold hbt hb2 hb3 hfrom HI1 HI2 HOa HOb HPa HPb hB1
  go_wp2_with fail
  go_loopw [3, 4, 5] (fun va vb vo wr => ∃ (Xa Xb : Option Addr) (n m ka kb : Nat) (xs ys p : List (List Va)), va = .slice Xa n ka ∧ vb = .slice Xb m kb ∧ n + m + p.length = N ∧ n ≤ ka ∧ m ≤ kb ∧ Hid (xs.length = n) ∧ Hid (ys.length = m) ∧ Hid (RowsAt w3 Xa xs) ∧ Hid (RowsAt w3 Xb ys) ∧ Hid (ListOwn wr w3.heap.size vo p) ∧ Hid (Below w3.heap.size w3 wr) ∧ Hid (la.merge lb leR = p ++ xs.merge ys leR) ∧ Hid (∀ r ∈ xs, r.length ≤ 65536) ∧ Hid (∀ r ∈ ys, r.length ≤ 65536)) (fun va vb _ _ => lenOf va + lenOf vb)
  case atStart => exact ⟨Aa, Ab, k, N - k, ca, cb, la, lb, [], rfl, rfl, by simp; omega, by have := HCa.out; omega, by have := HCb.out; omega, HLna, HLnb, HRa, HRb, Lib.hid (ListOwn.nil _ _), Lib.hid (Below.refl _ _), Lib.hid (by simp), HLa, HLb⟩
  case round =>
    obtain ⟨Xa, Xb, n, m, ka, kb, xs, ys, p, rfl, rfl, hsum, hka, hkb, HX, HY, HRx, HRy, HOw, HBw, HMg, HLx, HLy⟩ := hrel
    clear HRa HRb HLa HLb HLna HLnb
    by_cases hm0 : m = 0
    · subst hm0
      by_cases hn0 : n = 0
      · subst hn0
        have ex : xs = [] := List.eq_nil_of_length_eq_zero HX.out
        have ey : ys = [] := List.eq_nil_of_length_eq_zero HY.out
        have HE := Lib.hid (show la.merge lb leR = p by rw [HMg.out, ex, ey]; simp)
        obtain ⟨A9, c9, rfl, hr9, hA9, hc9⟩ := own_end HOw.out
        have HR9 := Lib.hid hr9
        have HA9 := Lib.hid hA9
        have HC9 := Lib.hid hc9
        clear hr9 hA9 hc9 ex ey
        go_wp2_with fail
        go_ret
        refine ⟨bt HB3.out HBw.out, A9, c9, p, ?_, HR9.out, ?_, ?_, HA9.out, ?_⟩
        · rw [HN.out, ← hsum]; simp
        · rw [← HE.out]; exact HM.out
        · rw [← HE.out]; exact HMO.out
        · rw [HN.out]; have := HC9.out; omega
      · have hn1 : (0 : Int) < (n : Int) := by omega
        obtain ⟨x, xs', rfl⟩ : ∃ z zs, xs = z :: zs := by
          cases xs with
          | nil => exfalso; have := HX.out; simp at this; omega
          | cons z zs => exact ⟨z, zs, rfl⟩
        have HRn := Lib.hid (show RowsAt w3 (adv Xa ka 1) xs' from HRx.out.drop ka 1 (by rw [HX.out]; exact hka))
        have hfr : ∀ W, (Instr.slice 27 (.slice Xa n ka) (some (.int .i64 1)) none none).run Tryz.prog W = .ok (.slice (adv Xa ka 1) (n - 1) (ka - 1)) W := fun W => run_fromL Xa n ka 1 (by omega) W
        have HLn := Lib.hid (show ∀ r ∈ xs', r.length ≤ 65536 from fun r hr => HLx.out r (by simp [hr]))
        have HX1 := Lib.hid (show xs'.length = n - 1 by have := HX.out; simp at this; omega)
        generalize adv Xa ka 1 = Xn at HRn hfr
        go_wp2_with fail
        go_quiet (fail)
        have HOw := Lib.hid (show ListOwn (wr.drewN nq) w3.heap.size u5 p from own_drewN nq HOw.out)
        have HBw := Lib.hid (show Below w3.heap.size w3 (wr.drewN nq) from ⟨HBw.out.os, HBw.out.tape, HBw.out.output, HBw.out.size, HBw.out.block⟩)
        generalize wr.drewN nq = W1 at HOw HBw ⊢
        have HSz := Lib.hid HBw.out.size
        obtain ⟨bz, oz, hAz, hbz, A0, q0, z0, hz0, hzel, hzA⟩ := HRx.out.at HBw.out (i := 0) (by simp)
        cases hAz
        rw [Nat.add_zero] at z0
        change W1.cell? _ = some (.slice A0 x.length q0) at z0
        have HEL := Lib.hid (show ElemAt W1 w3.heap.size A0 x from hzel)
        have HA0 := Lib.hid hzA
        clear hz0 hzel hzA
        have ey : ys = [] := List.eq_nil_of_length_eq_zero HY.out
        have HMn := Lib.hid (show la.merge lb leR = (p ++ [x]) ++ xs'.merge ys leR by rw [HMg.out, ey]; simp [List.merge_right])
        clear ey
        go_wp2_with (at_builtin; refine wpList_pushL rfl (.tmp 50) (.tmp 54) rfl u5 p A0 q0 x _ w3.heap.size W1.heap.size rfl rfl (HOw.out.kept HSz.out (ba _ _)) (HEL.out.alloc HSz.out _) HA0.out (heap_alloc_new _ _) ?c1 ?c2 ?_)
        case c1 => have := HSz.out; simp; omega
        case c2 => omega
        intro g9 cap9 w9 hlo9 hgr9 _ hG9
        have HOn := Lib.hid hlo9
        have HBn := Lib.hid ((HBw.out.trans ((ba W1 _).mono HSz.out)).trans hG9.1)
        clear hlo9 hgr9 hG9
        go_wp2_with fail
        go_roundw
        case rel => exact ⟨Xn, _, n - 1, 0, ka - 1, kb, xs', ys, p ++ [x], rfl, rfl, by simp; omega, by omega, hkb, HX1, HY, HRn, HRy, HOn, HBn, HMn, HLn, HLy⟩
        case measure => simp [lenOf]; omega
    · have hm1 : ((m : Int) == 0) = false := beq_eq_false_iff_ne.2 (by omega)
      have hm2 : (0 : Int) < (m : Int) := by omega
      by_cases hn0 : n = 0
      · subst hn0
        obtain ⟨y, ys', rfl⟩ : ∃ z zs, ys = z :: zs := by
          cases ys with
          | nil => exfalso; have := HY.out; simp at this; omega
          | cons z zs => exact ⟨z, zs, rfl⟩
        have HRn := Lib.hid (show RowsAt w3 (adv Xb kb 1) ys' from HRy.out.drop kb 1 (by rw [HY.out]; exact hkb))
        have hfr : ∀ W, (Instr.slice 27 (.slice Xb m kb) (some (.int .i64 1)) none none).run Tryz.prog W = .ok (.slice (adv Xb kb 1) (m - 1) (kb - 1)) W := fun W => run_fromL Xb m kb 1 (by omega) W
        have HLn := Lib.hid (show ∀ r ∈ ys', r.length ≤ 65536 from fun r hr => HLy.out r (by simp [hr]))
        have HY1 := Lib.hid (show ys'.length = m - 1 by have := HY.out; simp at this; omega)
        generalize adv Xb kb 1 = Xn at HRn hfr
        go_wp2_with fail
        go_quiet (fail)
        have HOw := Lib.hid (show ListOwn (wr.drewN nq) w3.heap.size u5 p from own_drewN nq HOw.out)
        have HBw := Lib.hid (show Below w3.heap.size w3 (wr.drewN nq) from ⟨HBw.out.os, HBw.out.tape, HBw.out.output, HBw.out.size, HBw.out.block⟩)
        generalize wr.drewN nq = W1 at HOw HBw ⊢
        have HSz := Lib.hid HBw.out.size
        obtain ⟨bz, oz, hAz, hbz, A0, q0, z0, hz0, hzel, hzA⟩ := HRy.out.at HBw.out (i := 0) (by simp)
        cases hAz
        rw [Nat.add_zero] at z0
        change W1.cell? _ = some (.slice A0 y.length q0) at z0
        have HEL := Lib.hid (show ElemAt W1 w3.heap.size A0 y from hzel)
        have HA0 := Lib.hid hzA
        clear hz0 hzel hzA
        have ex : xs = [] := List.eq_nil_of_length_eq_zero HX.out
        have HMn := Lib.hid (show la.merge lb leR = (p ++ [y]) ++ xs.merge ys' leR by rw [HMg.out, ex]; simp [List.nil_merge])
        clear ex
        go_wp2_with (at_builtin; refine wpList_pushL rfl (.tmp 58) (.tmp 62) rfl u5 p A0 q0 y _ w3.heap.size W1.heap.size rfl rfl (HOw.out.kept HSz.out (ba _ _)) (HEL.out.alloc HSz.out _) HA0.out (heap_alloc_new _ _) ?c1 ?c2 ?_)
        case c1 => have := HSz.out; simp; omega
        case c2 => omega
        intro g9 cap9 w9 hlo9 hgr9 _ hG9
        have HOn := Lib.hid hlo9
        have HBn := Lib.hid ((HBw.out.trans ((ba W1 _).mono HSz.out)).trans hG9.1)
        clear hlo9 hgr9 hG9
        go_wp2_with fail
        go_roundw
        case rel => exact ⟨_, Xn, 0, m - 1, ka, kb - 1, xs, ys', p ++ [y], rfl, rfl, by simp; omega, hka, by omega, HX, HY1, HRx, HRn, HOn, HBn, HMn, HLx, HLn⟩
        case measure => simp [lenOf]; omega
      · have hn1 : (0 : Int) < (n : Int) := by omega
        have hn2 : 0 < n := by omega
        have hn3 : decide (0 < n) = true := by simp; omega
        have hm3 : 0 < m := by omega
        have hm4 : decide ((0 : Int) < (n : Int)) = true := by simp; omega
        obtain ⟨x, xs', rfl⟩ : ∃ z zs, xs = z :: zs := by
          cases xs with
          | nil => exfalso; have := HX.out; simp at this; omega
          | cons z zs => exact ⟨z, zs, rfl⟩
        obtain ⟨y, ys', rfl⟩ : ∃ z zs, ys = z :: zs := by
          cases ys with
          | nil => exfalso; have := HY.out; simp at this; omega
          | cons z zs => exact ⟨z, zs, rfl⟩
        by_cases hcase : cmpR x y ≤ 0
        · have HRn := Lib.hid (show RowsAt w3 (adv Xa ka 1) xs' from HRx.out.drop ka 1 (by rw [HX.out]; exact hka))
          have hfr : ∀ W, (Instr.slice 27 (.slice Xa n ka) (some (.int .i64 1)) none none).run Tryz.prog W = .ok (.slice (adv Xa ka 1) (n - 1) (ka - 1)) W := fun W => run_fromL Xa n ka 1 (by omega) W
          have HLn := Lib.hid (show ∀ r ∈ xs', r.length ≤ 65536 from fun r hr => HLx.out r (by simp [hr]))
          have HX1 := Lib.hid (show xs'.length = n - 1 by have := HX.out; simp at this; omega)
          generalize adv Xa ka 1 = Xn at HRn hfr
          obtain ⟨ba', oa, rfl, hba, A1, q1, z1, hz1, hzel1, hzA1⟩ := HRx.out.at HBw.out (i := 0) (by simp)
          obtain ⟨bb', ob, rfl, hbb, A2, q2, z2, hz2, hzel2, hzA2⟩ := HRy.out.at HBw.out (i := 0) (by simp)
          have hxl := HLx.out x (by simp)
          have hyl := HLy.out y (by simp)
          have HR1 := Lib.hid hz1
          have HR2 := Lib.hid hz2
          change wr.cell? ⟨ba', oa, none⟩ = some (.slice A1 x.length q1) at z1
          change wr.cell? ⟨bb', ob, none⟩ = some (.slice A2 y.length q2) at z2
          clear hz1 hz2 hzel1 hzel2 hzA1 hzA2
          have HZ := Lib.hid (fun (W : World) (hW : Below wr.heap.size wr W) => (refRowCompare_any A1 A2 q1 q2 x y W (HR1.out.kept hW) (HR2.out.kept hW) (by omega) (by omega)).mono (fun e w' (hq : _ ∧ _) => (show e = .returned (.int .i64 (cmpR x y)) ∧ Below wr.heap.size wr w' from ⟨hq.1, bt hW hq.2⟩)))
          generalize hcm : cmpR x y = z at HZ hcase
          have HCM := Lib.hid hcm
          clear hcm
          have hB1 := Below.drew (Below.refl wr.heap.size wr)
          go_wp2_with fail
          go_region_held3 (fun w' => Below wr.heap.size wr w' ∧ w'.cell? ⟨ba', oa, none⟩ = some (.slice A1 x.length q1) ∧ w'.cell? ⟨bb', ob, none⟩ = some (.slice A2 y.length q2))
            (first
              | exact ⟨hB1, z1, z2⟩
              | exact ⟨hbx, cell_kept hbx z1, cell_kept hbx z2⟩)
            (first
              | (go_at_call 62; refine (HZ.out _ (by exact hB1)).mono ?_; rintro e W1 ⟨rfl, hbx⟩))
          rename_i hold
          have HOw := Lib.hid (HOw.out.kept HBw.out.size hold.1)
          have HBw := Lib.hid (HBw.out.trans (hold.1.mono HBw.out.size))
          have HSz := Lib.hid HBw.out.size
          clear hold z1 z2 HZ hB1 hbx
          obtain ⟨bz, oz, hAz, hbz, A0, q0, z0, hz0, hzel, hzA⟩ := HRx.out.at HBw.out (i := 0) (by simp)
          cases hAz
          rw [Nat.add_zero] at z0
          change W1.cell? _ = some (.slice A0 x.length q0) at z0
          have HEL := Lib.hid (show ElemAt W1 w3.heap.size A0 x from hzel)
          have HA0 := Lib.hid hzA
          clear hz0 hzel hzA
          have HMn := Lib.hid (show la.merge lb leR = (p ++ [x]) ++ xs'.merge (y :: ys') leR by rw [HMg.out, List.cons_merge_cons, if_pos (by simp [leR, HCM.out]; omega)]; simp)
          go_wp2_with (at_builtin; refine wpList_pushL rfl (.tmp 50) (.tmp 54) rfl u5 p A0 q0 x _ w3.heap.size W1.heap.size rfl rfl (HOw.out.kept HSz.out (ba _ _)) (HEL.out.alloc HSz.out _) HA0.out (heap_alloc_new _ _) ?c1 ?c2 ?_)
          case c1 => have := HSz.out; simp; omega
          case c2 => omega
          intro g9 cap9 w9 hlo9 hgr9 _ hG9
          have HOn := Lib.hid hlo9
          have HBn := Lib.hid ((HBw.out.trans ((ba W1 _).mono HSz.out)).trans hG9.1)
          clear hlo9 hgr9 hG9
          go_wp2_with fail
          go_roundw
          case rel => exact ⟨Xn, _, n - 1, m, ka - 1, kb, xs', (y :: ys'), p ++ [x], rfl, rfl, by simp; omega, by omega, hkb, HX1, HY, HRn, HRy, HOn, HBn, HMn, HLn, HLy⟩
          case measure => simp [lenOf]; omega
        · have hcase : ¬ cmpR x y ≤ 0 := hcase
          have HRn := Lib.hid (show RowsAt w3 (adv Xb kb 1) ys' from HRy.out.drop kb 1 (by rw [HY.out]; exact hkb))
          have hfr : ∀ W, (Instr.slice 27 (.slice Xb m kb) (some (.int .i64 1)) none none).run Tryz.prog W = .ok (.slice (adv Xb kb 1) (m - 1) (kb - 1)) W := fun W => run_fromL Xb m kb 1 (by omega) W
          have HLn := Lib.hid (show ∀ r ∈ ys', r.length ≤ 65536 from fun r hr => HLy.out r (by simp [hr]))
          have HY1 := Lib.hid (show ys'.length = m - 1 by have := HY.out; simp at this; omega)
          generalize adv Xb kb 1 = Xn at HRn hfr
          obtain ⟨ba', oa, rfl, hba, A1, q1, z1, hz1, hzel1, hzA1⟩ := HRx.out.at HBw.out (i := 0) (by simp)
          obtain ⟨bb', ob, rfl, hbb, A2, q2, z2, hz2, hzel2, hzA2⟩ := HRy.out.at HBw.out (i := 0) (by simp)
          have hxl := HLx.out x (by simp)
          have hyl := HLy.out y (by simp)
          have HR1 := Lib.hid hz1
          have HR2 := Lib.hid hz2
          change wr.cell? ⟨ba', oa, none⟩ = some (.slice A1 x.length q1) at z1
          change wr.cell? ⟨bb', ob, none⟩ = some (.slice A2 y.length q2) at z2
          clear hz1 hz2 hzel1 hzel2 hzA1 hzA2
          have HZ := Lib.hid (fun (W : World) (hW : Below wr.heap.size wr W) => (refRowCompare_any A1 A2 q1 q2 x y W (HR1.out.kept hW) (HR2.out.kept hW) (by omega) (by omega)).mono (fun e w' (hq : _ ∧ _) => (show e = .returned (.int .i64 (cmpR x y)) ∧ Below wr.heap.size wr w' from ⟨hq.1, bt hW hq.2⟩)))
          generalize hcm : cmpR x y = z at HZ hcase
          have HCM := Lib.hid hcm
          clear hcm
          have hB1 := Below.drew (Below.refl wr.heap.size wr)
          go_wp2_with fail
          go_region_held3 (fun w' => Below wr.heap.size wr w' ∧ w'.cell? ⟨ba', oa, none⟩ = some (.slice A1 x.length q1) ∧ w'.cell? ⟨bb', ob, none⟩ = some (.slice A2 y.length q2))
            (first
              | exact ⟨hB1, z1, z2⟩
              | exact ⟨hbx, cell_kept hbx z1, cell_kept hbx z2⟩)
            (first
              | (go_at_call 62; refine (HZ.out _ (by exact hB1)).mono ?_; rintro e W1 ⟨rfl, hbx⟩))
          rename_i hold
          have HOw := Lib.hid (HOw.out.kept HBw.out.size hold.1)
          have HBw := Lib.hid (HBw.out.trans (hold.1.mono HBw.out.size))
          have HSz := Lib.hid HBw.out.size
          clear hold z1 z2 HZ hB1 hbx
          obtain ⟨bz, oz, hAz, hbz, A0, q0, z0, hz0, hzel, hzA⟩ := HRy.out.at HBw.out (i := 0) (by simp)
          cases hAz
          rw [Nat.add_zero] at z0
          change W1.cell? _ = some (.slice A0 y.length q0) at z0
          have HEL := Lib.hid (show ElemAt W1 w3.heap.size A0 y from hzel)
          have HA0 := Lib.hid hzA
          clear hz0 hzel hzA
          have HMn := Lib.hid (show la.merge lb leR = (p ++ [y]) ++ (x :: xs').merge ys' leR by rw [HMg.out, List.cons_merge_cons, if_neg (by simp [leR, HCM.out]; omega)]; simp)
          go_wp2_with (at_builtin; refine wpList_pushL rfl (.tmp 58) (.tmp 62) rfl u5 p A0 q0 y _ w3.heap.size W1.heap.size rfl rfl (HOw.out.kept HSz.out (ba _ _)) (HEL.out.alloc HSz.out _) HA0.out (heap_alloc_new _ _) ?c1 ?c2 ?_)
          case c1 => have := HSz.out; simp; omega
          case c2 => omega
          intro g9 cap9 w9 hlo9 hgr9 _ hG9
          have HOn := Lib.hid hlo9
          have HBn := Lib.hid ((HBw.out.trans ((ba W1 _).mono HSz.out)).trans hG9.1)
          clear hlo9 hgr9 hG9
          go_wp2_with fail
          go_roundw
          case rel => exact ⟨_, Xn, n, m - 1, ka, kb - 1, (x :: xs'), ys', p ++ [y], rfl, rfl, by simp; omega, hka, by omega, HX, HY1, HRx, HRn, HOn, HBn, HMn, HLx, HLn⟩
          case measure => simp [lenOf]; omega

theorem refSort_any : ∀ (n : Nat) (B : Option Addr) (N c : Nat) (rs : List (List Va)) (w : World), rs.length = N → N ≤ n → N ≤ c → N ≤ 65536 → RowsAt w B rs → (B = none → c = 0) → (∀ r ∈ rs, r.length ≤ 65536) → Calls Tryz.prog 39 #[.slice B N c] w (RefSortEnd w rs) := by
  intro n
  induction n with
  | zero => intro B N c rs w hN hn hc h16 h hB hl; exact refSort_short B N c rs w hN (by omega) h hB
  | succ n ih =>
    intro B N c rs w hN hn hc h16 h hB hl
    by_cases h2 : N < 2
    · exact refSort_short B N c rs w hN h2 h hB
    · exact refSort_step n ih B N c rs w hN hn hc h16 h hB hl (by omega)
end Go.Proofs.YtmjckdgomlppeaaGreatDoor
end
section
namespace Go.Proofs.YtmjckdgomlppeaaGreatDoor
open Go.RowKit Go.Shelf
attribute [local go_sem] Oper.semAt_some

/-- Are two lists of rows the same, one by one? -/
def eqRs (a b : List (List Va)) : Bool := decide (a.length = b.length) && (List.range a.length).all fun i => cmpR (a.getD i []) (b.getD i []) == 0
theorem eqRs_no {a b : List (List Va)} {j : Nat} (hj : j < a.length) (h : (cmpR (a.getD j []) (b.getD j []) == 0) = false) : eqRs a b = false := by
  have : ((List.range a.length).all fun i => cmpR (a.getD i []) (b.getD i []) == 0) = false := by
    rw [List.all_eq_false]
    exact ⟨j, List.mem_range.2 hj, by rw [h]; simp⟩
  rw [eqRs, this, Bool.and_false]
theorem eqRs_yes {a b : List (List Va)} (h1 : a.length = b.length) (h : ∀ i, i < a.length → (cmpR (a.getD i []) (b.getD i []) == 0) = true) : eqRs a b = true := by
  have : ((List.range a.length).all fun i => cmpR (a.getD i []) (b.getD i []) == 0) = true := List.all_eq_true.2 fun i hi => h i (List.mem_range.1 hi)
  rw [eqRs, this, decide_eq_true h1]; rfl
theorem eqRs_iff {a b : List (List Va)} : eqRs a b = true ↔ a = b := by
  constructor
  · intro h
    rw [eqRs, Bool.and_eq_true, decide_eq_true_eq, List.all_eq_true] at h
    apply List.ext_getElem h.1
    intro i h1 h2
    have := h.2 i (List.mem_range.2 h1)
    rw [List.getD_eq_getElem?_getD, List.getD_eq_getElem?_getD, List.getElem?_eq_getElem h1, List.getElem?_eq_getElem h2, beq_iff_eq] at this
    exact cmpR_eq this
  · rintro rfl
    exact eqRs_yes rfl fun i _ => by rw [cmpR_self]; rfl
set_option maxRecDepth 100000 in
set_option maxHeartbeats 2000000 in
theorem equalRows_any (A B : Option Addr) (c d : Nat) (l r : List (List Va)) (w : World) (hA : RowsAt w A l) (hB : RowsAt w B r) (hl : l.length ≤ 9223372036854775807) (hla : ∀ x ∈ l, x.length ≤ 9223372036854775807) (hlb : ∀ x ∈ r, x.length ≤ 9223372036854775807) {q : Bool} (hq : eqRs l r = q) :
    Calls Tryz.prog 90 #[.slice A l.length c, .slice B r.length d, .func (.func 92) #[] #[]] w fun e w' => e = .returned (.bool q) ∧ Below w.heap.size w w' := by
  have eg := enters_of Tryz.func92 (by kernel_rfl) rfl
  unfold Enters at eg
  have HA := Lib.hid hA
  have HB := Lib.hid hB
  have HLa := Lib.hid hla
  have HLb := Lib.hid hlb
  have HQ := Lib.hid hq
  clear hA hB hq hla hlb
  by_cases hlen : l.length = r.length
  · have hne : ((l.length : Int) != (r.length : Int)) = false := by rw [bne_eq_false_iff_eq]; omega
    have HLn := Lib.hid hlen
    clear hlen
    go_enter Tryz.func90, Tryz.ntmps90
    go_wp2_with fail
    clear hne
    go_loopw [17] (fun i wr => ∃ j : Nat, j ≤ l.length ∧ i = .int .i64 j ∧ Hid (Below w.heap.size w wr) ∧ Hid (∀ i, i < j → (cmpR (l.getD i []) (r.getD i []) == 0) = true)) (fun i _ => l.length - (intOf i).toNat)
    case atStart => exact ⟨0, Nat.zero_le _, rfl, Lib.hid (Below.refl _ _), Lib.hid (fun i hi => absurd hi (by omega))⟩
    case round =>
      obtain ⟨j, hj, rfl, HW, HNo⟩ := hrel
      by_cases hlt : j < l.length
      · have hltr : j < r.length := by rw [← HLn.out]; exact hlt
        obtain ⟨b1, off1, rfl, A1, c1, a0, hra⟩ := (HA.out.kept HW.out).cellAt hlt
        obtain ⟨b2, off2, rfl, A2, c2, b0, hrb⟩ := (HB.out.kept HW.out).cellAt hltr
        have HG := Lib.hid (show cmpR (l.getD j []) (r.getD j []) = cmpR l[j] r[j] by
          rw [List.getD_eq_getElem?_getD, List.getD_eq_getElem?_getD, List.getElem?_eq_getElem hlt, List.getElem?_eq_getElem hltr]; rfl)
        have hjI : (j : Int) < (l.length : Int) := by omega
        have hjR : (j : Int) < (r.length : Int) := by omega
        have hj0 : 0 ≤ (j : Int) := Int.natCast_nonneg _
        have hz1 := HLa.out l[j] (List.getElem_mem hlt)
        have hz2 := HLb.out r[j] (List.getElem_mem hltr)
        generalize l[j] = x at a0 hra HG hz1
        generalize r[j] = y at b0 hrb HG hz2
        obtain ⟨qx, hqx⟩ : ∃ qx, (cmpR x y == 0) = qx := ⟨_, rfl⟩
        have HC := Lib.hid (rowSame_any A1 A2 c1 c2 x y wr hra hrb hz1 hz2)
        rw [hqx] at HC
        have HG2 := Lib.hid (show (cmpR (l.getD j []) (r.getD j []) == 0) = qx by rw [HG.out]; exact hqx)
        clear hltr hra hrb hz1 hz2 hqx
        cases qx
        · obtain rfl : false = q := by rw [← HQ.out, eqRs_no hlt HG2.out]
          clear hlt
          go_wp2_with fail
          refine HC.out.mono ?_
          rintro e w1 ⟨rfl, hb1⟩
          have HB1 := Lib.hid (bt HW.out hb1)
          clear hb1
          go_wp2_with fail
          go_ret
          exact ⟨rfl, HB1.out⟩
        · have HN1 := Lib.hid (fun i (hi : i < j + 1) => by
            rcases Nat.lt_or_ge i j with h' | h'
            · exact HNo.out i h'
            · obtain rfl : i = j := by omega
              exact HG2.out)
          clear hlt
          go_wp2_with fail
          refine HC.out.mono ?_
          rintro e w1 ⟨rfl, hb1⟩
          have HB1 := Lib.hid (bt HW.out hb1)
          clear hb1
          go_wp2_with fail
          go_roundw
          case rel => exact ⟨j + 1, by omega, by go_num, HB1, HN1⟩
          case measure => simp [intOf]; omega
      · obtain rfl : true = q := by rw [← HQ.out, eqRs_yes HLn.out fun i hi => HNo.out i (by omega)]
        go_wp2_with fail
        go_ret
        exact ⟨rfl, HW.out⟩
  · obtain rfl : false = q := by rw [← HQ.out, eqRs, decide_eq_false hlen, Bool.false_and]
    have hne : ((l.length : Int) != (r.length : Int)) = true := by rw [bne_iff_ne]; omega
    go_enter Tryz.func90, Tryz.ntmps90
    go_wp2_with fail
    go_ret
    exact ⟨rfl, Below.refl _ _⟩
set_option maxRecDepth 100000 in
set_option maxHeartbeats 2000000 in
theorem rsameList_any (A B : Option Addr) (c d : Nat) (l r : List (List Va)) (w : World) (hA : RowsAt w A l) (hB : RowsAt w B r) (hl : l.length ≤ 9223372036854775807) (hla : ∀ x ∈ l, x.length ≤ 9223372036854775807) (hlb : ∀ x ∈ r, x.length ≤ 9223372036854775807) {q : Bool} (hq : eqRs l r = q) :
    Calls Tryz.prog 27 #[.slice A l.length c, .slice B r.length d] w fun e w' => e = .returned (.bool q) ∧ Below w.heap.size w w' := by
  have HA := Lib.hid hA
  have HB := Lib.hid hB
  have HLa := Lib.hid hla
  have HLb := Lib.hid hlb
  have HQ := Lib.hid hq
  clear hA hB hq hla hlb
  by_cases hlen : l.length = r.length
  · have hne : ((l.length : Int) != (r.length : Int)) = false := by rw [bne_eq_false_iff_eq]; omega
    have HLn := Lib.hid hlen
    clear hlen
    go_enter Tryz.func27, Tryz.ntmps27
    go_wp2_with fail
    clear hne
    go_loopw [5] (fun i wr => ∃ j : Nat, j ≤ l.length ∧ i = .int .i64 j ∧ Hid (Below w.heap.size w wr) ∧ Hid (∀ i, i < j → (cmpR (l.getD i []) (r.getD i []) == 0) = true)) (fun i _ => l.length - (intOf i).toNat)
    case atStart => exact ⟨0, Nat.zero_le _, rfl, Lib.hid (Below.refl _ _), Lib.hid (fun i hi => absurd hi (by omega))⟩
    case round =>
      obtain ⟨j, hj, rfl, HW, HNo⟩ := hrel
      by_cases hlt : j < l.length
      · have hltr : j < r.length := by rw [← HLn.out]; exact hlt
        obtain ⟨b1, off1, rfl, A1, c1, a0, hra⟩ := (HA.out.kept HW.out).cellAt hlt
        obtain ⟨b2, off2, rfl, A2, c2, b0, hrb⟩ := (HB.out.kept HW.out).cellAt hltr
        have HG := Lib.hid (show cmpR (l.getD j []) (r.getD j []) = cmpR l[j] r[j] by
          rw [List.getD_eq_getElem?_getD, List.getD_eq_getElem?_getD, List.getElem?_eq_getElem hlt, List.getElem?_eq_getElem hltr]; rfl)
        have hjI : (j : Int) < (l.length : Int) := by omega
        have hjR : (j : Int) < (r.length : Int) := by omega
        have hj0 : 0 ≤ (j : Int) := Int.natCast_nonneg _
        have hz1 := HLa.out l[j] (List.getElem_mem hlt)
        have hz2 := HLb.out r[j] (List.getElem_mem hltr)
        generalize l[j] = x at a0 hra HG hz1
        generalize r[j] = y at b0 hrb HG hz2
        obtain ⟨qx, hqx⟩ : ∃ qx, (cmpR x y == 0) = qx := ⟨_, rfl⟩
        have HX := Lib.hid hra
        have HY := Lib.hid hrb
        have HC := Lib.hid (fun (W : World) (hW : Below wr.heap.size wr W) => (refRowSame_any A1 A2 c1 c2 x y W (HX.out.kept hW) (HY.out.kept hW) hz1 hz2).mono (fun e w' (hq : _ ∧ _) => (show e = .returned (.bool (cmpR x y == 0)) ∧ Below wr.heap.size wr w' from ⟨hq.1, bt hW hq.2⟩)))
        rw [hqx] at HC
        have HG2 := Lib.hid (show (cmpR (l.getD j []) (r.getD j []) == 0) = qx by rw [HG.out]; exact hqx)
        have hB1 := Below.drew (Below.refl wr.heap.size wr)
        clear hltr hra hrb hz1 hz2 hqx
        cases qx
        · obtain rfl : false = q := by rw [← HQ.out, eqRs_no hlt HG2.out]
          clear hlt
          go_wp2_with fail
          go_region_held3 (fun w' => Below wr.heap.size wr w' ∧ w'.cell? ⟨b1, off1 + j, none⟩ = some (.slice A1 x.length c1) ∧ w'.cell? ⟨b2, off2 + j, none⟩ = some (.slice A2 y.length c2))
            (first
              | exact ⟨hB1, a0, b0⟩
              | exact ⟨hbx, cell_kept hbx a0, cell_kept hbx b0⟩)
            (first
              | (go_at_call 50; refine (HC.out _ (by exact hB1)).mono ?_; rintro e w' ⟨rfl, hbx⟩))
          rename_i hold
          have HB2 := Lib.hid (bt HW.out hold.1)
          clear hold
          go_wp2_with fail
          go_ret
          exact ⟨rfl, HB2.out⟩
        · have HN1 := Lib.hid (fun i (hi : i < j + 1) => by
            rcases Nat.lt_or_ge i j with h' | h'
            · exact HNo.out i h'
            · obtain rfl : i = j := by omega
              exact HG2.out)
          clear hlt
          go_wp2_with fail
          go_region_held3 (fun w' => Below wr.heap.size wr w' ∧ w'.cell? ⟨b1, off1 + j, none⟩ = some (.slice A1 x.length c1) ∧ w'.cell? ⟨b2, off2 + j, none⟩ = some (.slice A2 y.length c2))
            (first
              | exact ⟨hB1, a0, b0⟩
              | exact ⟨hbx, cell_kept hbx a0, cell_kept hbx b0⟩)
            (first
              | (go_at_call 50; refine (HC.out _ (by exact hB1)).mono ?_; rintro e w' ⟨rfl, hbx⟩))
          rename_i hold
          have HB2 := Lib.hid (bt HW.out hold.1)
          clear hold
          go_wp2_with fail
          go_roundw
          case rel => exact ⟨j + 1, by omega, by go_num, HB2, HN1⟩
          case measure => simp [intOf]; omega
      · obtain rfl : true = q := by rw [← HQ.out, eqRs_yes HLn.out fun i hi => HNo.out i (by omega)]
        go_wp2_with fail
        go_ret
        exact ⟨rfl, HW.out⟩
  · obtain rfl : false = q := by rw [← HQ.out, eqRs, decide_eq_false hlen, Bool.false_and]
    have hne : ((l.length : Int) != (r.length : Int)) = true := by rw [bne_iff_ne]; omega
    go_enter Tryz.func27, Tryz.ntmps27
    go_wp2_with fail
    go_ret
    exact ⟨rfl, Below.refl _ _⟩
end Go.Proofs.YtmjckdgomlppeaaGreatDoor
end
section
namespace Go.Proofs.YtmjckdgomlppeaaGreatDoor
open Go.RowKit Go.Shelf
attribute [local go_sem] Oper.semAt_some

/-- Have two lists the same rows, each as often? -/
noncomputable def permB (a b : List (List Va)) : Bool := @decide (a.Perm b) (Classical.propDecidable _)
theorem permB_len {a b : List (List Va)} (h : a.length ≠ b.length) : permB a b = false := by
  unfold permB; exact @decide_eq_false _ (Classical.propDecidable _) fun hp => h hp.length_eq
theorem inOrder_of {l : List (List Va)} (h : l.Pairwise (fun a b => cmpR a b ≤ 0)) : InOrder l := h.imp fun hab => by simpa [leR] using hab
theorem eqRs_perm {a b a' b' : List (List Va)} (ha : a'.Perm a) (hb : b'.Perm b) (oa : InOrder a') (ob : InOrder b') : eqRs a' b' = permB a b := by
  by_cases hp : a.Perm b
  · have : a' = b' := oa.eq ob ((ha.trans hp).trans hb.symm)
    rw [permB, @decide_eq_true _ (Classical.propDecidable _) hp]
    exact eqRs_iff.2 this
  · rw [permB, @decide_eq_false _ (Classical.propDecidable _) hp]
    cases he : eqRs a' b' with
    | false => rfl
    | true =>
      have := eqRs_iff.1 he
      subst this
      exact absurd (ha.symm.trans hb) hp
set_option maxRecDepth 100000 in
set_option maxHeartbeats 1000000 in
theorem sameRows_any (A B : Option Addr) (c d : Nat) (a b : List (List Va)) (w : World) (hA : RowsAt w A a) (hB : RowsAt w B b) (hl : a.length ≤ 65536) (hl' : b.length ≤ 65536) (hla : ∀ x ∈ a, x.length ≤ 65536) (hlb : ∀ x ∈ b, x.length ≤ 65536) {q : Bool} (hq : permB a b = q) :
    Calls Tryz.prog 71 #[.slice A a.length c, .slice B b.length d] w fun e w' => e = .returned (.bool q) ∧ Below w.heap.size w w' := by
  have HQ := Lib.hid hq
  by_cases hlen : a.length = b.length
  · have HS1 := Lib.hid (sort_any A c a w hA hl hla)
    have HS2 := Lib.hid (fun W (hb : Below w.heap.size w W) => sort_any B d b W (hB.kept hb) hl' hlb)
    have HLa := Lib.hid hla
    have HLb := Lib.hid hlb
    have HLl := Lib.hid hl
    have hne : ((a.length : Int) == (b.length : Int)) = true := by rw [beq_iff_eq]; omega
    clear hA hB hq hla hlb hlen hl hl'
    go_enter Tryz.func71, Tryz.ntmps71
    go_wp2_with fail
    refine HS1.out.mono ?_
    rintro e w1 ⟨g1, a', rfl, hr1, hp1, ho1, hb1⟩
    have HR1 := Lib.hid (show RowsAt w1 (some ⟨g1, 0, none⟩) a' from hr1)
    have HP1 := Lib.hid hp1
    have HO1 := Lib.hid (inOrder_of ho1)
    have HB1 := Lib.hid hb1
    clear hr1 hp1 ho1 hb1
    go_wp2_with fail
    refine (HS2.out w1 HB1.out).mono ?_
    rintro e w2 ⟨g2, b', rfl, hr2, hp2, ho2, hb2⟩
    have hla1 : a'.length = a.length := HP1.out.length_eq
    have hlb1 : b'.length = b.length := hp2.length_eq
    have hE := equalRows_any (some ⟨g1, 0, none⟩) (some ⟨g2, 0, none⟩) a.length b.length a' b' w2 (HR1.out.kept hb2) (show RowsAt w2 (some ⟨g2, 0, none⟩) b' from hr2) (by have := HLl.out; omega) (fun x hx => by have := HLa.out x (HP1.out.mem_iff.1 hx); omega) (fun x hx => by have := HLb.out x (hp2.mem_iff.1 hx); omega) ((eqRs_perm HP1.out hp2 HO1.out (inOrder_of ho2)).trans HQ.out)
    rw [hla1, hlb1] at hE
    have HE := Lib.hid hE
    have HB2 := Lib.hid (bt HB1.out hb2)
    clear hla1 hlb1 hE hr2 hp2 ho2 hb2
    go_wp2_with fail
    refine HE.out.mono ?_
    rintro e w3 ⟨rfl, hb3⟩
    have HB3 := Lib.hid (bt HB2.out hb3)
    clear hb3
    go_wp2_with fail
    go_ret
    exact ⟨rfl, HB3.out⟩
  · obtain rfl : false = q := by rw [← HQ.out, permB_len hlen]
    have hne : ((a.length : Int) == (b.length : Int)) = false := by rw [beq_eq_false_iff_ne]; omega
    clear hlen hq
    go_enter Tryz.func71, Tryz.ntmps71
    go_wp2_with fail
    go_ret
    exact ⟨rfl, Below.refl _ _⟩
/-- Are two tables the same, whatever order their rows stand in? -/
noncomputable def sameT (t u : Ta) : Bool := (t.nm.toList == u.nm.toList) && sameCs t.cols u.cols && permB t.rows u.rows
/-- Few enough rows to be sorted. -/
structure Few (t : Ta) : Prop where
  co : t.cols.length ≤ 65536
  n : t.rows.length ≤ 65536
  l : ∀ r ∈ t.rows, r.length ≤ 65536
set_option maxRecDepth 100000 in
set_option maxHeartbeats 2000000 in
theorem sameTable_any (t u : Ta) (A B A' B' : Option Addr) (c d c' d' : Nat) (w : World) (h : TaOk w t A c B d) (h' : TaOk w u A' c' B' d') (hf : Few t) (hf' : Few u) {q : Bool} (hq : sameT t u = q) :
    Calls Tryz.prog 46 #[TV t.nm A t.cols.length c B t.rows.length d, TV u.nm A' u.cols.length c' B' u.rows.length d'] w fun e w' => e = .returned (.bool q) ∧ Below w.heap.size w w' := by
  have h1 := ba w (tbox t.nm A t.cols.length c B t.rows.length d)
  have h2 := ba (w.alloc (tbox t.nm A t.cols.length c B t.rows.length d)) (tbox u.nm A' u.cols.length c' B' u.rows.length d')
  have HX := Lib.hid ((h2.block w.heap.size (by simp)).trans (MapKept.heap_alloc w (tbox t.nm A t.cols.length c B t.rows.length d)).1)
  have HY := Lib.hid (show ((w.alloc (tbox t.nm A t.cols.length c B t.rows.length d)).alloc (tbox u.nm A' u.cols.length c' B' u.rows.length d')).heap[w.heap.size + 1]? = some (tbox u.nm A' u.cols.length c' B' u.rows.length d') by
    have := (MapKept.heap_alloc (w.alloc (tbox t.nm A t.cols.length c B t.rows.length d)) (tbox u.nm A' u.cols.length c' B' u.rows.length d')).1
    rwa [World.size_alloc] at this)
  have HB := Lib.hid (bt h1 h2)
  have HE := Lib.hid (fun W (hb : Below w.heap.size w W) q (hq : sameCs t.cols u.cols = q) => equalCols_any A A' c c' t.cols u.cols W (h.co.kept hb) (h'.co.kept hb) (by have := hf.co; omega) hq)
  have HR := Lib.hid (fun W (hb : Below w.heap.size w W) q (hq : permB t.rows u.rows = q) => sameRows_any B B' d d' t.rows u.rows W (h.ro.kept hb) (h'.ro.kept hb) hf.n hf'.n hf.l hf'.l hq)
  have HQ := Lib.hid (show ((t.nm.toList == u.nm.toList) && sameCs t.cols u.cols && permB t.rows u.rows) = q from hq)
  obtain ⟨nm, cols, rows⟩ := t
  obtain ⟨nm', cols', rows'⟩ := u
  simp only at HX HY HB HE HR HQ ⊢
  clear h1 h2 h h' hf hf' hq
  go_enter Tryz.func46, Tryz.ntmps46
  go_upto_region 1 with fail
  generalize (w.alloc (.cells #[.string nm, .slice A cols.length c, .slice B rows.length d] 29)).alloc (.cells #[.string nm', .slice A' cols'.length c', .slice B' rows'.length d'] 29) = W0 at HX HY HB ⊢
  obtain ⟨x0, x1, x2⟩ := cell3 HX.out
  obtain ⟨y0, y1, y2⟩ := cell3 HY.out
  cases hn : (nm.toList == nm'.toList)
  · obtain rfl : false = q := by rw [← HQ.out, hn]; rfl
    go_wp2_with fail
    go_ret
    exact ⟨rfl, HB.out⟩
  · obtain ⟨q1, hq1⟩ : ∃ q1, sameCs cols cols' = q1 := ⟨_, rfl⟩
    have HQ1 := Lib.hid (show (q1 && permB rows rows') = q by rw [← HQ.out, hn, hq1]; rfl)
    have HE1 := Lib.hid (HE.out W0 HB.out q1 hq1)
    clear hq1 HQ
    go_wp2_with fail
    refine HE1.out.mono ?_
    rintro e w1 ⟨rfl, hb1⟩
    have hx1 := (hb1.block _ (Array.getElem?_eq_some_iff.1 HX.out).1).trans HX.out
    have hy1 := (hb1.block _ (Array.getElem?_eq_some_iff.1 HY.out).1).trans HY.out
    have HB1 := Lib.hid (bt HB.out hb1)
    clear x0 x1 x2 y0 y1 y2 hb1
    obtain ⟨x0, x1, x2⟩ := cell3 hx1
    obtain ⟨y0, y1, y2⟩ := cell3 hy1
    clear hx1 hy1
    cases q1
    · obtain rfl : false = q := by rw [← HQ1.out]; rfl
      go_wp2_with fail
      go_ret
      exact ⟨rfl, HB1.out⟩
    · have HR1 := Lib.hid (HR.out w1 HB1.out q (by rw [← HQ1.out]; rfl))
      go_wp2_with fail
      refine HR1.out.mono ?_
      rintro e w2 ⟨rfl, hb2⟩
      have HB2 := Lib.hid (bt HB1.out hb2)
      clear hb2
      go_wp2_with fail
      go_ret
      exact ⟨rfl, HB2.out⟩
end Go.Proofs.YtmjckdgomlppeaaGreatDoor
end
