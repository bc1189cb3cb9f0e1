/-
  Contracts of hash.Bytes and of the document's own: the number of bytes.
-/
import Derived.Test.YtlobgdfmgbedgaaRRead
import Derived.OneCell
import Derived.Laws.Closers25b
import Derived.Shelf.Abstract
namespace Go.Proofs.Ytlobgdfmgbedgaa
open Go.RowKit Go.Shelf

/-- A byte more; the end; the number of bytes. -/
def stepH (h b : Int) : Int := IntKind.u64.wrap (bits BinOp.xor IntKind.u64 h (IntKind.u64.wrap b) * 1099511628211)
def foldH (h : Int) : Int := bits BinOp.xor IntKind.u64 h (h / 4294967296)
def seedH (s : Int) : Int := IntKind.u64.wrap (s + 14695981039346656037)
def numH (s : Int) (bs : List Int) : Int := foldH (bs.foldl stepH (seedH s))
theorem numH_lo (s : Int) (bs : List Int) : 0 ≤ numH s bs := by unfold numH foldH; exact bits_lo_u64 _ _ _
theorem numH_hi (s : Int) (bs : List Int) : numH s bs ≤ 18446744073709551615 := by unfold numH foldH; exact bits_hi_u64 _ _ _
theorem fold_succ (bs : List Int) (s : Int) (j : Nat) (h : j < bs.length) : (bs.take (j + 1)).foldl stepH s = stepH ((bs.take j).foldl stepH s) bs[j] := by
  rw [List.take_succ_eq_append_getElem h, List.foldl_append]; rfl
theorem byte_at (l : List Int) (j : Nat) (h : j < l.length) : (l.map (Value.int .u8))[j]? = some (.int .u8 l[j]) := by
  rw [List.getElem?_map, List.getElem?_eq_getElem h]; rfl

theorem BytesAt.low {w : World} {A : Option Addr} {bs : List Int} (h : BytesAt w A bs) : bs ≠ [] → ∀ b off, A = some ⟨b, off, none⟩ → b < w.heap.size := by
  intro hne b off hA
  rcases h.1 with h0 | ⟨b', off', hA', hlt, _⟩
  · exact absurd (by simpa using h0) hne
  · rw [hA] at hA'; cases hA'; exact hlt

/-- A box of one cell: the number so far. -/
def BoxH (w : World) (g : Nat) (h : Int) : Prop := w.heap[g]? = some (.cells #[.int .u64 h] 101 (0, 0))

set_option maxHeartbeats 400000 in
theorem take_any (g : Nat) (h b : Int) (w : World) (hc : BoxH w g h) :
    Calls Try.prog 76 #[.pointer (some ⟨g, 0, none⟩), .int .u8 b] w fun e w' => e = .returned (.tuple #[]) ∧ w' = w.setCell ⟨g, 0, none⟩ (.int .u64 (stepH h b)) := by
  have c0 := cell_of_one hc
  have f0 := free_of_one hc
  clear hc
  go_enter Try.func76, Try.ntmps76
  go_wp2_with fail
  go_end0
  exact ⟨rfl, rfl⟩

set_option maxHeartbeats 400000 in
theorem folded_any (h : Int) (w : World) :
    Calls Try.prog 77 #[.int .u64 h] w fun e w' => e = .returned (.int .u64 (foldH h)) ∧ w = w' := by
  go_enter Try.func77, Try.ntmps77
  go_wp2_with fail
  go_ret
  exact ⟨rfl, rfl⟩

/-- Behind 'each': the box holds the number, all that lay below is as it was. -/
def EachEnd (B g : Nat) (h : Int) (w : World) (e : Ending) (w' : World) : Prop := e = .returned (.tuple #[]) ∧ BoxH w' g h ∧ Below B w w'

set_option maxHeartbeats 1000000 in
theorem each_any (B g : Nat) (A : Option Addr) (c : Nat) (s : Int) (bs : List Int) (w : World) (h : BytesAt w A bs) (hg : B ≤ g) (hA : bs ≠ [] → ∀ b off, A = some ⟨b, off, none⟩ → b < B) (hc : BoxH w g s) (hl : bs.length ≤ 9223372036854775807) :
    Calls Try.prog 75 #[.slice A bs.length c, .func (.func 76) #[.pointer (some ⟨g, 0, none⟩)] #[]] w (EachEnd B g (bs.foldl stepH s) w) := by
  have eg := enters_of Try.func76 (by kernel_rfl) rfl
  unfold Enters at eg
  have HH := Lib.hid h
  have HC := Lib.hid hc
  have HA := Lib.hid hA
  clear h hc hA
  go_enter Try.func75, Try.ntmps75
  go_wp2_with fail
  go_loopw [5, 8] (fun _ i wr => ∃ j : Nat, j ≤ bs.length ∧ i = .int .i64 j ∧ Hid (BoxH wr g ((bs.take j).foldl stepH s)) ∧ Hid (Below B w wr)) (fun _ i _ => bs.length - (intOf i).toNat)
  case atStart => exact ⟨0, Nat.zero_le _, rfl, Lib.hid (by simpa using HC.out), Lib.hid (Below.refl _ _)⟩
  case round =>
    obtain ⟨j, hj, rfl, HB, HW⟩ := hrel
    by_cases hlt : j < bs.length
    · obtain ⟨b, off, rfl, hb, c0⟩ := HH.out.1.at (byte_at bs j hlt)
      have c1 := (HW.out.cell (p := ⟨b, off + j, none⟩) (HA.out (by intro hh; subst hh; simp at hlt) b off rfl)).trans c0
      have HS := Lib.hid (fold_succ bs s j hlt)
      generalize bs[j] = x at c1 HS
      clear c0
      go_wp2_with fail
      refine (take_any g _ x _ HB.out).mono ?_
      rintro e w1 ⟨rfl, hw1⟩
      have HB1 := Lib.hid (show BoxH w1 g ((bs.take (j + 1)).foldl stepH s) by rw [HS.out, hw1]; exact one_setCell HB.out)
      have HW1 := Lib.hid (show Below B w w1 by rw [hw1]; exact HW.out.setCell hg _)
      clear hw1 c1
      go_wp2_with fail
      go_roundw
      case rel => exact ⟨j + 1, by omega, by go_num, HB1, HW1⟩
      case measure => simp [intOf]; omega
    · obtain rfl : j = bs.length := by omega
      go_wp2_with fail
      go_end0
      have hb := HB.out
      rw [List.take_length] at hb
      exact ⟨rfl, hb, HW.out⟩

set_option maxHeartbeats 400000 in
theorem hashBytes_any (A : Option Addr) (c : Nat) (s : Int) (bs : List Int) (w : World) (h : BytesAt w A bs) (hl : bs.length ≤ 9223372036854775807) :
    Calls Try.prog 32 #[.int .u64 s, .slice A bs.length c] w fun e w' => e = .returned (.int .u64 (numH s bs)) ∧ Below w.heap.size w w' := by
  have HH := Lib.hid h
  clear h
  go_enter Try.func32, Try.ntmps32
  go_wp2_with fail
  refine (each_any w.heap.size w.heap.size A c (seedH s) bs _ (HH.out.kept (ba _ _)) (Nat.le_refl _) HH.out.low (heap_alloc_new w _) hl).mono ?_
  rintro e w1 ⟨rfl, hb, hB⟩
  have c0 := cell_of_one hb
  have HB := Lib.hid ((ba w _).trans hB)
  clear hb hB
  go_wp2_with fail
  refine (folded_any _ _).mono ?_
  rintro e w2 ⟨rfl, rfl⟩
  go_wp2_with fail
  go_ret
  exact ⟨rfl, HB.out⟩

set_option maxHeartbeats 400000 in
theorem refBytes_any (A : Option Addr) (c : Nat) (s : Int) (bs : List Int) (w : World) (h : BytesAt w A bs) (hl : bs.length ≤ 9223372036854775807) :
    Calls Try.prog 33 #[.int .u64 s, .slice A bs.length c] w fun e w' => e = .returned (.int .u64 (numH s bs)) ∧ w = w' := by
  have HH := Lib.hid h
  clear h
  go_enter Try.func33, Try.ntmps33
  go_wp2_with fail
  go_loop [5, 6] (fun v i => ∃ j : Nat, j ≤ bs.length ∧ i = .int .i64 j ∧ v = .int .u64 ((bs.take j).foldl stepH (seedH s))) (fun _ i => bs.length - (intOf i).toNat)
  case atStart => exact ⟨0, Nat.zero_le _, rfl, rfl⟩
  case round =>
    obtain ⟨j, hj, rfl, rfl⟩ := hrel
    by_cases hlt : j < bs.length
    · obtain ⟨b, off, rfl, hb, c0⟩ := HH.out.1.at (byte_at bs j hlt)
      have HS := Lib.hid (fold_succ bs (seedH s) j hlt)
      generalize bs[j] = x at c0 HS
      generalize (bs.take j).foldl stepH (seedH s) = y at HS ⊢
      go_wp2_with fail
      go_round
      case rel => exact ⟨j + 1, by omega, by go_num, by rw [HS.out]; rfl⟩
      case measure => simp [intOf]; omega
    · obtain rfl : j = bs.length := by omega
      go_wp2_with fail
      go_ret
      exact ⟨rfl, rfl⟩
end Go.Proofs.Ytlobgdfmgbedgaa
