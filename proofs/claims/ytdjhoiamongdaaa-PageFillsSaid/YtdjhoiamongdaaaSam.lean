/-
  Lists of rows that are the same, one by one: contract of the document's own SameList.
-/
import Derived.Test.YtdjhoiamongdaaaROrd
import Derived.Test.YtdjhoiamongdaaaLst
import Derived.Deep.RegionHeld3
namespace Go.Proofs.Ytdjhoiamongdaaa
open Go.RowKit Go.Shelf

theorem ListOwn.rows {w : World} {B : Nat} {v : Value} {p : List (List Va)} (h : ListOwn w B v p) : ∃ A c, v = .slice A p.length c ∧ RowsAt w A p := by
  obtain ⟨xs, ho, he⟩ := h
  rcases ho.2 with ⟨rfl, hn⟩ | ⟨g, cap, cur, rfl, hb, hgg, hnc, hcm, hcs, htake⟩
  · rw [List.eq_nil_of_length_eq_zero hn]
    exact ⟨none, 0, rfl, .inl rfl⟩
  · refine ⟨some ⟨g, 0, none⟩, cap, rfl, .inr ⟨g, 0, rfl, lt_of_block hgg, fun i r hr => ?_⟩⟩
    obtain ⟨A, c, hx, hel, hA⟩ := he.2 i r hr
    refine ⟨A, c, ?_, hel.1, hA⟩
    rw [Nat.zero_add]
    have hcell := World.ownsRow.cells ho (g := g) rfl i _ hx
    have hadd : (⟨g, 0, none⟩ : Addr).add i = ⟨g, i, none⟩ := by unfold Addr.add; split <;> simp_all
    rwa [hadd] at hcell

theorem refSame_self (A A' : Option Addr) (c c' : Nat) (r : List Va) (w : World) (h : RowAt w A r) (h' : RowAt w A' r) (hl : r.length ≤ 9223372036854775807) :
    Calls Try.prog 29 #[.slice A r.length c, .slice A' r.length c'] w fun e w' => e = .returned (.bool true) ∧ Below w.heap.size w w' := by
  have := refRowSame_any A A' c c' r r w h h' hl hl
  rw [cmpR_self] at this
  exact this

theorem RowsAt.cellAt {w : World} {B : Option Addr} {rs : List (List Va)} (h : RowsAt w B rs) {i : Nat} (hi : i < rs.length) :
    ∃ b off : Nat, B = some ⟨b, off, none⟩ ∧ ∃ A c, w.cell? ⟨b, off + i, none⟩ = some (.slice A rs[i].length c) ∧ RowAt w A rs[i] := by
  rcases h with h | ⟨b, off, hB, hlt, hc⟩
  · subst h; simp at hi
  · obtain ⟨A, c, hcell, hrow, hA⟩ := hc i rs[i] (List.getElem?_eq_getElem hi)
    exact ⟨b, off, hB, A, c, hcell, hrow⟩

set_option maxRecDepth 100000 in
set_option maxHeartbeats 2000000 in
theorem sameList_self (B B' : Option Addr) (c c' : Nat) (rs : List (List Va)) (w : World) (h : RowsAt w B rs) (h' : RowsAt w B' rs) (hn : rs.length ≤ 9223372036854775807) (hl : ∀ r ∈ rs, r.length ≤ 9223372036854775807) :
    Calls Try.prog 28 #[.slice B rs.length c, .slice B' rs.length c'] w fun e w' => e = .returned (.bool true) ∧ Below w.heap.size w w' := by
  have HR := Lib.hid h
  have HR' := Lib.hid h'
  have HL := Lib.hid hl
  clear h h' hl
  go_enter Try.func28, Try.ntmps28
  go_wp2_with fail
  go_loopw [5] (fun i wr => ∃ j : Nat, j ≤ rs.length ∧ i = .int .i64 j ∧ Hid (Below w.heap.size w wr)) (fun i _ => rs.length - (intOf i).toNat)
  case atStart => exact ⟨0, Nat.zero_le _, rfl, Lib.hid (Below.refl _ _)⟩
  case round =>
    obtain ⟨j, hj, rfl, HB⟩ := hrel
    by_cases hlt : j < rs.length
    · obtain ⟨b, off, rfl, A, ca, c0, r0⟩ := (HR.out.kept HB.out).cellAt hlt
      obtain ⟨b', off', rfl, A', ca', d0, s0⟩ := (HR'.out.kept HB.out).cellAt hlt
      have hrl := HL.out rs[j] (List.getElem_mem hlt)
      generalize rs[j] = r at c0 r0 d0 s0 hrl
      have HX := Lib.hid r0
      have HY := Lib.hid s0
      clear r0 s0
      have hi0 : (0 : Int) ≤ (j : Int) := Int.natCast_nonneg _
      have hi1 : (j : Int) < (rs.length : Int) := by omega
      have HZ := Lib.hid (fun (W : World) (hW : Below wr.heap.size wr W) => (refSame_self A A' ca ca' r W (HX.out.kept hW) (HY.out.kept hW) hrl).mono (fun e w' (hq : _ ∧ _) => (show e = .returned (.bool true) ∧ Below wr.heap.size wr w' from ⟨hq.1, bt hW hq.2⟩)))
      have hB1 := Below.drew (Below.refl wr.heap.size wr)
      go_wp2_with fail
      go_region_held3 (fun w' => Below wr.heap.size wr w' ∧ w'.cell? ⟨b, off + j, none⟩ = some (.slice A r.length ca) ∧ w'.cell? ⟨b', off' + j, none⟩ = some (.slice A' r.length ca'))
        (first
          | exact ⟨hB1, c0, d0⟩
          | exact ⟨hbx, cell_kept hbx c0, cell_kept hbx d0⟩)
        (first
          | (go_at_call 29; refine (HZ.out _ (by exact hB1)).mono ?_; rintro e w' ⟨rfl, hbx⟩))
      rename_i hold
      have HB2 := Lib.hid (bt HB.out hold.1)
      clear hold
      go_wp2_with fail
      go_roundw
      case rel => exact ⟨j + 1, by omega, by go_num, HB2⟩
      case measure => simp [intOf]; omega
    · go_wp2_with fail
      go_ret
      exact ⟨rfl, HB.out⟩
theorem sameList_L (B B' : Option Addr) (L c c' : Nat) (rs : List (List Va)) (w : World) (hL : rs.length = L) (h : RowsAt w B rs) (h' : RowsAt w B' rs) (hn : L ≤ 9223372036854775807) (hl : ∀ r ∈ rs, r.length ≤ 9223372036854775807) :
    Calls Try.prog 28 #[.slice B L c, .slice B' L c'] w fun e w' => e = .returned (.bool true) ∧ Below w.heap.size w w' := by
  subst hL; exact sameList_self B B' c c' rs w h h' hn hl
end Go.Proofs.Ytdjhoiamongdaaa
