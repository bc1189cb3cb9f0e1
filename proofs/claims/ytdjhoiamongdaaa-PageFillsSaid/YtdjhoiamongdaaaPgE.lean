/-
  A page of the call's own in memory; contracts of page.New, draft.count, draft.fits.
-/
import Derived.Test.YtdjhoiamongdaaaPgD
import Derived.Test.YtdjhoiamongdaaaPgA0
import Derived.Laws.MakeOwn
import Derived.Deep.QuietTactic
import Derived.BigQuiet
namespace Go.Proofs.Ytdjhoiamongdaaa
open Go.RowKit Go.Shelf

def byteC (bs : List Int) : Array Value := (bs.map (Value.int .u8)).toArray
/-- Block g is just these bytes. -/
def OwnB (w : World) (g : Nat) (bs : List Int) : Prop := w.heap[g]? = some (.cells (byteC bs) 5 (0, 0))
section
variable {w w' : World} {g : Nat} {bs : List Int}
theorem OwnB.lt (h : OwnB w g bs) : g < w.heap.size := by
  rcases Nat.lt_or_ge g w.heap.size with hl | hg
  · exact hl
  · unfold OwnB at h; rw [Array.getElem?_eq_none hg] at h; cases h
theorem OwnB.cellAt (h : OwnB w g bs) (o : Nat) : w.cell? ⟨g, o, none⟩ = (bs[o]?).map (Value.int .u8) := by
  unfold OwnB at h
  simp [World.cell?, h, byteC]
theorem OwnB.at (h : OwnB w g bs) {o : Nat} (ho : o < bs.length) : w.cell? ⟨g, o, none⟩ = some (.int .u8 (bs.getD o 0)) := by
  rw [h.cellAt]; simp [List.getD, ho]
theorem OwnB.free (h : OwnB w g bs) (o : Nat) : w.frozen? ⟨g, o, none⟩ = false := by
  unfold OwnB at h
  simp [World.frozen?, h]
theorem OwnB.kept (h : OwnB w g bs) (hb : Below w.heap.size w w') : OwnB w' g bs := (hb.block g h.lt).trans h
theorem OwnB.keptB {B : Nat} (h : OwnB w g bs) (hg : g < B) (hb : Below B w w') : OwnB w' g bs := (hb.block g hg).trans h
theorem OwnB.new (w : World) (bs : List Int) : OwnB (w.alloc (.cells (byteC bs) 5)) w.heap.size bs := heap_alloc_new w _
theorem OwnB.put (h : OwnB w g bs) (o : Nat) (x : Int) : OwnB (w.setCell ⟨g, o, none⟩ (.int .u8 x)) g (bs.set o x) := by
  unfold OwnB at h ⊢
  simp only [World.setCell, Array.getElem?_modify, if_true, h, Option.map_some]
  simp [byteC]
theorem OwnB.bytes (h : OwnB w g bs) (hr : ∀ x ∈ bs, 0 ≤ x ∧ x < 256) : BytesAt w (some ⟨g, 0, none⟩) bs := by
  refine ⟨?_, hr⟩
  refine .inr ⟨g, 0, rfl, h.lt, fun i v hv => ?_⟩
  rw [Nat.zero_add, h.cellAt, ← hv]; simp
end

def zeroP : List Int := List.replicate 256 0
theorem make_page (w : World) : (Instr.makeSlice 25 (.int .i64 256) (.int .i64 256)).run Try.prog w =
    .ok (.slice (some ⟨w.heap.size, 0, none⟩) 256 256) (w.alloc (.cells (byteC zeroP) 5)) := by
  obtain ⟨i0, hi, hz0, hz1, hz2⟩ := info_parts info_byte
  have h := run_make (P := Try.prog) w 25 5 i0 _ Try.underlying25 hi hz0 .i64 .i64 256 256 (by omega) (Int.le_refl _) (by rw [hz2]; omega) (by omega)
  rw [hz1] at h
  have e : madeCells (Value.int .u8 0).cells (256 * 1) = byteC zeroP := by kernel_rfl
  exact h.trans (by rw [← e]; rfl)

set_option maxHeartbeats 400000 in
theorem pageNew_any (w : World) :
    Calls Try.prog 17 #[] w fun e w' => ∃ g, e = .returned (.slice (some ⟨g, 0, none⟩) 256 256) ∧ g = w.heap.size ∧ OwnB w' g zeroP ∧ Below w.heap.size w w' := by
  have hmk := make_page
  go_enter Try.func17, Try.ntmps17
  go_wp2_with fail
  go_ret
  exact ⟨_, rfl, rfl, OwnB.new w zeroP, ba w _⟩

/-- A draft: block d has the page, which is block g, and where its rows end. -/
def DraftAt (w : World) (d g : Nat) (e : Int) : Prop := w.heap[d]? = some (.cells #[.slice (some ⟨g, 0, none⟩) 256 256, .int .i64 e] 100 (0, 0))

set_option maxHeartbeats 400000 in
theorem count_any (d g : Nat) (e : Int) (bs : List Int) (w : World) (hd : DraftAt w d g e) (hb : OwnB w g bs) (hl : bs.length = 256) (h0 : 0 ≤ bs.getD 0 0 ∧ bs.getD 0 0 < 256) :
    Calls Try.prog 91 #[.pointer (some ⟨d, 0, none⟩)] w fun r w' => r = .returned (.int .i64 (bs.getD 0 0)) ∧ w = w' := by
  have c0 := hb.at (o := 0) (by omega)
  have d0 : w.cell? ⟨d, 0, none⟩ = some (.slice (some ⟨g, 0, none⟩) 256 256) := by unfold DraftAt at hd; simp [World.cell?, hd]
  generalize bs.getD 0 0 = x at c0 h0 ⊢
  obtain ⟨x0, x1⟩ := h0
  clear hd hb
  go_enter Try.func91, Try.ntmps91
  go_wp2_with fail
  go_ret
  exact ⟨rfl, rfl⟩

set_option maxHeartbeats 400000 in
theorem fits_any (d g : Nat) (e : Nat) (bs : List Int) (A : Option Addr) (L c : Nat) (n : Nat) (w : World) (hd : DraftAt w d g e) (hb : OwnB w g bs) (hl : bs.length = 256) (hn : bs.getD 0 0 = n) (h0 : n < 256) (he : e ≤ 256) :
    Calls Try.prog 64 #[.pointer (some ⟨d, 0, none⟩), .slice A L c] w fun r w' => r = .returned (.bool (decide ((L : Int) ≤ roomI n e))) ∧ ∃ m, w' = w.drewN m := by
  have HC : ∀ m, Calls Try.prog 91 #[.pointer (some ⟨d, 0, none⟩)] (w.drewN m) fun r w' => r = .returned (.int .i64 n) ∧ w' = w.drewN m := fun m =>
    (count_any d g e bs (w.drewN m) hd hb hl (by omega)).mono fun r w' ⟨h1, h2⟩ => ⟨by rw [h1, hn], h2.symm⟩
  have HM : ∀ m, Calls Try.prog 68 #[.int .i64 n, .int .i64 e] (w.drewN m) fun r w' => r = .returned (.int .i64 (roomI n e)) ∧ w' = w.drewN m := fun m =>
    (roomF_any n e (w.drewN m) (by omega) (by omega) (by omega) (by omega)).mono fun r w' ⟨h1, h2⟩ => ⟨h1, h2.symm⟩
  have d1 : w.cell? ⟨d, 1, none⟩ = some (.int .i64 e) := by unfold DraftAt at hd; simp [World.cell?, hd]
  clear hd hb hl hn
  generalize roomI n e = q at HM ⊢
  go_enter Try.func64, Try.ntmps64
  go_wp2_with fail
  go_quiet (first | (go_at_call 91; exact Calls.quiet_of_same (HC _)) | (go_at_call 68; exact Calls.quiet_of_same (HM _)))
  go_wp2_with fail
  go_ret
  exact ⟨rfl, nq, rfl⟩
end Go.Proofs.Ytdjhoiamongdaaa
