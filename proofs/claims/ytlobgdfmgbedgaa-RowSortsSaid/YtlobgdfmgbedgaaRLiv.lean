/-
  Contract of the law's own 'lives'.
-/
import Derived.Test.YtlobgdfmgbedgaaRLiv0
namespace Go.Proofs.Ytlobgdfmgbedgaa
open Go.RowKit Go.Shelf

theorem row_new (w : World) (n : Nat) (hn : w.heap.size = n) (r : List Va) : RowAt (w.alloc (.cells (rowCells r) 83)) (some ⟨n, 0, none⟩) r := by
  subst hn; exact (Own.new w 83 r).row
theorem cells_new (w : World) (n : Nat) (hn : w.heap.size = n) (T : TypeId) (vs : List Value) : CellsAt (w.alloc (.cells vs.toArray T)) (some ⟨n, 0, none⟩) vs := by
  subst hn
  refine .inr ⟨w.heap.size, 0, rfl, by simp, fun i v hv => ?_⟩
  rw [Nat.zero_add]
  have e := heap_alloc_new w (.cells vs.toArray T)
  unfold World.cell?
  rw [e]
  simp [hv]
theorem list_new (w : World) (ad : Addr) (n m : Nat) (hn : w.heap.size = n) (hm : n + 1 = m) (hr : RowAt w (some ad) ra) :
    ListAt ((w.alloc (.cells (rowCells rb) 83)).alloc (.cells #[.slice (some ad) 2 2, .slice (some ⟨n, 0, none⟩) 1 1] 22)) (some ⟨m, 0, none⟩) [ra, rb] := by
  subst hn hm
  have h1 := row_new w _ rfl rb
  have hb := ba (w.alloc (.cells (rowCells rb) 83)) (.cells #[.slice (some ad) 2 2, .slice (some ⟨w.heap.size, 0, none⟩) 1 1] 22)
  have hc := cells_new (w.alloc (.cells (rowCells rb) 83)) (w.heap.size + 1) (World.size_alloc _ _) 22 [.slice (some ad) 2 2, .slice (some ⟨w.heap.size, 0, none⟩) 1 1]
  rcases hc with hc | ⟨b, off, hA, hlt, hcell⟩
  · cases hc
  · cases hA
    refine .inr ⟨_, 0, rfl, hlt, fun i r hr' => ?_⟩
    match i, hr' with
    | 0, hr' => cases hr'; exact ⟨some ad, 2, hcell 0 _ rfl, (hr.kept (ba _ _)).kept hb, fun hh => by cases hh⟩
    | 1, hr' => cases hr'; exact ⟨_, 1, hcell 1 _ rfl, h1.kept hb, fun hh => by cases hh⟩

def nulls33 : List Va := List.replicate 33 nullA
theorem make33 (w : World) : (Instr.makeSlice 22 (.int .i64 33) (.int .i64 33)).run Try.prog w =
    .ok (.slice (some ⟨w.heap.size, 0, none⟩) 33 33) (w.alloc (.cells (rowCells nulls33) 83)) := make_row 33 (by decide) w

set_option maxRecDepth 100000 in
set_option maxHeartbeats 4000000 in
theorem lives_yes (w : World) :
    Calls Try.prog 17 #[] w fun e w' => e = .returned (.bool true) ∧ Below w.heap.size w w' := by
  go_enter Try.func17, Try.ntmps17
  go_wp2_with fail
  refine (refInt_any 5 w).mono ?_
  rintro e w1 ⟨rfl, hb1⟩
  go_wp2_with fail
  have hr := row_new w1 _ rfl ra
  have hB1 := bt hb1 (ba w1 (.cells (rowCells ra) 83))
  change RowAt (w1.alloc (.cells #[.int .i64 2, .int .i64 5, .string ⟨#[]⟩, .int .i64 0, .int .i64 0, .string ⟨#[]⟩] 83)) _ _ at hr
  change Below _ _ (w1.alloc (.cells #[.int .i64 2, .int .i64 5, .string ⟨#[]⟩, .int .i64 0, .int .i64 0, .string ⟨#[]⟩] 83)) at hB1
  generalize w1.alloc (.cells #[.int .i64 2, .int .i64 5, .string ⟨#[]⟩, .int .i64 0, .int .i64 0, .string ⟨#[]⟩] 83) = W1 at hr hB1 ⊢
  generalize w1.heap.size = g1 at hr ⊢
  clear hb1
  refine (live_put _ W1 hr).mono ?_
  rintro e w2 ⟨g, rfl, hbuf, hb2⟩
  have HR := Lib.hid (hr.kept hb2)
  have HB := Lib.hid (bt hB1 hb2)
  have HF := Lib.hid hbuf
  clear hr hbuf hb2 hB1
  go_wp2_with (at_builtin; refine wpList_pushFull rfl _ _ rfl g 10 rab 9 w2 rfl HF.out rfl _ rfl rfl (by decide) (by decide) (by decide) ?_)
  intro A3 c3 w3 hb3 hc3 hB3
  have HR := Lib.hid (HR.out.kept hB3)
  have HB := Lib.hid (bt HB.out hB3)
  have HF := Lib.hid (HF.out.kept hB3)
  have HG := Lib.hid hb3
  clear hb3 hB3
  go_wp2_with fail
  refine (live_get A3 c3 w3 HG.out hc3).mono ?_
  rintro e w4 ⟨A4, c4, rfl, hr4, hb4⟩
  have HR := Lib.hid (HR.out.kept hb4)
  have HB := Lib.hid (bt HB.out hb4)
  have HF := Lib.hid (HF.out.kept hb4)
  have HX := Lib.hid hr4
  clear HG hr4 hb4 hc3
  go_wp2_with fail
  refine (get_nil none 0 w4).mono ?_
  rintro e w4' ⟨rfl, rfl⟩
  go_wp2_with fail
  refine (live_pick _ _ _ (HR.out.kept (ba _ _)) (cells_new w4 _ rfl _ _)).mono ?_
  rintro e w5 ⟨A5, c5, rfl, hr5, hb5⟩
  have hq := bt (ba w4 _) hb5
  have HR := Lib.hid (HR.out.kept hq)
  have HB := Lib.hid (bt HB.out hq)
  have HF := Lib.hid (HF.out.kept hq)
  have HX := Lib.hid (HX.out.kept hq)
  have HP := Lib.hid hr5
  clear hr5 hb5 hq
  go_wp2_with fail
  refine (live_pick2 _ _ _ (cells_new w5 _ rfl _ _)).mono ?_
  rintro e w6 ⟨rfl, hb6⟩
  have hq := bt (ba w5 _) hb6
  have HR := Lib.hid (HR.out.kept hq)
  have HB := Lib.hid (bt HB.out hq)
  have HF := Lib.hid (HF.out.kept hq)
  have HX := Lib.hid (HX.out.kept hq)
  have HP := Lib.hid (HP.out.kept hq)
  clear hb6 hq
  go_wp2_with fail
  refine (live_join _ _ HR.out).mono ?_
  rintro e w7 ⟨A7, c7, rfl, _, hq⟩
  have HR := Lib.hid (HR.out.kept hq)
  have HB := Lib.hid (bt HB.out hq)
  have HF := Lib.hid (HF.out.kept hq)
  have HX := Lib.hid (HX.out.kept hq)
  have HP := Lib.hid (HP.out.kept hq)
  clear hq
  go_wp2_with fail
  refine (live_nulls _).mono ?_
  rintro e w8 ⟨A8, c8, rfl, _, hq⟩
  have HR := Lib.hid (HR.out.kept hq)
  have HB := Lib.hid (bt HB.out hq)
  have HF := Lib.hid (HF.out.kept hq)
  have HX := Lib.hid (HX.out.kept hq)
  have HP := Lib.hid (HP.out.kept hq)
  clear hq
  go_wp2_with fail
  refine (refInt_any 4 _).mono ?_
  rintro e w9 ⟨rfl, hq⟩
  have HR := Lib.hid (HR.out.kept hq)
  have HB := Lib.hid (bt HB.out hq)
  have HF := Lib.hid (HF.out.kept hq)
  have HX := Lib.hid (HX.out.kept hq)
  have HP := Lib.hid (HP.out.kept hq)
  clear hq
  go_wp2_with fail
  refine (live_sort _ _ (list_new w9 _ _ _ rfl rfl HR.out)).mono ?_
  rintro e w10 ⟨gs, As, cs, rfl, hs0, hrs, hb10⟩
  have hq := bt (ba2 w9 _ _) hb10
  have HR := Lib.hid (HR.out.kept hq)
  have HB := Lib.hid (bt HB.out hq)
  have HF := Lib.hid (HF.out.kept hq)
  have HX := Lib.hid (HX.out.kept hq)
  have HP := Lib.hid (HP.out.kept hq)
  have HS0 := Lib.hid hs0
  have HRS := Lib.hid hrs
  have hcv := HF.out.str 10
  rw [rab_str] at hcv
  change (convert 23 9 (.slice (some ⟨g, 0, none⟩) 10 10)).run Try.prog w10 = _ at hcv
  clear hq hb10 hs0 hrs HF
  go_wp2_with fail
  refine (live_same _ _ _ _ HX.out HR.out).mono ?_
  rintro e w11 ⟨rfl, hq⟩
  have HR := Lib.hid (HR.out.kept hq)
  have HB := Lib.hid (bt HB.out hq)
  have HS0 := Lib.hid (cell_kept hq HS0.out)
  have HRS := Lib.hid (HRS.out.kept hq)
  obtain ⟨bp, op, rfl, hbp, _, p1, _⟩ := (HP.out.kept hq).at (i := 1) (by decide)
  change w11.cell? ⟨bp, op + 1 * 3 + 1, none⟩ = some (.int .i64 5) at p1
  obtain ⟨bs, os, rfl, hbs, _, s1, _⟩ := HRS.out.at (i := 0) (by decide)
  change w11.cell? ⟨bs, os + 0 * 3 + 1, none⟩ = some (.int .i64 4) at s1
  have s0 := HS0.out
  simp only [Nat.zero_mul, Nat.one_mul, Nat.add_zero] at p1 s1
  clear hq hcv HX HP
  go_wp2_with fail
  refine (live_size _ _ HR.out).mono ?_
  rintro e w12 ⟨rfl, hq⟩
  have HR := Lib.hid (HR.out.kept hq)
  have HB := Lib.hid (bt HB.out hq)
  have HRS := Lib.hid (HRS.out.kept hq)
  have s0 := cell_kept hq s0
  clear hq p1 s1
  go_wp2_with fail
  refine (live_by _ _ _ _ _ _ (HR.out.kept (ba2 _ _ _)) (HRS.out.kept (ba2 _ _ _)) ((cells_new w12 _ rfl _ _).kept (ba _ _)) (cells_new _ _ (World.size_alloc _ _) _ _)).mono ?_
  rintro e w13 ⟨rfl, hq⟩
  have HB := Lib.hid (bt (bt HB.out (ba2 _ _ _)) hq)
  clear hq s0 HR HRS
  have hmk := make33
  go_wp2_with fail
  refine (live_check _ _ (row_new w13 _ rfl nulls33)).mono ?_
  rintro e w14 ⟨rfl, hq⟩
  have HB := Lib.hid (bt (bt HB.out (ba _ _)) hq)
  clear hq hmk
  go_wp2_with fail
  go_ret
  exact ⟨rfl, HB.out⟩

end Go.Proofs.Ytlobgdfmgbedgaa
