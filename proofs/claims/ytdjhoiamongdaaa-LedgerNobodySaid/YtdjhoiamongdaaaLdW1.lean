/-
  The walk of LedgerNobody.
-/
import Derived.Test.YtdjhoiamongdaaaLdi
namespace Go.Proofs.Ytdjhoiamongdaaa
open Go.RowKit Go.Maps

set_option maxRecDepth 100000 in
set_option maxHeartbeats 4000000 in
theorem ledgerNobody_walk (k n p : Int) (w : World) :
    Calls Try.prog 14 #[.agg #[.int .i64 k, .int .i64 n, .int .i64 p]] w fun e w' => e = .returned (.bool true) ∧ Below w.heap.size w w' := by
  have HB0 := Lib.hid (ba w (.cells #[.int .i64 k, .int .i64 n, .int .i64 p] 86))
  have HX0 := Lib.hid (show (w.alloc (.cells #[.int .i64 k, .int .i64 n, .int .i64 p] 86)).heap[w.heap.size]? = some (.cells #[.int .i64 k, .int .i64 n, .int .i64 p] 86 (0, 0)) from (MapKept.heap_alloc w _).1)
  go_enter Try.func14, Try.ntmps14
  go_upto_region 2 with fail
  generalize w.alloc (.cells #[.int .i64 k, .int .i64 n, .int .i64 p] 86) = w0 at HB0 HX0 ⊢
  obtain ⟨q, hq⟩ : ∃ q, q = w.heap.size := ⟨_, rfl⟩
  rw [← hq] at HX0 ⊢
  have HQ := Lib.hid hq
  clear hq
  have a0 : w0.cell? ⟨q, 1, none⟩ = some (.int .i64 n) := by simp only [World.cell?, HX0.out]; rfl
  have b0 : w0.cell? ⟨q, 2, none⟩ = some (.int .i64 p) := by simp only [World.cell?, HX0.out]; rfl
  go_wp2_with fail
  refine (open_nil n p w0).mono ?_
  rintro e w1 ⟨rfl, rfl⟩
  go_wp2_with fail
  refine (lives6_yes w0).mono ?_
  rintro e w1 ⟨rfl, hb1⟩
  have HX1 := Lib.hid ((hb1.block q (block_lt HX0.out)).trans HX0.out)
  have HB1 := Lib.hid (bt HB0.out hb1)
  clear hb1 a0 b0
  have a1 : w1.cell? ⟨q, 1, none⟩ = some (.int .i64 n) := by simp only [World.cell?, HX1.out]; rfl
  have b1 : w1.cell? ⟨q, 2, none⟩ = some (.int .i64 p) := by simp only [World.cell?, HX1.out]; rfl
  go_wp2_with fail
  refine (close_nil n w1).mono ?_
  rintro e wz ⟨rfl, rfl⟩
  go_wp2_with fail
  refine (take_nil n p w1).mono ?_
  rintro e wz ⟨rfl, rfl⟩
  go_wp2_with fail
  refine (give_nil n p w1).mono ?_
  rintro e wz ⟨rfl, rfl⟩
  go_wp2_with fail
  refine (grant_nil n w1).mono ?_
  rintro e w2 ⟨rfl, hb2⟩
  have HX2 := Lib.hid ((hb2.block q (block_lt HX1.out)).trans HX1.out)
  have HB2 := Lib.hid (bt HB1.out hb2)
  clear hb2 a1 b1
  have a2 : w2.cell? ⟨q, 1, none⟩ = some (.int .i64 n) := by simp only [World.cell?, HX2.out]; rfl
  have b2 : w2.cell? ⟨q, 2, none⟩ = some (.int .i64 p) := by simp only [World.cell?, HX2.out]; rfl
  go_wp2_with fail
  refine (held_nil n w2).mono ?_
  rintro e w3 ⟨rfl, hb3⟩
  have HX3 := Lib.hid ((hb3.block q (block_lt HX2.out)).trans HX2.out)
  have HB3 := Lib.hid (bt HB2.out hb3)
  clear hb3 a2 b2
  have a3 : w3.cell? ⟨q, 1, none⟩ = some (.int .i64 n) := by simp only [World.cell?, HX3.out]; rfl
  have b3 : w3.cell? ⟨q, 2, none⟩ = some (.int .i64 p) := by simp only [World.cell?, HX3.out]; rfl
  go_wp2_with fail
  refine (left_nil n w3).mono ?_
  rintro e w4 ⟨rfl, hb4⟩
  have HX4 := Lib.hid ((hb4.block q (block_lt HX3.out)).trans HX3.out)
  have HB4 := Lib.hid (bt HB3.out hb4)
  clear hb4 a3 b3
  have a4 : w4.cell? ⟨q, 1, none⟩ = some (.int .i64 n) := by simp only [World.cell?, HX4.out]; rfl
  have b4 : w4.cell? ⟨q, 2, none⟩ = some (.int .i64 p) := by simp only [World.cell?, HX4.out]; rfl
  go_wp2_with fail
  refine (peak_nil n w4).mono ?_
  rintro e w5 ⟨rfl, hb5⟩
  have HX5 := Lib.hid ((hb5.block q (block_lt HX4.out)).trans HX4.out)
  have HB5 := Lib.hid (bt HB4.out hb5)
  clear hb5 a4 b4
  have a5 : w5.cell? ⟨q, 1, none⟩ = some (.int .i64 n) := by simp only [World.cell?, HX5.out]; rfl
  have b5 : w5.cell? ⟨q, 2, none⟩ = some (.int .i64 p) := by simp only [World.cell?, HX5.out]; rfl
  go_wp2_with fail
  refine (total_nil w5).mono ?_
  rintro e w6 ⟨rfl, hb6⟩
  have HX6 := Lib.hid ((hb6.block q (block_lt HX5.out)).trans HX5.out)
  have HB6 := Lib.hid (bt HB5.out hb6)
  clear hb6 a5 b5
  have a6 : w6.cell? ⟨q, 1, none⟩ = some (.int .i64 n) := by simp only [World.cell?, HX6.out]; rfl
  have b6 : w6.cell? ⟨q, 2, none⟩ = some (.int .i64 p) := by simp only [World.cell?, HX6.out]; rfl
  go_wp2_with fail
  refine (most_nil w6).mono ?_
  rintro e wz ⟨rfl, rfl⟩
  go_wp2_with fail
  refine (accounts_nil w6).mono ?_
  rintro e w7 ⟨rfl, hb7⟩
  have HX7 := Lib.hid ((hb7.block q (block_lt HX6.out)).trans HX6.out)
  have HB7 := Lib.hid (bt HB6.out hb7)
  clear hb7 a6 b6
  have a7 : w7.cell? ⟨q, 1, none⟩ = some (.int .i64 n) := by simp only [World.cell?, HX7.out]; rfl
  have b7 : w7.cell? ⟨q, 2, none⟩ = some (.int .i64 p) := by simp only [World.cell?, HX7.out]; rfl
  go_wp2_with fail
  go_ret
  exact ⟨rfl, HB7.out⟩
end Go.Proofs.Ytdjhoiamongdaaa
