/-
  The walk of DiskNobody.
-/
import Derived.Test.YthfopabefknlkabDkd
namespace Go.Proofs.Ythfopabefknlkab
open Go.RowKit Go.Maps Go.Sort

set_option maxRecDepth 100000 in
set_option maxHeartbeats 2000000 in
theorem diskNobody_walk (k n i : Int) (A : Option Addr) (N c : Nat) (w : World) (hN : N ≤ 9223372036854775807) :
    Calls Try.prog 7 #[.agg #[.int .i64 k, .int .i64 n, .int .i64 i, .slice A N c]] w fun e w' => e = .returned (.bool true) ∧ Below w.heap.size w w' := by
  have HB0 := Lib.hid (ba w (.cells #[.int .i64 k, .int .i64 n, .int .i64 i, .slice A N c] 47))
  have HX0 := Lib.hid (show (w.alloc (.cells #[.int .i64 k, .int .i64 n, .int .i64 i, .slice A N c] 47)).heap[w.heap.size]? = some (.cells #[.int .i64 k, .int .i64 n, .int .i64 i, .slice A N c] 47 (0, 0)) from (MapKept.heap_alloc w _).1)
  go_enter Try.func7, Try.ntmps7
  go_upto_region 1 with fail
  generalize w.alloc (.cells #[.int .i64 k, .int .i64 n, .int .i64 i, .slice A N c] 47) = w0 at HB0 HX0 ⊢
  obtain ⟨q, hq⟩ : ∃ q, q = w.heap.size := ⟨_, rfl⟩
  rw [← hq] at HX0 ⊢
  have HQ := Lib.hid hq
  clear hq
  have a0 : w0.cell? ⟨q, 1, none⟩ = some (.int .i64 n) := by simp only [World.cell?, HX0.out]; rfl
  have b0 : w0.cell? ⟨q, 2, none⟩ = some (.int .i64 i) := by simp only [World.cell?, HX0.out]; rfl
  have d0 : w0.cell? ⟨q, 3, none⟩ = some (.slice A N c) := by simp only [World.cell?, HX0.out]; rfl
  by_cases hbig : 1000 < N
  · have hbi : (1000 : Int) < (N : Int) := by omega
    go_wp2_with fail
    refine (lives5_yes w0).mono ?_
    rintro e w1 ⟨rfl, hb1⟩
    have HB1 := Lib.hid (bt HB0.out hb1)
    clear hb1
    go_wp2_with fail
    go_ret
    exact ⟨rfl, HB1.out⟩
  · have hbi : (N : Int) ≤ 1000 := by omega
    go_wp2_with fail
    refine (create_nil w0).mono ?_
    rintro e w1 ⟨rfl, rfl⟩
    go_wp2_with fail
    refine (read_nil n i w0).mono ?_
    rintro e w1 ⟨rfl, rfl⟩
    go_wp2_with fail
    refine (size_nil n w0).mono ?_
    rintro e w1 ⟨rfl, rfl⟩
    go_wp2_with fail
    refine (lives5_yes w0).mono ?_
    rintro e w1 ⟨rfl, hb1⟩
    have HX1 := Lib.hid ((hb1.block q (block_ltD HX0.out)).trans HX0.out)
    have HB1 := Lib.hid (bt HB0.out hb1)
    clear hb1 a0 b0 d0
    have a1 : w1.cell? ⟨q, 1, none⟩ = some (.int .i64 n) := by simp only [World.cell?, HX1.out]; rfl
    have d1 : w1.cell? ⟨q, 3, none⟩ = some (.slice A N c) := by simp only [World.cell?, HX1.out]; rfl
    go_wp2_with fail
    refine (append_nil n _ w1).mono ?_
    rintro e wz ⟨rfl, rfl⟩
    go_wp2_with fail
    refine (delete_nil n w1).mono ?_
    rintro e wz ⟨rfl, rfl⟩
    go_wp2_with fail
    refine (files_nil w1).mono ?_
    rintro e wz ⟨rfl, rfl⟩
    go_wp2_with fail
    refine (meter_nil w1).mono ?_
    rintro e w2 ⟨rfl, hb2⟩
    have HB2 := Lib.hid (bt HB1.out hb2)
    clear hb2 a1 d1
    go_wp2_with fail
    refine (deeds_nil w2).mono ?_
    rintro e w3 ⟨rfl, hb3⟩
    have HB3 := Lib.hid (bt HB2.out hb3)
    clear hb3
    go_wp2_with fail
    go_ret
    exact ⟨rfl, HB3.out⟩
end Go.Proofs.Ythfopabefknlkab
