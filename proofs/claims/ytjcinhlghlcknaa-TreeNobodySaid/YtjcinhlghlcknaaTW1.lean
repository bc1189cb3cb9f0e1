/-
  The walk of TreeNobody.
-/
import Derived.Test.YtjcinhlghlcknaaTrf
namespace Go.Proofs.Ytjcinhlghlcknaa
open Go.RowKit

set_option maxRecDepth 100000 in
set_option maxHeartbeats 8000000 in
theorem treeNobody_walk (k l p q : Int) (w : World) :
    Calls Try.prog 7 #[.agg #[.int .i64 k, .int .i64 l, .int .i64 p, .int .i64 q]] w fun e w' => e = .returned (.bool true) ∧ Below w.heap.size w w' := by
  have hb0 := ba w (.cells #[.int .i64 k, .int .i64 l, .int .i64 p, .int .i64 q] 33)
  have HX := Lib.hid (MapKept.heap_alloc w (.cells #[.int .i64 k, .int .i64 l, .int .i64 p, .int .i64 q] 33)).1
  have HB := Lib.hid hb0
  obtain ⟨U, hU⟩ : ∃ U, U = w.heap.size := ⟨_, rfl⟩
  rw [← hU] at HX
  have HU := Lib.hid hU
  clear hb0 hU
  go_enter Try.func7, Try.ntmps7
  go_upto_region 1 with fail
  rw [← HU.out]
  generalize w.alloc (.cells #[.int .i64 k, .int .i64 l, .int .i64 p, .int .i64 q] 33) = w0 at HX HB ⊢
  go_wp2_with fail
  refine (win_nil w0).mono ?_
  rintro e w1 ⟨rfl, hb⟩
  have hb2 := bt hb (ba w1 (.cells #[.int .i64 0, .int .i64 0] 28))
  have HB1 := Lib.hid (bt HB.out hb2)
  have hx := (hb2.block U (block_ltT HX.out)).trans HX.out
  have HX1 := Lib.hid hx
  have HY1 := Lib.hid (MapKept.heap_alloc w1 (.cells #[.int .i64 0, .int .i64 0] 28)).1
  clear hb hb2 HB HX hx
  go_upto_region 3 with fail
  generalize w1.alloc (.cells #[.int .i64 0, .int .i64 0] 28) = w2 at HB1 HX1 HY1 ⊢
  generalize w1.heap.size = y at HY1 ⊢
  have x1 : w2.cell? ⟨U, 1, none⟩ = some (.int .i64 l) := by simp only [World.cell?, HX1.out]; rfl
  go_wp2_with fail
  refine (get_nil l w2).mono ?_
  rintro e w3 ⟨rfl, hb⟩
  have hb2 := bt hb (ba w3 (.cells #[.int .i64 0, .int .i64 0] 28))
  have HB3 := Lib.hid (bt HB1.out hb2)
  have HX3 := Lib.hid ((hb2.block U (block_ltT HX1.out)).trans HX1.out)
  have HY3 := Lib.hid ((hb2.block y (block_ltT HY1.out)).trans HY1.out)
  have HZ3 := Lib.hid (MapKept.heap_alloc w3 (.cells #[.int .i64 0, .int .i64 0] 28)).1
  clear hb hb2 HB1 HX1 HY1 x1
  go_upto_region 4 with fail
  generalize w3.alloc (.cells #[.int .i64 0, .int .i64 0] 28) = w4 at HB3 HX3 HY3 HZ3 ⊢
  generalize w3.heap.size = z at HZ3 ⊢
  go_wp2_with fail
  refine (lives8_yes w4).mono ?_
  rintro e w5 ⟨rfl, hb⟩
  have HB5 := Lib.hid (bt HB3.out hb)
  have hx := (hb.block U (block_ltT HX3.out)).trans HX3.out
  have hy := (hb.block y (block_ltT HY3.out)).trans HY3.out
  have hz := (hb.block z (block_ltT HZ3.out)).trans HZ3.out
  have HX5 := Lib.hid hx
  have x1 : w5.cell? ⟨U, 1, none⟩ = some (.int .i64 l) := by simp only [World.cell?, hx]; rfl
  have x2 : w5.cell? ⟨U, 2, none⟩ = some (.int .i64 p) := by simp only [World.cell?, hx]; rfl
  have x3 : w5.cell? ⟨U, 3, none⟩ = some (.int .i64 q) := by simp only [World.cell?, hx]; rfl
  have y0 : w5.cell? ⟨y, 0, none⟩ = some (.int .i64 0) := by simp only [World.cell?, hy]; rfl
  have y1 : w5.cell? ⟨y, 1, none⟩ = some (.int .i64 0) := by simp only [World.cell?, hy]; rfl
  have z0 : w5.cell? ⟨z, 0, none⟩ = some (.int .i64 0) := by simp only [World.cell?, hz]; rfl
  have z1 : w5.cell? ⟨z, 1, none⟩ = some (.int .i64 0) := by simp only [World.cell?, hz]; rfl
  clear hb hx hy hz HB3 HX3 HY3 HZ3
  go_wp2_with fail
  refine (set_nil l p q w5).mono ?_
  rintro e w6 ⟨rfl, hb⟩
  have HB6 := Lib.hid (bt HB5.out hb)
  have hx := (hb.block U (block_ltT HX5.out)).trans HX5.out
  have u1 : w6.cell? ⟨U, 1, none⟩ = some (.int .i64 l) := by simp only [World.cell?, hx]; rfl
  clear hb hx HB5 HX5 x1 x2 x3 y0 y1 z0 z1
  go_wp2_with fail
  refine (clear_nil l w6).mono ?_
  rintro e wx ⟨rfl, rfl⟩
  go_wp2_with fail
  refine (len_nil w6).mono ?_
  rintro e wx ⟨rfl, rfl⟩
  go_wp2_with fail
  refine (leaves_nil w6).mono ?_
  rintro e wx ⟨rfl, rfl⟩
  go_wp2_with fail
  go_ret
  exact ⟨rfl, HB6.out⟩
end Go.Proofs.Ytjcinhlghlcknaa
