/-
  Package tree: the laws' order, stand; Leaves, place, check.
-/
import Derived.Test.YtjcinhlghlcknaaTr2
import Derived.Defers
import Derived.Recover
import Derived.KernelRfl
import Derived.BigRegion
import Derived.Deep.RegionHeld3
import Derived.Deep.CutRange
namespace Go.Proofs.Ytjcinhlghlcknaa
open Go.RowKit

abbrev PrV (k t : Int) : Value := .agg #[.int .i64 k, .int .i64 t]
set_option maxRecDepth 100000 in
set_option maxHeartbeats 1000000 in
theorem order_any (k1 t1 k2 t2 : Int) (w : World) :
    Calls Try.prog 9 #[.agg #[.int .i64 k1, .int .i64 t1], .agg #[.int .i64 k2, .int .i64 t2]] w fun e w' => e = .returned (.int .i64 (cmpI k1 k2)) ∧ Below w.heap.size w w' := by
  have HB := Lib.hid (ba2 w (.cells #[.int .i64 k1, .int .i64 t1] 28) (.cells #[.int .i64 k2, .int .i64 t2] 28))
  by_cases h1 : k1 < k2
  · have HC := Lib.hid (show cmpI k1 k2 = -1 by unfold cmpI; rw [if_pos h1])
    go_enter Try.func9, Try.ntmps9
    go_wp2_with fail
    go_ret
    exact ⟨ret_int HC.out.symm, HB.out⟩
  · by_cases h2 : k2 < k1
    · have HC := Lib.hid (show cmpI k1 k2 = 1 by unfold cmpI; rw [if_neg h1, if_pos h2])
      go_enter Try.func9, Try.ntmps9
      go_wp2_with fail
      go_ret
      exact ⟨ret_int HC.out.symm, HB.out⟩
    · have HC := Lib.hid (show cmpI k1 k2 = 0 by unfold cmpI; rw [if_neg h1, if_neg h2])
      go_enter Try.func9, Try.ntmps9
      go_wp2_with fail
      go_ret
      exact ⟨ret_int HC.out.symm, HB.out⟩
theorem stand1_idle (w : World) :
    CallsD Try.prog 34 #[] .returning w fun e u' w' => e = .returned (.tuple #[]) ∧ u' = .returning ∧ w' = w := by
  refine callsD_of_wpS Try.func34 rfl fun c₀ cs hu => ?_
  apply wpS_region
  simp [wpOpsS, go_sem, recoverD, hu, Try.ntmps34, bodyPostS, results, Try.results34]
  cases c₀
  simp_all
section
variable {B : Nat} {w : World} {t a b : Nat} {ov : Value} {L : List Lf} {W : List Int}
set_option maxRecDepth 100000 in
set_option maxHeartbeats 1000000 in
theorem leaves_any (h : TrAt B w t a b ov L W) (_hn : L.length ≤ 64) :
    Calls Try.prog 24 #[.pointer (some ⟨t, 0, none⟩)] w fun e w' => e = .returned (.int .i64 L.length) ∧ w = w' := by
  have c1 := h.c1
  obtain ⟨N, hN⟩ : ∃ N, N = L.length := ⟨_, rfl⟩
  rw [← hN] at c1 ⊢
  clear h hN
  go_enter Try.func24, Try.ntmps24
  go_wp2_with fail
  go_ret
  exact ⟨rfl, rfl⟩
theorem leaves_nil (w : World) :
    Calls Try.prog 24 #[.pointer none] w fun e w' => e = .returned (.int .i64 0) ∧ w = w' := by
  go_enter Try.func24, Try.ntmps24
  go_wp2_with fail
  go_ret
  exact ⟨rfl, rfl⟩
set_option maxRecDepth 100000 in
set_option maxHeartbeats 1000000 in
theorem place_any (h : TrAt B w t a b ov L W) {M : Nat} (hM : W.length = 2 * M) (hm : M ≤ 64) (i : Nat) (hi : i ≤ 64) :
    Calls Try.prog 31 #[.pointer (some ⟨t, 0, none⟩), .int .i64 i] w fun e w' => e = .returned (.int .i64 (M + i : Nat)) ∧ w' = w := by
  have c2 := h.c2
  obtain ⟨N, hN⟩ : ∃ N, N = W.length := ⟨_, rfl⟩
  rw [← hN] at c2 hM
  have hq : (N : Int) / 2 = (M : Int) := by omega
  have hN2 : N ≤ 128 := by omega
  clear h hN hM
  go_enter Try.func31, Try.ntmps31
  go_wp2_with fail
  go_ret
  exact ⟨by simp, rfl⟩
/-- What check says. -/
def chkT (n : Nat) (i : Int) : Int := if i < 0 ∨ (n : Int) ≤ i then 4 else 0
set_option maxRecDepth 100000 in
set_option maxHeartbeats 1000000 in
theorem check_any (h : TrAt B w t a b ov L W) (hn0 : 1 ≤ L.length) (hn : L.length ≤ 64) (i : Int) :
    Calls Try.prog 25 #[.pointer (some ⟨t, 0, none⟩), .int .i64 i] w fun e w' => e = .returned (.int .i64 (chkT L.length i)) ∧ w = w' := by
  have HL := Lib.hid (leaves_any h hn)
  obtain ⟨N, hN⟩ : ∃ N, N = L.length := ⟨_, rfl⟩
  rw [← hN] at HL hn0 hn ⊢
  have hz : ((N : Int) == 0) = false := by simp; omega
  clear h hN
  by_cases h0 : i < 0
  · have HC := Lib.hid (show chkT N i = 4 by unfold chkT; rw [if_pos (.inl h0)])
    go_enter Try.func25, Try.ntmps25
    go_wp2_with fail
    refine HL.out.mono ?_
    rintro e w1 ⟨rfl, rfl⟩
    go_wp2_with fail
    go_ret
    exact ⟨ret_int HC.out.symm, rfl⟩
  · by_cases h1 : (N : Int) ≤ i
    · have HC := Lib.hid (show chkT N i = 4 by unfold chkT; rw [if_pos (.inr h1)])
      go_enter Try.func25, Try.ntmps25
      go_wp2_with fail
      refine HL.out.mono ?_
      rintro e w1 ⟨rfl, rfl⟩
      go_wp2_with fail
      refine HL.out.mono ?_
      rintro e w1 ⟨rfl, rfl⟩
      go_wp2_with fail
      go_ret
      exact ⟨ret_int HC.out.symm, rfl⟩
    · have HC := Lib.hid (show chkT N i = 0 by unfold chkT; rw [if_neg (by omega)])
      go_enter Try.func25, Try.ntmps25
      go_wp2_with fail
      refine HL.out.mono ?_
      rintro e w1 ⟨rfl, rfl⟩
      go_wp2_with fail
      refine HL.out.mono ?_
      rintro e w1 ⟨rfl, rfl⟩
      go_wp2_with fail
      go_ret
      exact ⟨ret_int HC.out.symm, rfl⟩
theorem check_nil (i : Int) (w : World) :
    Calls Try.prog 25 #[.pointer none, .int .i64 i] w fun e w' => e = .returned (.int .i64 6) ∧ w = w' := by
  go_enter Try.func25, Try.ntmps25
  go_wp2_with fail
  refine (leaves_nil w).mono ?_
  rintro e w1 ⟨rfl, rfl⟩
  go_wp2_with fail
  go_ret
  exact ⟨rfl, rfl⟩
/-- What stand reads: the order, and two boxes. -/
abbrev StC (w : World) (t U : Nat) (ov : Value) (k1 t1 k2 t2 : Int) : Prop :=
  w.cell? ⟨t, 0, none⟩ = some ov ∧ w.cell? ⟨U, 0, none⟩ = some (.int .i64 k1) ∧ w.cell? ⟨U, 1, none⟩ = some (.int .i64 t1) ∧ w.cell? ⟨U + 1, 0, none⟩ = some (.int .i64 k2) ∧ w.cell? ⟨U + 1, 1, none⟩ = some (.int .i64 t2)
theorem cell_ltT {w : World} {b o : Nat} {v : Value} (h : w.cell? ⟨b, o, none⟩ = some v) : b < w.heap.size := World.block_lt_of_cell? w ⟨b, o, none⟩ h
theorem StC.kept {w w' : World} {t U : Nat} {ov : Value} {k1 t1 k2 t2 : Int} (h : StC w t U ov k1 t1 k2 t2) (hb : Below w.heap.size w w') : StC w' t U ov k1 t1 k2 t2 :=
  ⟨(hb.cell (p := ⟨t, 0, none⟩) (cell_ltT h.1)).trans h.1, (hb.cell (p := ⟨U, 0, none⟩) (cell_ltT h.2.1)).trans h.2.1, (hb.cell (p := ⟨U, 1, none⟩) (cell_ltT h.2.2.1)).trans h.2.2.1, (hb.cell (p := ⟨U + 1, 0, none⟩) (cell_ltT h.2.2.2.1)).trans h.2.2.2.1, (hb.cell (p := ⟨U + 1, 1, none⟩) (cell_ltT h.2.2.2.2)).trans h.2.2.2.2⟩
theorem pair_boxes (w : World) (k1 t1 k2 t2 : Int) (T : TypeId) :
    ((w.alloc (.cells #[.int .i64 k1, .int .i64 t1] T)).alloc (.cells #[.int .i64 k2, .int .i64 t2] T)).cell? ⟨w.heap.size, 0, none⟩ = some (.int .i64 k1) ∧
    ((w.alloc (.cells #[.int .i64 k1, .int .i64 t1] T)).alloc (.cells #[.int .i64 k2, .int .i64 t2] T)).cell? ⟨w.heap.size, 1, none⟩ = some (.int .i64 t1) ∧
    ((w.alloc (.cells #[.int .i64 k1, .int .i64 t1] T)).alloc (.cells #[.int .i64 k2, .int .i64 t2] T)).cell? ⟨w.heap.size + 1, 0, none⟩ = some (.int .i64 k2) ∧
    ((w.alloc (.cells #[.int .i64 k1, .int .i64 t1] T)).alloc (.cells #[.int .i64 k2, .int .i64 t2] T)).cell? ⟨w.heap.size + 1, 1, none⟩ = some (.int .i64 t2) := by
  have h1 := (MapKept.heap_alloc w (.cells #[.int .i64 k1, .int .i64 t1] T)).1
  have h2 := (MapKept.heap_alloc (w.alloc (.cells #[.int .i64 k1, .int .i64 t1] T)) (.cells #[.int .i64 k2, .int .i64 t2] T)).1
  have h3 := ((ba (w.alloc (.cells #[.int .i64 k1, .int .i64 t1] T)) (.cells #[.int .i64 k2, .int .i64 t2] T)).block w.heap.size (by simp)).trans h1
  rw [World.size_alloc] at h2
  exact ⟨by simp only [World.cell?, h3]; rfl, by simp only [World.cell?, h3]; rfl, by simp only [World.cell?, h2]; rfl, by simp only [World.cell?, h2]; rfl⟩
/-- The plain order, asked by the tree. -/
abbrev ovP : Value := .func (.func 9) #[] #[]
set_option maxRecDepth 100000 in
set_option maxHeartbeats 2000000 in
theorem standP_any (h : TrAt B w t a b ovP L W) (k1 t1 k2 t2 : Int) :
    Calls Try.prog 33 #[.pointer (some ⟨t, 0, none⟩), .agg #[.int .i64 k1, .int .i64 t1], .agg #[.int .i64 k2, .int .i64 t2]] w
      fun e w' => e = .returned (.int .i64 (cmpI k1 k2)) ∧ Below w.heap.size w w' := by
  have hb2 := ba2 w (.cells #[.int .i64 k1, .int .i64 t1] 28) (.cells #[.int .i64 k2, .int .i64 t2] 28)
  have HB2 := Lib.hid hb2
  have HT := Lib.hid (h.kept hb2)
  have HC := Lib.hid (pair_boxes w k1 t1 k2 t2 28)
  obtain ⟨U, hU⟩ : ∃ U, U = w.heap.size := ⟨_, rfl⟩
  have HU := Lib.hid hU
  clear h hb2
  go_enter_defers Try.func33, Try.ntmps33
  go_upto_region 2 with fail
  generalize (w.alloc (.cells #[.int .i64 k1, .int .i64 t1] 28)).alloc (.cells #[.int .i64 k2, .int .i64 t2] 28) = W at HB2 HT HC ⊢
  rw [← hU] at HC ⊢
  clear hU
  have HX := Lib.hid (show StC W.drew t U ovP k1 t1 k2 t2 from ⟨HT.out.c0, HC.out⟩)
  have HD := Lib.hid (show Below W.heap.size W W.drew from Below.drew (Below.refl _ _))
  go_region_held3 (fun w' => StC w' t U ovP k1 t1 k2 t2)
    (first | exact HX.out | exact HY.out)
    ((go_at_call 9; refine (order_any _ _ _ _ _).mono ?_; rintro e w1 ⟨rfl, hb1⟩; have HY := Lib.hid (HX.out.kept hb1)))
  go_wp2_with fail
  refine leaves_cons (f := 34) (args := #[]) (by simp) (by simp [go_sem]) ?_
  refine (stand1_idle _).mono ?_
  rintro e u' w'' ⟨rfl, rfl, rfl⟩
  exact ⟨_, results_tmp rfl _ _ _, rfl, bt HB2.out (bt HD.out hb1)⟩
end
/-- The plain order: it turns nothing, and nobody counts. -/
def plainO : Ord8 := ⟨ovP, fun _ => False, fun _ c => 0 ≤ c⟩
theorem plainO_ok : OrdOk plainO where
  keep := fun _ _ _ h _ => h
  typ := fun _ _ _ _ h => h.elim
  stand := fun B w t a b L W c k1 t1 k2 t2 hT hJ _ => (standP_any hT k1 t1 k2 t2).mono fun e w' hh => ⟨hh.1, Ofs.of_below hh.2, c, hJ, by omega, by omega⟩
end Go.Proofs.Ytjcinhlghlcknaa
