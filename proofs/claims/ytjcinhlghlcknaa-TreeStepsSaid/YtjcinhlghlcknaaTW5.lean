/-
  The walk of TreeSteps.
-/
import Derived.Test.YtjcinhlghlcknaaTrf
import Derived.Test.YtjcinhlghlcknaaTO
import Derived.BigQuiet
import Derived.Deep.QuietTactic
namespace Go.Proofs.Ytjcinhlghlcknaa
open Go.RowKit

/-- An order that counts, behind a counter at C. -/
abbrev ovC (C : Nat) : Value := .func (.func 20) #[.pointer (some ⟨C, 0, none⟩)] #[]
def CtAt (w : World) (C : Nat) (c : Int) : Prop := w.heap[C]? = some (.cells #[.int .i64 c] 50 (0, 0))
def countO (C : Nat) : Ord8 := ⟨ovC C, fun k => k = C, fun w c => CtAt w C c ∧ 0 ≤ c⟩
theorem CtAt.c0 {w : World} {C : Nat} {c : Int} (h : CtAt w C c) : w.cell? ⟨C, 0, none⟩ = some (.int .i64 c) := by unfold CtAt at h; simp only [World.cell?, h]; rfl
theorem CtAt.f0 {w : World} {C : Nat} {c : Int} (h : CtAt w C c) : w.frozen? ⟨C, 0, none⟩ = false := by unfold CtAt at h; simp only [World.frozen?, h]; rfl
theorem CtAt.set {w : World} {C : Nat} {c : Int} (h : CtAt w C c) (d : Int) : CtAt (w.setCell ⟨C, 0, none⟩ (.int .i64 d)) C d := by
  unfold CtAt at h ⊢
  simp [World.setCell, Array.getElem?_modify, h]
set_option maxRecDepth 100000 in
set_option maxHeartbeats 1000000 in
theorem corder_any {w : World} {C : Nat} {c : Int} (h : CtAt w C c) (h0 : 0 ≤ c) (h1 : c ≤ 100000) (k1 t1 k2 t2 : Int) :
    Calls Try.prog 20 #[.pointer (some ⟨C, 0, none⟩), .agg #[.int .i64 k1, .int .i64 t1], .agg #[.int .i64 k2, .int .i64 t2]] w
      fun e w' => e = .returned (.int .i64 (cmpI k1 k2)) ∧ CtAt w' C (c + 1) ∧ Ofs (fun k => k = C) w w' := by
  have hb := ba2 w (.cells #[.int .i64 k1, .int .i64 t1] 28) (.cells #[.int .i64 k2, .int .i64 t2] 28)
  have hC : CtAt ((w.alloc (.cells #[.int .i64 k1, .int .i64 t1] 28)).alloc (.cells #[.int .i64 k2, .int .i64 t2] 28)) C c := (hb.block C (block_ltT h)).trans h
  have HP := Lib.hid (pair_boxes w k1 t1 k2 t2 28)
  have HB := Lib.hid hb
  have HC := Lib.hid hC
  have hCU : C < w.heap.size := block_ltT h
  obtain ⟨U, hU⟩ : ∃ U, U = w.heap.size := ⟨_, rfl⟩
  rw [← hU] at HP hCU
  have HU := Lib.hid hU
  clear h hb hC hU
  go_enter Try.func20, Try.ntmps20
  go_upto_region 1 with fail
  rw [← HU.out]
  generalize (w.alloc (.cells #[.int .i64 k1, .int .i64 t1] 28)).alloc (.cells #[.int .i64 k2, .int .i64 t2] 28) = W at HP HB HC ⊢
  have x0 := HC.out.c0
  have xf := HC.out.f0
  obtain ⟨y0, y1, y2, y3⟩ := HP.out
  have n1 : C ≠ U := by omega
  have n2 : C ≠ U + 1 := by omega
  have HS := Lib.hid (HC.out.set (c + 1))
  have HO := Lib.hid ((Ofs.of_below (S := fun k => k = C) HB.out).set (b := C) (o := 0) rfl (.int .i64 (c + 1)))
  go_wp2_with fail
  refine (order_any k1 t1 k2 t2 _).mono ?_
  rintro e w1 ⟨rfl, hb1⟩
  have HS1 := Lib.hid (show CtAt w1 C (c + 1) from (hb1.block C (block_ltT HS.out)).trans HS.out)
  have HO1 := Lib.hid (HO.out.trans (Ofs.of_below hb1))
  clear hb1
  go_wp2_with fail
  go_ret
  exact ⟨rfl, HS1.out, HO1.out⟩
set_option maxRecDepth 100000 in
set_option maxHeartbeats 2000000 in
theorem standC_any {B : Nat} {w : World} {t a b C : Nat} {L : List Lf} {W : List Int} {c : Int} (h : TrAt B w t a b (ovC C) L W) (hc : CtAt w C c) (hc0 : 0 ≤ c) (hc1 : c ≤ 100000) (k1 t1 k2 t2 : Int) :
    Calls Try.prog 33 #[.pointer (some ⟨t, 0, none⟩), .agg #[.int .i64 k1, .int .i64 t1], .agg #[.int .i64 k2, .int .i64 t2]] w
      fun e w' => e = .returned (.int .i64 (cmpI k1 k2)) ∧ Ofs (fun k => k = C) w w' ∧ CtAt w' C (c + 1) := by
  have hb2 := ba2 w (.cells #[.int .i64 k1, .int .i64 t1] 28) (.cells #[.int .i64 k2, .int .i64 t2] 28)
  have HB2 := Lib.hid hb2
  have HT := Lib.hid (h.kept hb2)
  have HC := Lib.hid (pair_boxes w k1 t1 k2 t2 28)
  have HCt := Lib.hid (show CtAt ((w.alloc (.cells #[.int .i64 k1, .int .i64 t1] 28)).alloc (.cells #[.int .i64 k2, .int .i64 t2] 28)) C c from (hb2.block C (block_ltT hc)).trans hc)
  have HL := Lib.hid (show C < w.heap.size ∧ C ≠ t from ⟨block_ltT hc, fun e => by
    have h1 := h.box
    unfold CtAt at hc
    rw [e, h1] at hc; simp at hc⟩)
  obtain ⟨U, hU⟩ : ∃ U, U = w.heap.size := ⟨_, rfl⟩
  have HU := Lib.hid hU
  clear h hb2 hc
  go_enter_defers Try.func33, Try.ntmps33
  go_upto_region 2 with fail
  generalize (w.alloc (.cells #[.int .i64 k1, .int .i64 t1] 28)).alloc (.cells #[.int .i64 k2, .int .i64 t2] 28) = W at HB2 HT HC HCt ⊢
  rw [← hU] at HC HL ⊢
  clear hU
  have HX := Lib.hid (show StC W.drew t U (ovC C) k1 t1 k2 t2 from ⟨HT.out.c0, HC.out⟩)
  have HD := Lib.hid (show Below W.heap.size W W.drew from Below.drew (Below.refl _ _))
  have HCd := Lib.hid (show CtAt W.drew C c from HCt.out)
  have HKs := Lib.hid (show ∀ w1, Ofs (fun k => k = C) W.drew w1 → StC w1 t U (ovC C) k1 t1 k2 t2 from fun w1 ho => by
    have e : ∀ (q o : Nat) (v : Value), q ≠ C → W.drew.cell? ⟨q, o, none⟩ = some v → w1.cell? ⟨q, o, none⟩ = some v := fun q o v hq hv => by
      have := ho.block q (cell_ltT hv) hq
      rw [World.cell?_of_block (a := ⟨q, o, none⟩) this]; exact hv
    have n1 := HL.out.1
    have n2 := HL.out.2
    obtain ⟨x0, x1, x2, x3, x4⟩ := HX.out
    exact ⟨e t 0 _ (Ne.symm n2) x0, e U 0 _ (by omega) x1, e U 1 _ (by omega) x2, e (U + 1) 0 _ (by omega) x3, e (U + 1) 1 _ (by omega) x4⟩)
  go_region_held3 (fun w' => StC w' t U (ovC C) k1 t1 k2 t2)
    (first | exact HX.out | exact HY.out)
    ((go_at_call 20; refine (corder_any HCd.out hc0 hc1 _ _ _ _).mono ?_; rintro e w1 ⟨rfl, hct1, ho1⟩; have HY := Lib.hid (HKs.out w1 ho1)))
  go_wp2_with fail
  refine leaves_cons (f := 34) (args := #[]) (by simp) (by simp [go_sem]) ?_
  refine (stand1_idle _).mono ?_
  rintro e u' w'' ⟨rfl, rfl, rfl⟩
  exact ⟨_, results_tmp rfl _ _ _, rfl, ((Ofs.of_below HB2.out).trans (Ofs.of_below HD.out)).trans ho1, hct1⟩
theorem countO_ok (C : Nat) : OrdOk (countO C) where
  keep := fun w w' c h hk => ⟨(hk C rfl).trans h.1, h.2⟩
  typ := fun w c k h hk => by
    obtain rfl : k = C := hk
    exact ⟨_, h.1⟩
  stand := fun B w t a b L W c k1 t1 k2 t2 hT hJ hc => (standC_any hT hJ.1 hJ.2 hc k1 t1 k2 t2).mono fun e w' hh => ⟨hh.1, hh.2.1, c + 1, ⟨hh.2.2, by have := hJ.2; omega⟩, by omega, by omega⟩
/-- The tree and its counter. -/
structure StS (B : Nat) (w0 w : World) (t a b C N M s : Nat) (L : List Lf) (c : Int) : Prop where
  tr : T8 (countO C) B w t a b L M s c
  below : Below B w0 w
  lo : B ≤ C
  len : L.length = N
section
variable {B : Nat} {w0 w w1 : World} {t a b C N M s : Nat} {L : List Lf} {c : Int}
theorem StS.kept (h : StS B w0 w t a b C N M s L c) (hb : Below w.heap.size w w1) : StS B w0 w1 t a b C N M s L c :=
  ⟨h.tr.kept (countO_ok C) hb, h.below.trans (hb.mono h.tr.lt), h.lo, h.len⟩
theorem StS.cell (h : StS B w0 w t a b C N M s L c) : w.cell? ⟨C, 0, none⟩ = some (.int .i64 c) := CtAt.c0 h.tr.j.1
/-- Set, whatever leaf. -/
def StE (B : Nat) (w0 : World) (t a b C N M s : Nat) (c : Int) (w : World) (e : Ending) (w' : World) : Prop :=
  ∃ (r : Int) (L' : List Lf) (c' : Int), e = .returned (.int .i64 r) ∧ StS B w0 w' t a b C N M s L' c' ∧ c ≤ c' ∧ c' ≤ c + s ∧ Below B w w'
theorem StS.set (h : StS B w0 w t a b C N M s L c) (hc : c ≤ 80000) (l p q : Int) :
    Calls Try.prog 11 #[.pointer (some ⟨t, 0, none⟩), .int .i64 l, .agg #[.int .i64 p, .int .i64 q]] w (StE B w0 t a b C N M s c w) := by
  by_cases hr : l < 0 ∨ (L.length : Int) ≤ l
  · refine (set_out h.tr hr p q).mono ?_
    rintro e w' ⟨he, hb⟩
    exact ⟨4, L, c, he, h.kept hb, by omega, by omega, hb.mono h.tr.lt⟩
  · obtain ⟨i, rfl⟩ : ∃ i : Nat, l = i := ⟨_, (Int.toNat_of_nonneg (by omega)).symm⟩
    refine (set_in (countO_ok C) h.tr hc (i := i) (by omega) p q).mono ?_
    rintro e w' ⟨he, ho, c', ht, h1, h2⟩
    have hlo := h.tr.lo
    have hb : Below B w w' := ho.below (fun k hk => by
      rcases hk with rfl | rfl | hk
      · exact hlo.2.1
      · exact hlo.2.2
      · have e : k = C := hk
        rw [e]; exact h.lo) h.tr.lt
    exact ⟨0, _, c', he, ⟨ht, h.below.trans hb, h.lo, by rw [List.length_set]; exact h.len⟩, h1, h2, hb⟩
theorem StS.win (h : StS B w0 w t a b C N M s L c) :
    Calls Try.prog 21 #[.pointer (some ⟨t, 0, none⟩)] w fun e w' => (∃ v, e = .returned v) ∧ StS B w0 w' t a b C N M s L c :=
  (win_any h.tr (wnr_is L)).mono fun _ _ ⟨he, hb⟩ => ⟨⟨_, he⟩, h.kept hb⟩
end
set_option maxRecDepth 100000 in
set_option maxHeartbeats 4000000 in
theorem treeSteps_out (n : Int) (hn : n < 1 ∨ 64 < n) (A : Option Addr) (cc N : Nat) (w : World) :
    Calls Try.prog 6 #[.int .i64 n, .slice A N cc] w fun e w' => e = .returned (.bool true) ∧ Below w.heap.size w w' := by
  rcases hn with hn | hn
  · go_enter Try.func6, Try.ntmps6
    go_wp2_with fail
    refine (lives8_yes w).mono ?_
    rintro e w1 ⟨rfl, hb⟩
    have HB := Lib.hid hb
    clear hb
    go_wp2_with fail
    refine (steps_any n w1).mono ?_
    rintro e wx ⟨rfl, rfl⟩
    go_wp2_with fail
    refine (rsteps_any n w1).mono ?_
    rintro e wx ⟨rfl, rfl⟩
    go_wp2_with fail
    go_ret
    exact ⟨by simp, HB.out⟩
  · have hn2 : ¬ n < 1 := by omega
    go_enter Try.func6, Try.ntmps6
    go_wp2_with fail
    refine (lives8_yes w).mono ?_
    rintro e w1 ⟨rfl, hb⟩
    have HB := Lib.hid hb
    clear hb
    go_wp2_with fail
    refine (steps_any n w1).mono ?_
    rintro e wx ⟨rfl, rfl⟩
    go_wp2_with fail
    refine (rsteps_any n w1).mono ?_
    rintro e wx ⟨rfl, rfl⟩
    go_wp2_with fail
    go_ret
    exact ⟨by simp, HB.out⟩
set_option maxRecDepth 100000 in
set_option maxHeartbeats 16000000 in
theorem treeSteps_in (n : Nat) (h1 : 1 ≤ n) (h2 : n ≤ 64) (A : Option Addr) (cc : Nat) (xs : List O8) (w : World) (hx : O8At w A xs) (hl0 : xs.length ≤ 9223372036854775807) :
    Calls Try.prog 6 #[.int .i64 n, .slice A xs.length cc] w fun e w' => e = .returned (.bool true) ∧ Below w.heap.size w w' := by
  have hl := hl0
  have hb0 := ba w (.cells #[.int .i64 0] 50)
  have hct : CtAt (w.alloc (.cells #[.int .i64 0] 50)) w.heap.size 0 := (MapKept.heap_alloc w _).1
  have HNew := Lib.hid (new_in (countO_ok w.heap.size) (c := 0) (w := w.alloc (.cells #[.int .i64 0] 50)) ⟨hct, Int.le_refl _⟩ (show (countO w.heap.size).ov = .func (.func 20) #[.pointer (some ⟨w.heap.size, 0, none⟩)] #[] from rfl) h1 h2)
  have HX := Lib.hid hx
  have HB0 := Lib.hid hb0
  have h6 := stpT_le n
  obtain ⟨N, hN⟩ : ∃ N, N = xs.length := ⟨_, rfl⟩
  rw [← hN] at hl ⊢
  have HN := Lib.hid hN
  have n1 : ¬ (n : Int) < 1 := by omega
  have n2 : ¬ (64 : Int) < (n : Int) := by omega
  have hmf : ∀ (fn : Fn) (first cap : Array Value) (w : World), (Instr.makeFunc fn first cap).run Try.prog w = .ok (.func fn first cap) w := fun _ _ _ _ => rfl
  clear hx hN hb0 hct
  go_enter Try.func6, Try.ntmps6
  go_wp2_with fail
  refine HNew.out.mono ?_
  rintro e w1 ⟨t, a, b, rfl, ht, hb1⟩
  have HS1 := Lib.hid (show StS w.heap.size w w1 t a b w.heap.size n (2 ^ stpT n) (stpT n) (List.replicate n noLf) 0 from
    ⟨⟨by obtain ⟨W, hT, hw⟩ := ht.at'; exact ⟨W, ⟨hT.box, hT.things, hT.wins, by have := hT.lo; have := HB0.out.size; omega⟩, hw⟩, ht.j, ht.z, ht.m, ht.s6⟩, bt HB0.out hb1, Nat.le_refl _, by simp⟩)
  clear ht hb1 HNew hmf
  go_wp2_with fail
  refine (lives8_yes w1).mono ?_
  rintro e w2 ⟨rfl, hb2⟩
  have HS2 := Lib.hid (HS1.out.kept hb2)
  clear hb2 HS1
  go_wp2_with fail
  refine (steps_any n w2).mono ?_
  rintro e wx ⟨rfl, rfl⟩
  go_wp2_with fail
  refine (rsteps_any n w2).mono ?_
  rintro e wx ⟨rfl, rfl⟩
  have HRs := Lib.hid (rsteps_any n)
  generalize 2 ^ stpT n = M at HS2
  generalize stpT n = s at HS2 HRs h6 ⊢
  clear HB0
  go_wp2_with fail
  go_loopw [8] (fun jj wr => ∃ (j : Nat) (L : List Lf) (c : Int), jj = .int .i64 j ∧ j ≤ N ∧ j ≤ 120 ∧ 0 ≤ c ∧ c ≤ (j : Int) * 6 ∧ Hid (StS w.heap.size w wr t a b w.heap.size n M s L c)) (fun jj _ => N - (intOf jj).toNat)
  case atStart => exact ⟨0, _, 0, rfl, Nat.zero_le _, Nat.zero_le _, by omega, by omega, HS2⟩
  case round =>
    clear HS2
    obtain ⟨j, L, c, rfl, hj, hj2, hc0, hc1, HS⟩ := hrel
    by_cases hlt : j < N
    · by_cases h120 : j < 120
      · have hjx : j < xs.length := by have := HN.out; omega
        have hjI : (j : Int) < 120 := by omega
        have hjN : (j : Int) < (N : Int) := by omega
        have HXr := Lib.hid (HX.out.kept HS.out.below)
        obtain ⟨bb, off, hA, hbl, cx, c1, c2, c3⟩ := HXr.out.at hjx
        subst hA
        have hc : wr.cell? ⟨w.heap.size, 0, none⟩ = some (.int .i64 c) := HS.out.cell
        generalize xs[j] = op at c1 c2 c3
        obtain ⟨k, l, p, q⟩ := op
        simp only at c1 c2 c3
        have HC := Lib.hid (show wr.drew.cell? ⟨bb, off + j * 4 + 1, none⟩ = some (.int .i64 l) ∧ wr.drew.cell? ⟨bb, off + j * 4 + 2, none⟩ = some (.int .i64 p) ∧ wr.drew.cell? ⟨bb, off + j * 4 + 3, none⟩ = some (.int .i64 q) from ⟨c1, c2, c3⟩)
        have HSd := Lib.hid (HS.out.kept (Below.drew (Below.refl _ wr)))
        have HSe := Lib.hid (HSd.out.set (by omega) l p q)
        have hbw : bb < w.heap.size := by
          rcases HX.out with hx0 | ⟨b', o', e', hl', _⟩
          · rw [hx0] at hjx; simp at hjx
          · simp only [Option.some.injEq, Addr.mk.injEq] at e'
            rw [e'.1]; exact hl'
        clear cx c1 c2 c3 hjx hbl
        go_upto_region 11 with fail
        clear hc
        go_region_held3 (fun w' => w'.cell? ⟨bb, off + j * 4 + 1, none⟩ = some (.int .i64 l) ∧ w'.cell? ⟨bb, off + j * 4 + 2, none⟩ = some (.int .i64 p) ∧ w'.cell? ⟨bb, off + j * 4 + 3, none⟩ = some (.int .i64 q))
          (first | exact HC.out | exact HY.out)
          ((go_at_call 11; refine HSe.out.mono ?_; rintro e w5 ⟨r5, L5, c5, rfl, hs5, hc5, hc6, hb5⟩; have HY := Lib.hid (show w5.cell? ⟨bb, off + j * 4 + 1, none⟩ = some (.int .i64 l) ∧ w5.cell? ⟨bb, off + j * 4 + 2, none⟩ = some (.int .i64 p) ∧ w5.cell? ⟨bb, off + j * 4 + 3, none⟩ = some (.int .i64 q) from ⟨(hb5.cell (p := ⟨bb, _, none⟩) hbw).trans HC.out.1, (hb5.cell (p := ⟨bb, _, none⟩) hbw).trans HC.out.2.1, (hb5.cell (p := ⟨bb, _, none⟩) hbw).trans HC.out.2.2⟩); have HS5 := Lib.hid hs5; clear hs5 hb5))
        have hcc : w5.cell? ⟨w.heap.size, 0, none⟩ = some (.int .i64 c5) := HS5.out.cell
        clear HC HY HSd HSe HS
        go_wp2_with fail
        have hs1 : ¬ (s : Int) < c5 - c := by omega
        have hc7 : c5 ≤ 100000 := by omega
        go_quiet ((go_at_call 19; exact Calls.quiet_of_same ((HRs.out _).mono fun _ _ hh => ⟨hh.1, hh.2.symm⟩)))
        have HS6 := Lib.hid (HS5.out.kept (drNT w5 nq))
        have hcd : (w5.drewN nq).cell? ⟨w.heap.size, 0, none⟩ = some (.int .i64 c5) := HS6.out.cell
        clear HS5 hcc
        generalize w5.drewN nq = w6 at HS6 hcd ⊢
        go_wp2_with fail
        refine HS6.out.win.mono ?_
        rintro e w7 ⟨⟨v7, rfl⟩, hs7⟩
        have HS7 := Lib.hid hs7
        have hce : w7.cell? ⟨w.heap.size, 0, none⟩ = some (.int .i64 c5) := hs7.cell
        clear hs7 HS6 hcd
        go_wp2_with fail
        go_roundw
        case rel => exact ⟨j + 1, L5, c5, by go_num, hlt, h120, by omega, by omega, HS7⟩
        case measure => simp [intOf]; omega
      · have h120I : ¬ (j : Int) < 120 := by omega
        go_wp2_with fail
        go_ret
        exact ⟨rfl, HS.out.below⟩
    · go_wp2_with fail
      go_ret
      exact ⟨rfl, HS.out.below⟩
theorem treeSteps_walk (A : Option Addr) (cc : Nat) (xs : List O8) (n : Int) (w : World) (hx : O8At w A xs) (hl : xs.length ≤ 9223372036854775807) :
    Calls Try.prog 6 #[.int .i64 n, .slice A xs.length cc] w fun e w' => e = .returned (.bool true) ∧ Below w.heap.size w w' := by
  by_cases h : n < 1 ∨ 64 < n
  · exact treeSteps_out n h A cc xs.length w
  · obtain ⟨m, rfl⟩ : ∃ m : Nat, n = m := ⟨_, (Int.toNat_of_nonneg (by omega)).symm⟩
    exact treeSteps_in m (by omega) (by omega) A cc xs w hx hl
end Go.Proofs.Ytjcinhlghlcknaa
