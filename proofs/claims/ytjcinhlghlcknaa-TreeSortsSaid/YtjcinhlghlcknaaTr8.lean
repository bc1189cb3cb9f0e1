/-
  Package tree: Win, Get, Len.
-/
import Derived.Test.YtjcinhlghlcknaaTr7
namespace Go.Proofs.Ytjcinhlghlcknaa
open Go.RowKit

theorem cnt_snoc {L : List Lf} {i : Nat} (h : i < L.length) : cntT (L.take (i + 1)) = cntT (L.take i) + if (L.getD i noLf).b then 1 else 0 := by
  unfold cntT
  rw [List.take_succ_eq_append_getElem h, List.filter_append, List.length_append, List.getD_eq_getElem?_getD, List.getElem?_eq_getElem h]
  cases hb : L[i].b <;> simp [hb]
/-- A pair is stored into a box. -/
theorem pset {w : World} {U : Nat} {k0 t0 : Value} {T : TypeId} (h : w.heap[U]? = some (.cells #[k0, t0] T (0, 0))) (k t : Value) :
    ((w.setCell ⟨U, 0, none⟩ k).setCell ⟨U, 1, none⟩ t).cell? ⟨U, 0, none⟩ = some k ∧ ((w.setCell ⟨U, 0, none⟩ k).setCell ⟨U, 1, none⟩ t).cell? ⟨U, 1, none⟩ = some t := by
  have e : ((w.setCell ⟨U, 0, none⟩ k).setCell ⟨U, 1, none⟩ t).heap[U]? = some (.cells #[k, t] T (0, 0)) := by
    simp only [World.setCell, Array.getElem?_modify, if_true, h]
    rfl
  exact ⟨by simp only [World.cell?, e]; rfl, by simp only [World.cell?, e]; rfl⟩
section
variable {O : Ord8} {B : Nat} {w w' : World} {t a b : Nat} {L : List Lf} {M s : Nat} {c : Int}
theorem T8.winner (h : T8 O B w t a b L M s c) {r : Int} (hr : isW L 0 L.length r) : ∃ W, TrAt B w t a b O.ov L W ∧ WnX L M W 0 ∧ W.getD 1 (-1) = r := by
  obtain ⟨W, hT, hw⟩ := h.at'
  have hw2 := hw
  rw [h.m] at hw2
  exact ⟨W, hT, hw, (hw2.win).one hr⟩
set_option maxRecDepth 100000 in
set_option maxHeartbeats 2000000 in
theorem win_none (h : T8 O B w t a b L M s c) (hr : isW L 0 L.length (-1)) :
    Calls Try.prog 21 #[.pointer (some ⟨t, 0, none⟩)] w fun e w' => e = .returned (.tuple #[.int .i64 (-1), .agg #[.int .i64 0, .int .i64 0], .bool false]) ∧ Below w.heap.size w w' := by
  have hn := h.n
  obtain ⟨W, hT, hw, hr1⟩ := h.winner hr
  have hwn := hw.n
  have hwl := hw.len
  have hb1 := ba w (.cells #[.int .i64 0, .int .i64 0] 28)
  have HB := Lib.hid hb1
  have hT1 := hT.kept hb1
  have HC := Lib.hid (leaves_any hT1 hn.2)
  have hc2 := hT1.c2
  have hc3 := hT1.wn (j := 1) (by omega)
  rw [hr1] at hc3
  obtain ⟨N, hN⟩ : ∃ N, N = L.length := ⟨_, rfl⟩
  obtain ⟨K, hK⟩ : ∃ K, K = W.length := ⟨_, rfl⟩
  rw [← hK] at hc2 hwl
  rw [← hN] at HC hn
  have hz : ((N : Int) == 0) = false := by simp; omega
  have hK1 : 1 < K := by omega
  have hK2 : (1 : Int) < (K : Int) := by omega
  have HX := Lib.hid ((MapKept.heap_alloc w (.cells #[.int .i64 0, .int .i64 0] 28)).1)
  obtain ⟨U, hU⟩ : ∃ U, U = w.heap.size := ⟨_, rfl⟩
  rw [← hU] at HX
  have HU := Lib.hid hU
  clear h hr hT hw hr1 hwn hwl hb1 hT1 hN hK hU
  go_enter Try.func21, Try.ntmps21
  go_upto_region 1 with fail
  rw [← HU.out]
  generalize w.alloc (.cells #[.int .i64 0, .int .i64 0] 28) = W1 at HB HX HC hc2 hc3 ⊢
  go_wp2_with fail
  refine HC.out.mono ?_
  rintro e w1 ⟨rfl, rfl⟩
  go_upto_region 3 with fail
  have HB2 := Lib.hid (bt HB.out (ba W1 (.cells #[.int .i64 0, .int .i64 0] 28)))
  have HX2 := Lib.hid ((MapKept.heap_alloc W1 (.cells #[.int .i64 0, .int .i64 0] 28)).1)
  have HX3 := Lib.hid (((ba W1 (.cells #[.int .i64 0, .int .i64 0] 28)).block U (block_ltT HX.out)).trans HX.out)
  have hUV : U < W1.heap.size := block_ltT HX.out
  generalize W1.alloc (.cells #[.int .i64 0, .int .i64 0] 28) = W2 at HB2 HX2 HX3 ⊢
  generalize W1.heap.size = V at HX2 hUV ⊢
  have x1 : W2.cell? ⟨V, 0, none⟩ = some (.int .i64 0) := by simp only [World.cell?, HX2.out]; rfl
  have x2 : W2.cell? ⟨V, 1, none⟩ = some (.int .i64 0) := by simp only [World.cell?, HX2.out]; rfl
  have x3 : W2.cell? ⟨U, 0, none⟩ = some (.int .i64 0) := by simp only [World.cell?, HX3.out]; rfl
  have x4 : W2.cell? ⟨U, 1, none⟩ = some (.int .i64 0) := by simp only [World.cell?, HX3.out]; rfl
  have f3 : W2.frozen? ⟨U, 0, none⟩ = false := by simp only [World.frozen?, HX3.out]; rfl
  have f4 : W2.frozen? ⟨U, 1, none⟩ = false := by simp only [World.frozen?, HX3.out]; rfl
  clear hc2 hc3
  have HS := Lib.hid (pset HX3.out (.int .i64 0) (.int .i64 0))
  have HE := Lib.hid (show Below w.heap.size w ((W2.setCell ⟨U, 0, none⟩ (.int .i64 0)).setCell ⟨U, 1, none⟩ (.int .i64 0)) from (HB2.out.setCell (by have := HU.out; show _ ≤ U; omega) _).setCell (by have := HU.out; show _ ≤ U; omega) _)
  go_region
  go_wp2_with fail
  generalize (W2.setCell ⟨U, 0, none⟩ (.int .i64 0)).setCell ⟨U, 1, none⟩ (.int .i64 0) = W3 at HS HE ⊢
  obtain ⟨q0, q1⟩ := HS.out
  exact bodyPost_ret (v := .tuple #[.int .i64 (-1), .agg #[.int .i64 0, .int .i64 0], .bool false]) (by simp [results, Try.results21, go_sem, q0, q1]) rfl ⟨rfl, Below.drew HE.out⟩
set_option maxRecDepth 100000 in
set_option maxHeartbeats 2000000 in
theorem win_some (h : T8 O B w t a b L M s c) {i : Nat} (hr : isW L 0 L.length (i : Int)) :
    Calls Try.prog 21 #[.pointer (some ⟨t, 0, none⟩)] w fun e w' => e = .returned (.tuple #[.int .i64 i, .agg #[.int .i64 (L.getD i noLf).k, .int .i64 (L.getD i noLf).t], .bool true]) ∧ Below w.heap.size w w' := by
  have hn := h.n
  obtain ⟨W, hT, hw, hr1⟩ := h.winner hr
  have hi : i < L.length := by
    rcases hr with ⟨ra, _⟩ | ⟨j, ra, _, j2, _⟩
    · omega
    · omega
  have hwn := hw.n
  have hwl := hw.len
  have hb1 := ba w (.cells #[.int .i64 0, .int .i64 0] 28)
  have HB := Lib.hid hb1
  have hT1 := hT.kept hb1
  have HC := Lib.hid (leaves_any hT1 hn.2)
  have hc1 := hT1.c1
  have hc2 := hT1.c2
  have hc3 := hT1.wn (j := 1) (by omega)
  rw [hr1] at hc3
  have hU3 : a < w.heap.size := block_ltT hT.things
  obtain ⟨hc4, hc5⟩ := hT1.th hi
  generalize (L.getD i noLf).k = kk at hc4 ⊢
  generalize (L.getD i noLf).t = tt at hc5 ⊢
  obtain ⟨N, hN⟩ : ∃ N, N = L.length := ⟨_, rfl⟩
  obtain ⟨K, hK⟩ : ∃ K, K = W.length := ⟨_, rfl⟩
  rw [← hK] at hc2 hwl
  rw [← hN] at HC hn hi hc1
  have hz : ((N : Int) == 0) = false := by simp; omega
  have hi1 : ((i : Int) == -1) = false := by simp
  have hK1 : 1 < K := by omega
  have hK2 : (1 : Int) < (K : Int) := by omega
  have hi2 : (i : Int) < (N : Int) := by omega
  have HX := Lib.hid ((MapKept.heap_alloc w (.cells #[.int .i64 0, .int .i64 0] 28)).1)
  obtain ⟨U, hU⟩ : ∃ U, U = w.heap.size := ⟨_, rfl⟩
  rw [← hU] at HX hU3
  have HU := Lib.hid hU
  clear h hr hT hw hr1 hwn hwl hb1 hT1 hN hK hU
  go_enter Try.func21, Try.ntmps21
  go_upto_region 1 with fail
  rw [← HU.out]
  generalize w.alloc (.cells #[.int .i64 0, .int .i64 0] 28) = W1 at HB HX HC hc1 hc2 hc3 hc4 hc5 ⊢
  go_wp2_with fail
  refine HC.out.mono ?_
  rintro e w1 ⟨rfl, rfl⟩
  go_upto_region 5 with fail
  have x3 : W1.cell? ⟨U, 0, none⟩ = some (.int .i64 0) := by simp only [World.cell?, HX.out]; rfl
  have x4 : W1.cell? ⟨U, 1, none⟩ = some (.int .i64 0) := by simp only [World.cell?, HX.out]; rfl
  have f3 : W1.frozen? ⟨U, 0, none⟩ = false := by simp only [World.frozen?, HX.out]; rfl
  have f4 : W1.frozen? ⟨U, 1, none⟩ = false := by simp only [World.frozen?, HX.out]; rfl
  clear hc2 hc3
  have HS := Lib.hid (pset HX.out (.int .i64 kk) (.int .i64 tt))
  have HE := Lib.hid (show Below w.heap.size w ((W1.setCell ⟨U, 0, none⟩ (.int .i64 kk)).setCell ⟨U, 1, none⟩ (.int .i64 tt)) from (HB.out.setCell (by have := HU.out; show _ ≤ U; omega) _).setCell (by have := HU.out; show _ ≤ U; omega) _)
  go_region
  go_wp2_with fail
  generalize (W1.setCell ⟨U, 0, none⟩ (.int .i64 kk)).setCell ⟨U, 1, none⟩ (.int .i64 tt) = W3 at HS HE ⊢
  obtain ⟨q0, q1⟩ := HS.out
  exact bodyPost_ret (v := .tuple #[.int .i64 i, .agg #[.int .i64 kk, .int .i64 tt], .bool true]) (by simp [results, Try.results21, go_sem, q0, q1]) rfl ⟨rfl, Below.drew HE.out⟩
set_option maxRecDepth 100000 in
set_option maxHeartbeats 2000000 in
theorem win_nil (w : World) :
    Calls Try.prog 21 #[.pointer none] w fun e w' => e = .returned (.tuple #[.int .i64 (-1), .agg #[.int .i64 0, .int .i64 0], .bool false]) ∧ Below w.heap.size w w' := by
  have HB := Lib.hid (ba w (.cells #[.int .i64 0, .int .i64 0] 28))
  have HX := Lib.hid ((MapKept.heap_alloc w (.cells #[.int .i64 0, .int .i64 0] 28)).1)
  obtain ⟨U, hU⟩ : ∃ U, U = w.heap.size := ⟨_, rfl⟩
  rw [← hU] at HX
  have HU := Lib.hid hU
  clear hU
  go_enter Try.func21, Try.ntmps21
  go_upto_region 1 with fail
  rw [← HU.out]
  generalize w.alloc (.cells #[.int .i64 0, .int .i64 0] 28) = W1 at HB HX ⊢
  go_wp2_with fail
  refine (leaves_nil W1).mono ?_
  rintro e w1 ⟨rfl, rfl⟩
  go_upto_region 3 with fail
  have HB2 := Lib.hid (bt HB.out (ba W1 (.cells #[.int .i64 0, .int .i64 0] 28)))
  have HX2 := Lib.hid ((MapKept.heap_alloc W1 (.cells #[.int .i64 0, .int .i64 0] 28)).1)
  have HX3 := Lib.hid (((ba W1 (.cells #[.int .i64 0, .int .i64 0] 28)).block U (block_ltT HX.out)).trans HX.out)
  have hUV : U < W1.heap.size := block_ltT HX.out
  generalize W1.alloc (.cells #[.int .i64 0, .int .i64 0] 28) = W2 at HB2 HX2 HX3 ⊢
  generalize W1.heap.size = V at HX2 hUV ⊢
  have x1 : W2.cell? ⟨V, 0, none⟩ = some (.int .i64 0) := by simp only [World.cell?, HX2.out]; rfl
  have x2 : W2.cell? ⟨V, 1, none⟩ = some (.int .i64 0) := by simp only [World.cell?, HX2.out]; rfl
  have x3 : W2.cell? ⟨U, 0, none⟩ = some (.int .i64 0) := by simp only [World.cell?, HX3.out]; rfl
  have x4 : W2.cell? ⟨U, 1, none⟩ = some (.int .i64 0) := by simp only [World.cell?, HX3.out]; rfl
  have f3 : W2.frozen? ⟨U, 0, none⟩ = false := by simp only [World.frozen?, HX3.out]; rfl
  have f4 : W2.frozen? ⟨U, 1, none⟩ = false := by simp only [World.frozen?, HX3.out]; rfl
  have HS := Lib.hid (pset HX3.out (.int .i64 0) (.int .i64 0))
  have HE := Lib.hid (show Below w.heap.size w ((W2.setCell ⟨U, 0, none⟩ (.int .i64 0)).setCell ⟨U, 1, none⟩ (.int .i64 0)) from (HB2.out.setCell (by have := HU.out; show _ ≤ U; omega) _).setCell (by have := HU.out; show _ ≤ U; omega) _)
  go_region
  go_wp2_with fail
  generalize (W2.setCell ⟨U, 0, none⟩ (.int .i64 0)).setCell ⟨U, 1, none⟩ (.int .i64 0) = W3 at HS HE ⊢
  obtain ⟨q0, q1⟩ := HS.out
  exact bodyPost_ret (v := .tuple #[.int .i64 (-1), .agg #[.int .i64 0, .int .i64 0], .bool false]) (by simp [results, Try.results21, go_sem, q0, q1]) rfl ⟨rfl, Below.drew HE.out⟩
/-- What Get leaves where there is no thing: shared by three ways to come there. -/
theorem get_end {W1 : World} {U : Nat} (hU : w.heap.size ≤ U) (hb : Below w.heap.size w W1) (hx : W1.heap[U]? = some (.cells #[.int .i64 0, .int .i64 0] 28 (0, 0))) (kk tt : Int) :
    (((W1.setCell ⟨U, 0, none⟩ (.int .i64 kk)).setCell ⟨U, 1, none⟩ (.int .i64 tt)).cell? ⟨U, 0, none⟩ = some (.int .i64 kk) ∧ ((W1.setCell ⟨U, 0, none⟩ (.int .i64 kk)).setCell ⟨U, 1, none⟩ (.int .i64 tt)).cell? ⟨U, 1, none⟩ = some (.int .i64 tt)) ∧ Below w.heap.size w ((W1.setCell ⟨U, 0, none⟩ (.int .i64 kk)).setCell ⟨U, 1, none⟩ (.int .i64 tt)) :=
  ⟨pset hx _ _, (hb.setCell hU _).setCell hU _⟩
set_option maxRecDepth 100000 in
set_option maxHeartbeats 2000000 in
theorem get_some (h : T8 O B w t a b L M s c) {i : Nat} (hi : i < L.length) (hb : (L.getD i noLf).b = true) :
    Calls Try.prog 22 #[.pointer (some ⟨t, 0, none⟩), .int .i64 i] w fun e w' => e = .returned (.tuple #[.agg #[.int .i64 (L.getD i noLf).k, .int .i64 (L.getD i noLf).t], .bool true]) ∧ Below w.heap.size w w' := by
  have hn := h.n
  have hm := h.m64
  obtain ⟨W, hT, hw⟩ := h.at'
  have hb1 := ba w (.cells #[.int .i64 0, .int .i64 0] 28)
  have HB := Lib.hid hb1
  have hT1 := hT.kept hb1
  have HT1 := Lib.hid hT1
  have HC := Lib.hid (check_any hT1 hn.1 hn.2 i)
  rw [show chkT L.length i = 0 by unfold chkT; rw [if_neg (by omega)]] at HC
  have HH := Lib.hid (holds_any hT1 hw hm hi)
  rw [hb] at HH
  have HI := Lib.hid (fun W2 (h2 : TrAt B W2 t a b O.ov L W) => h2.th hi)
  generalize (L.getD i noLf).k = kk at HI ⊢
  generalize (L.getD i noLf).t = tt at HI ⊢
  obtain ⟨N, hN⟩ : ∃ N, N = L.length := ⟨_, rfl⟩
  have hi2 : (i : Int) < (N : Int) := by omega
  have hi3 : i < N := by omega
  have hN64 : N ≤ 64 := by omega
  have HN := Lib.hid hN
  have HX := Lib.hid ((MapKept.heap_alloc w (.cells #[.int .i64 0, .int .i64 0] 28)).1)
  have hUa : a < w.heap.size := block_ltT hT.things
  obtain ⟨U, hU⟩ : ∃ U, U = w.heap.size := ⟨_, rfl⟩
  rw [← hU] at HX hUa
  have HU := Lib.hid hU
  clear h hT hw hb1 hT1 hN hU hn hm hi hb
  go_enter Try.func22, Try.ntmps22
  go_upto_region 1 with fail
  rw [← HU.out]
  generalize w.alloc (.cells #[.int .i64 0, .int .i64 0] 28) = W1 at HB HX HC HH HT1 ⊢
  go_wp2_with fail
  refine HC.out.mono ?_
  rintro e w1 ⟨rfl, rfl⟩
  go_wp2_with fail
  refine HH.out.mono ?_
  rintro e w2 ⟨rfl, hb2⟩
  have HB2 := Lib.hid (bt HB.out hb2)
  have HX2 := Lib.hid ((hb2.block U (block_ltT HX.out)).trans HX.out)
  have HT2 := Lib.hid (HT1.out.kept hb2)
  obtain ⟨hc4, hc5⟩ := HI.out _ HT2.out
  have hc1 := HT2.out.c1
  rw [← HN.out] at hc1
  have x3 : w2.cell? ⟨U, 0, none⟩ = some (.int .i64 0) := by simp only [World.cell?, HX2.out]; rfl
  have x4 : w2.cell? ⟨U, 1, none⟩ = some (.int .i64 0) := by simp only [World.cell?, HX2.out]; rfl
  have f3 : w2.frozen? ⟨U, 0, none⟩ = false := by simp only [World.frozen?, HX2.out]; rfl
  have f4 : w2.frozen? ⟨U, 1, none⟩ = false := by simp only [World.frozen?, HX2.out]; rfl
  have HE := Lib.hid (get_end (by have := HU.out; omega) HB2.out HX2.out kk tt)
  clear hb2 HT1 HT2 HH HC
  go_wp2_with fail
  generalize (w2.setCell ⟨U, 0, none⟩ (.int .i64 kk)).setCell ⟨U, 1, none⟩ (.int .i64 tt) = W3 at HE ⊢
  obtain ⟨q0, q1⟩ := HE.out.1
  exact bodyPost_ret (v := .tuple #[.agg #[.int .i64 kk, .int .i64 tt], .bool true]) (by simp [results, Try.results22, go_sem, q0, q1]) rfl ⟨rfl, HE.out.2⟩
set_option maxRecDepth 100000 in
set_option maxHeartbeats 2000000 in
theorem get_none (h : T8 O B w t a b L M s c) {i : Nat} (hi : i < L.length) (hb : (L.getD i noLf).b = false) :
    Calls Try.prog 22 #[.pointer (some ⟨t, 0, none⟩), .int .i64 i] w fun e w' => e = .returned (.tuple #[.agg #[.int .i64 0, .int .i64 0], .bool false]) ∧ Below w.heap.size w w' := by
  have hn := h.n
  have hm := h.m64
  obtain ⟨W, hT, hw⟩ := h.at'
  have hb1 := ba w (.cells #[.int .i64 0, .int .i64 0] 28)
  have HB := Lib.hid hb1
  have hT1 := hT.kept hb1
  have HC := Lib.hid (check_any hT1 hn.1 hn.2 i)
  rw [show chkT L.length i = 0 by unfold chkT; rw [if_neg (by omega)]] at HC
  have HH := Lib.hid (holds_any hT1 hw hm hi)
  rw [hb] at HH
  have HX := Lib.hid ((MapKept.heap_alloc w (.cells #[.int .i64 0, .int .i64 0] 28)).1)
  obtain ⟨U, hU⟩ : ∃ U, U = w.heap.size := ⟨_, rfl⟩
  rw [← hU] at HX
  have HU := Lib.hid hU
  clear h hT hw hb1 hT1 hU hn hm hi hb
  go_enter Try.func22, Try.ntmps22
  go_upto_region 1 with fail
  rw [← HU.out]
  generalize w.alloc (.cells #[.int .i64 0, .int .i64 0] 28) = W1 at HB HX HC HH ⊢
  go_wp2_with fail
  refine HC.out.mono ?_
  rintro e w1 ⟨rfl, rfl⟩
  go_wp2_with fail
  refine HH.out.mono ?_
  rintro e w2 ⟨rfl, hb2⟩
  have HB2 := Lib.hid (bt HB.out hb2)
  have HX2 := Lib.hid ((hb2.block U (block_ltT HX.out)).trans HX.out)
  clear hb2 HH HC
  go_upto_region 3 with fail
  have HB3 := Lib.hid (bt HB2.out (ba w2 (.cells #[.int .i64 0, .int .i64 0] 28)))
  have HX4 := Lib.hid ((MapKept.heap_alloc w2 (.cells #[.int .i64 0, .int .i64 0] 28)).1)
  have HX3 := Lib.hid (((ba w2 (.cells #[.int .i64 0, .int .i64 0] 28)).block U (block_ltT HX2.out)).trans HX2.out)
  have hUV : U < w2.heap.size := block_ltT HX2.out
  generalize w2.alloc (.cells #[.int .i64 0, .int .i64 0] 28) = W2 at HB3 HX4 HX3 ⊢
  generalize w2.heap.size = V at HX4 hUV ⊢
  have x1 : W2.cell? ⟨V, 0, none⟩ = some (.int .i64 0) := by simp only [World.cell?, HX4.out]; rfl
  have x2 : W2.cell? ⟨V, 1, none⟩ = some (.int .i64 0) := by simp only [World.cell?, HX4.out]; rfl
  have x3 : W2.cell? ⟨U, 0, none⟩ = some (.int .i64 0) := by simp only [World.cell?, HX3.out]; rfl
  have x4 : W2.cell? ⟨U, 1, none⟩ = some (.int .i64 0) := by simp only [World.cell?, HX3.out]; rfl
  have f3 : W2.frozen? ⟨U, 0, none⟩ = false := by simp only [World.frozen?, HX3.out]; rfl
  have f4 : W2.frozen? ⟨U, 1, none⟩ = false := by simp only [World.frozen?, HX3.out]; rfl
  have HE := Lib.hid (get_end (by have := HU.out; omega) HB3.out HX3.out 0 0)
  go_wp2_with fail
  generalize (W2.setCell ⟨U, 0, none⟩ (.int .i64 0)).setCell ⟨U, 1, none⟩ (.int .i64 0) = W3 at HE ⊢
  obtain ⟨q0, q1⟩ := HE.out.1
  exact bodyPost_ret (v := .tuple #[.agg #[.int .i64 0, .int .i64 0], .bool false]) (by simp [results, Try.results22, go_sem, q0, q1]) rfl ⟨rfl, HE.out.2⟩
set_option maxRecDepth 100000 in
set_option maxHeartbeats 2000000 in
/-- Get where check refuses. -/
theorem get_ref (p : Option Addr) (i r : Int) (hr : r = 4 ∨ r = 6) (hc : ∀ w, Hid (p = none ∨ ∃ B t a b ov L W, p = some ⟨t, 0, none⟩ ∧ TrAt B w t a b ov L W ∧ 1 ≤ L.length ∧ L.length ≤ 64 ∧ (i < 0 ∨ (L.length : Int) ≤ i)) → Calls Try.prog 25 #[.pointer p, .int .i64 i] w fun e w' => e = .returned (.int .i64 r) ∧ w = w')
    (hp : p = none ∨ ∃ B t a b ov L W, p = some ⟨t, 0, none⟩ ∧ TrAt B w t a b ov L W ∧ 1 ≤ L.length ∧ L.length ≤ 64 ∧ (i < 0 ∨ (L.length : Int) ≤ i)) :
    Calls Try.prog 22 #[.pointer p, .int .i64 i] w fun e w' => e = .returned (.tuple #[.agg #[.int .i64 0, .int .i64 0], .bool false]) ∧ Below w.heap.size w w' := by
  have hb1 := ba w (.cells #[.int .i64 0, .int .i64 0] 28)
  have HB := Lib.hid hb1
  have HC := Lib.hid (hc (w.alloc (.cells #[.int .i64 0, .int .i64 0] 28)) (Lib.hid (by
    rcases hp with hp | ⟨B, t, a, b, ov, L, W, e, hT, rest⟩
    · exact .inl hp
    · exact .inr ⟨B, t, a, b, ov, L, W, e, hT.kept hb1, rest⟩)))
  have HX := Lib.hid ((MapKept.heap_alloc w (.cells #[.int .i64 0, .int .i64 0] 28)).1)
  obtain ⟨U, hU⟩ : ∃ U, U = w.heap.size := ⟨_, rfl⟩
  rw [← hU] at HX
  have HU := Lib.hid hU
  clear hp hc hb1 hU
  rcases hr with rfl | rfl
  all_goals
    go_enter Try.func22, Try.ntmps22
    go_upto_region 1 with fail
    rw [← HU.out]
    generalize w.alloc (.cells #[.int .i64 0, .int .i64 0] 28) = W1 at HB HX HC ⊢
    go_wp2_with fail
    refine HC.out.mono ?_
    rintro e w1 ⟨rfl, rfl⟩
    clear HC
    go_upto_region 3 with fail
    have HB3 := Lib.hid (bt HB.out (ba W1 (.cells #[.int .i64 0, .int .i64 0] 28)))
    have HX4 := Lib.hid ((MapKept.heap_alloc W1 (.cells #[.int .i64 0, .int .i64 0] 28)).1)
    have HX3 := Lib.hid (((ba W1 (.cells #[.int .i64 0, .int .i64 0] 28)).block U (block_ltT HX.out)).trans HX.out)
    have hUV : U < W1.heap.size := block_ltT HX.out
    generalize W1.alloc (.cells #[.int .i64 0, .int .i64 0] 28) = W2 at HB3 HX4 HX3 ⊢
    generalize W1.heap.size = V at HX4 hUV ⊢
    have x1 : W2.cell? ⟨V, 0, none⟩ = some (.int .i64 0) := by simp only [World.cell?, HX4.out]; rfl
    have x2 : W2.cell? ⟨V, 1, none⟩ = some (.int .i64 0) := by simp only [World.cell?, HX4.out]; rfl
    have x3 : W2.cell? ⟨U, 0, none⟩ = some (.int .i64 0) := by simp only [World.cell?, HX3.out]; rfl
    have x4 : W2.cell? ⟨U, 1, none⟩ = some (.int .i64 0) := by simp only [World.cell?, HX3.out]; rfl
    have f3 : W2.frozen? ⟨U, 0, none⟩ = false := by simp only [World.frozen?, HX3.out]; rfl
    have f4 : W2.frozen? ⟨U, 1, none⟩ = false := by simp only [World.frozen?, HX3.out]; rfl
    have HE := Lib.hid (get_end (by have := HU.out; omega) HB3.out HX3.out 0 0)
    go_wp2_with fail
    generalize (W2.setCell ⟨U, 0, none⟩ (.int .i64 0)).setCell ⟨U, 1, none⟩ (.int .i64 0) = W3 at HE ⊢
    obtain ⟨q0, q1⟩ := HE.out.1
    exact bodyPost_ret (v := .tuple #[.agg #[.int .i64 0, .int .i64 0], .bool false]) (by simp [results, Try.results22, go_sem, q0, q1]) rfl ⟨rfl, HE.out.2⟩
theorem get_nil (i : Int) (w : World) :
    Calls Try.prog 22 #[.pointer none, .int .i64 i] w fun e w' => e = .returned (.tuple #[.agg #[.int .i64 0, .int .i64 0], .bool false]) ∧ Below w.heap.size w w' :=
  get_ref none i 6 (.inr rfl) (fun W _ => check_nil i W) (.inl rfl)
theorem get_out (h : T8 O B w t a b L M s c) {i : Int} (hi : i < 0 ∨ (L.length : Int) ≤ i) :
    Calls Try.prog 22 #[.pointer (some ⟨t, 0, none⟩), .int .i64 i] w fun e w' => e = .returned (.tuple #[.agg #[.int .i64 0, .int .i64 0], .bool false]) ∧ Below w.heap.size w w' := by
  have hn := h.n
  obtain ⟨W, hT, hw⟩ := h.at'
  refine get_ref (some ⟨t, 0, none⟩) i 4 (.inl rfl) (fun W1 hp => ?_) (.inr ⟨B, t, a, b, O.ov, L, W, rfl, hT, hn.1, hn.2, hi⟩)
  rcases hp.out with hp | ⟨B', t', a', b', ov', L', W', e, hT', n1, n2, n3⟩
  · cases hp
  · simp only [Option.some.injEq, Addr.mk.injEq] at e
    obtain ⟨rfl, _⟩ := e
    have := check_any hT' n1 n2 i
    rwa [show chkT L'.length i = 4 by unfold chkT; rw [if_pos n3]] at this
theorem drw {w wr : World} (h : ∃ nq, wr = w.drewN nq) : Below w.heap.size w wr := by
  obtain ⟨n, rfl⟩ := h
  exact drNT _ _
theorem drw2 {w wr w2 : World} (h : ∃ nq, wr = w.drewN nq) (h2 : ∃ nq, w2 = wr.drewN nq) : ∃ nq, w2 = w.drewN nq := by
  obtain ⟨n, rfl⟩ := h
  obtain ⟨m, rfl⟩ := h2
  exact ⟨_, World.drewN_drewN _ _ _⟩
set_option maxRecDepth 100000 in
set_option maxHeartbeats 2000000 in
theorem len_q (hO : OrdOk O) (h : T8 O B w t a b L M s c) :
    Calls Try.prog 23 #[.pointer (some ⟨t, 0, none⟩)] w fun e w' => e = .returned (.int .i64 (cntT L : Nat)) ∧ ∃ nq, w' = w.drewN nq := by
  have hn := h.n
  have hm := h.m64
  have HL : Hid (Calls _ _ _ w _) := Lib.hid (leaves_any h.at'.choose_spec.1 hn.2)
  have HV := Lib.hid h
  have HO := Lib.hid hO
  obtain ⟨N, hN⟩ : ∃ N, N = L.length := ⟨_, rfl⟩
  rw [← hN] at HL hn
  have HN := Lib.hid hN
  clear h hO hN
  go_enter Try.func23, Try.ntmps23
  go_wp2_with fail
  refine HL.out.mono ?_
  rintro e w1 ⟨rfl, rfl⟩
  go_wp2_with fail
  go_loopw [3, 7] (fun cc ii wr => ∃ i : Nat, ii = .int .i64 i ∧ i ≤ N ∧ cc = .int .i64 (cntT (L.take i) : Nat) ∧ Hid (∃ nq, wr = w.drewN nq)) (fun _ ii _ => N - (intOf ii).toNat)
  case atStart => exact ⟨0, rfl, Nat.zero_le _, by simp [cntT], Lib.hid ⟨0, rfl⟩⟩
  case round =>
    obtain ⟨i, rfl, hi, rfl, HB⟩ := hrel
    have hcl : cntT (L.take i) ≤ 64 := by
      have h1 := List.length_filter_le (·.b) (L.take i)
      have h2 := List.length_take_le i L
      unfold cntT; omega
    by_cases hlt : i < N
    · have hlt2 : i < L.length := by have := HN.out; omega
      obtain ⟨W1, hT1, hw1⟩ := (HV.out.kept HO.out (drw HB.out)).at'
      have HH := Lib.hid (holds_q hT1 hw1 hm hlt2)
      have HS := Lib.hid (cnt_snoc hlt2)
      clear hT1 hw1 hlt2
      generalize (L.getD i noLf).b = bb at HH HS
      cases bb with
      | true =>
        go_wp2_with fail
        refine HH.out.mono ?_
        rintro e w2 ⟨rfl, hb2⟩
        have HB2 := Lib.hid (drw2 HB.out hb2)
        clear hb2
        go_wp2_with fail
        go_roundw
        case rel => exact ⟨i + 1, by go_num, by omega, by rw [HS.out]; go_num, HB2⟩
        case measure => simp [intOf]; omega
      | false =>
        go_wp2_with fail
        refine HH.out.mono ?_
        rintro e w2 ⟨rfl, hb2⟩
        have HB2 := Lib.hid (drw2 HB.out hb2)
        clear hb2
        go_wp2_with fail
        go_roundw
        case rel => exact ⟨i + 1, by go_num, by omega, by rw [HS.out]; rfl, HB2⟩
        case measure => simp [intOf]; omega
    · have HE := Lib.hid (show L.take i = L from List.take_of_length_le (by have := HN.out; omega))
      go_wp2_with fail
      go_ret
      exact ⟨ret_int (by rw [HE.out]), HB.out⟩
theorem len_any (hO : OrdOk O) (h : T8 O B w t a b L M s c) :
    Calls Try.prog 23 #[.pointer (some ⟨t, 0, none⟩)] w fun e w' => e = .returned (.int .i64 (cntT L : Nat)) ∧ Below w.heap.size w w' :=
  (len_q hO h).mono fun _ _ ⟨he, hq⟩ => ⟨he, drw hq⟩
theorem len_nil (w : World) :
    Calls Try.prog 23 #[.pointer none] w fun e w' => e = .returned (.int .i64 0) ∧ w = w' := by
  go_enter Try.func23, Try.ntmps23
  go_wp2_with fail
  refine (leaves_nil w).mono ?_
  rintro e w1 ⟨rfl, rfl⟩
  go_wp2_with fail
  go_loop [3, 7] (fun c i => c = .int .i64 0 ∧ i = .int .i64 0) (fun _ _ => 0)
  case atStart => exact ⟨rfl, rfl⟩
  case round =>
    obtain ⟨rfl, rfl⟩ := hrel
    go_wp2_with fail
    go_ret
    exact ⟨rfl, rfl⟩
end
end Go.Proofs.Ytjcinhlghlcknaa
