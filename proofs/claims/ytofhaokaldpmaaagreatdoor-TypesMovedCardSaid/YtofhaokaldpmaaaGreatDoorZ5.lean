/-
  put: an expression whose columns are put at places, whole; whole, Bind, Move.
A drawn region within a round of a range over a function, walked by the laws of the plain walk.
A list of expressions of the call's own, held in a box, that grows by one.
The library's Grow and Concat over expressions; parts, Parts.
-/
import Derived.Test.YtofhaokaldpmaaaGreatDoorZ4
import Derived.Deep.RegionHeld3
import Derived.OrdersIn
import Derived.Maps.AppendAt
import Derived.BigRegion
section
namespace Go.Proofs.YtofhaokaldpmaaaGreatDoor
open Go.RowKit Go.Shelf
attribute [local go_sem] Oper.semAt_some

theorem setN_box {W : World} {U : Nat} {h : Hd} {A : Option Addr} {len cap : Nat} (hx : W.heap[U]? = some (xbox h A len cap)) (n : Int) :
    (W.setCell ⟨U, 1, none⟩ (.int .i64 n)).heap[U]? = some (xbox ⟨h.k, n, h.vk, h.vn, h.vs, h.tab, h.col⟩ A len cap) := by
  simp only [World.setCell, Array.getElem?_modify, if_true, hx]
  rfl
theorem setL_box {W : World} {U : Nat} {h : Hd} {A : Option Addr} {len cap : Nat} (hx : W.heap[U]? = some (xbox h A len cap)) (A' : Option Addr) (len' cap' : Nat) :
    (W.setCell ⟨U, 7, none⟩ (.slice A' len' cap')).heap[U]? = some (xbox h A' len' cap') := by
  simp only [World.setCell, Array.getElem?_modify, if_true, hx]
  rfl
/-- What put holds in memory while it works. -/
structure Pm (w W : World) (h : Hd) (A : Option Addr) (len cap g : Nat) (p : Nat) : Prop where
  bel : Below w.heap.size w W
  x : W.heap[w.heap.size]? = some (xbox h A len cap)
  f : W.heap[w.heap.size + 1]? = some (.cells #[.func (.func g) #[] #[.pointer (some ⟨p, 0, none⟩)]] 61)
  z : W.heap[w.heap.size + 1 + 1]? = some x0
theorem Pm.next {w W W' : World} {h : Hd} {A : Option Addr} {len cap g p : Nat} (H : Pm w W h A len cap g p) (hb : Below W.heap.size W W') : Pm w W' h A len cap g p :=
  ⟨bt H.bel hb, (hb.block _ (Array.getElem?_eq_some_iff.1 H.x).1).trans H.x, (hb.block _ (Array.getElem?_eq_some_iff.1 H.f).1).trans H.f, (hb.block _ (Array.getElem?_eq_some_iff.1 H.z).1).trans H.z⟩
theorem Pm.start (w : World) (h : Hd) (A : Option Addr) (len cap g p : Nat) :
    Pm w (((w.alloc (xbox h A len cap)).alloc (.cells #[.func (.func g) #[] #[.pointer (some ⟨p, 0, none⟩)]] 61)).alloc x0) h A len cap g p := by
  have h1 := ba w (xbox h A len cap)
  have h2 := ba (w.alloc (xbox h A len cap)) (.cells #[.func (.func g) #[] #[.pointer (some ⟨p, 0, none⟩)]] 61)
  have h3 := ba ((w.alloc (xbox h A len cap)).alloc (.cells #[.func (.func g) #[] #[.pointer (some ⟨p, 0, none⟩)]] 61)) x0
  refine ⟨bt h1 (bt h2 h3), ?_, ?_, ?_⟩
  · exact ((bt h2 h3).block _ (by simp)).trans (MapKept.heap_alloc w _).1
  · have := (MapKept.heap_alloc (w.alloc (xbox h A len cap)) (.cells #[.func (.func g) #[] #[.pointer (some ⟨p, 0, none⟩)]] 61)).1
    rw [World.size_alloc] at this
    exact (h3.block _ (by simp)).trans this
  · have := (MapKept.heap_alloc ((w.alloc (xbox h A len cap)).alloc (.cells #[.func (.func g) #[] #[.pointer (some ⟨p, 0, none⟩)]] 61)) x0).1
    rwa [World.size_alloc, World.size_alloc] at this
theorem Pm.setN {w W : World} {h : Hd} {A : Option Addr} {len cap g p : Nat} (H : Pm w W h A len cap g p) (n : Int) : Pm w (W.setCell ⟨w.heap.size, 1, none⟩ (.int .i64 n)) ⟨h.k, n, h.vk, h.vn, h.vs, h.tab, h.col⟩ A len cap g p :=
  ⟨H.bel.setCell (Nat.le_refl _) _, setN_box H.x n, (setc_other (by omega) _).trans H.f, (setc_other (by omega) _).trans H.z⟩
theorem Pm.setL {w W : World} {h : Hd} {A : Option Addr} {len cap g p : Nat} (H : Pm w W h A len cap g p) (A' : Option Addr) (len' cap' : Nat) : Pm w (W.setCell ⟨w.heap.size, 7, none⟩ (.slice A' len' cap')) h A' len' cap' g p :=
  ⟨H.bel.setCell (Nat.le_refl _) _, setL_box H.x A' len' cap', (setc_other (by omega) _).trans H.f, (setc_other (by omega) _).trans H.z⟩
/-- The second half of put: the parts, then the whole. -/
def KidsOk (pl : Hd → Option Nat) (w : World) (g p : Nat) (l : List Ex) (A : Option Addr) (cap : Nat) : Prop :=
  ∀ W h', Pm w W h' A l.length cap g p → Calls Tryz.prog 64 #[.slice A l.length cap, .func (.func 65) #[] #[.pointer (some ⟨w.heap.size + 1, 0, none⟩)]] W (EachE W (putXs pl l))
theorem put_none {pl : Hd → Option Nat} {h : Hd} {l : List Ex} (hh : headX pl h = none) : putX pl (.mk h l) = none := by rw [putX, hh]
theorem put_none2 {pl : Hd → Option Nat} {h : Hd} {l : List Ex} (hh : putXs pl l = none) : putX pl (.mk h l) = none := by rw [putX, hh]; cases headX pl h <;> rfl
theorem put_some {pl : Hd → Option Nat} {h h' : Hd} {l l' : List Ex} (hh : headX pl h = some h') (hl : putXs pl l = some l') : putX pl (.mk h l) = some (.mk h' l') := by rw [putX, hh, hl]
theorem headX_len {pl : Hd → Option Nat} {h h' : Hd} (hh : headX pl h = some h') : h.k ≠ 2 → h' = h := fun hk => by
  rw [headX, if_neg hk] at hh
  exact (Option.some.inj hh).symm
set_option maxRecDepth 100000 in
set_option maxHeartbeats 8000000 in
theorem put_of (Qh : Hd → Prop) (pl : Hd → Option Nat) (g p : Nat) (P : World → Prop) (hK : ∀ W W', P W → Below W.heap.size W W' → P W')
    (hpl : ∀ (h : Hd) (W : World) A len cap, Qh h → P W → Calls Tryz.prog g #[XV h A len cap, .pointer (some ⟨p, 0, none⟩)] W fun e W' => e = .returned (fnV (pl h)) ∧ Below W.heap.size W W')
    (eg : ∀ args w, (callFunc g args).run Tryz.prog w = .ok (.enter g args) w)
    (h : Hd) (l : List Ex) (w : World) (A : Option Addr) (cap : Nat) (hQ : h.k = 2 → Qh h) (hP : P w) (hC : KidsOk pl w g p l A cap) :
    Calls Tryz.prog 47 #[XV h A l.length cap, .func (.func g) #[] #[.pointer (some ⟨p, 0, none⟩)]] w (PutE w (putX pl (.mk h l))) := by
  have HM := Lib.hid (Pm.start w h A l.length cap g p)
  have HP := Lib.hid (hK _ _ hP HM.out.bel)
  have HC := Lib.hid hC
  have HG := Lib.hid (fun hk W A len cap hp => hpl h W A len cap (hQ hk) hp)
  obtain ⟨O, hO⟩ : ∃ O, putX pl (.mk h l) = O := ⟨_, rfl⟩
  have HO := Lib.hid hO
  rw [hO]
  clear hP hC hpl hK hO hQ
  have HS : Hid (w.heap.size + 1 + 1 < (((w.alloc (xbox h A l.length cap)).alloc (.cells #[.func (.func g) #[] #[.pointer (some ⟨p, 0, none⟩)]] 61)).alloc x0).heap.size) := Lib.hid (by simp)
  by_cases hk : h.k = 2
  · have hkb : (h.k == 2) = true := by simpa using hk
    cases hpn : pl h with
    | none =>
      obtain rfl : O = none := HO.out.symm.trans (put_none (l := l) (show headX pl h = none by rw [headX, if_pos hk, hpn]; rfl))
      have HG2 := Lib.hid (fun W A len cap hp => by have := HG.out hk W A len cap hp; rw [hpn] at this; exact this)
      clear HG hpn hk
      go_enter Tryz.func47, Tryz.ntmps47
      go_upto_region 1 with fail
      generalize ((w.alloc (.cells #[.int .i64 h.k, .int .i64 h.n, .int .i64 h.vk, .int .i64 h.vn, .string h.vs, .string h.tab, .string h.col, .slice A l.length cap] 35)).alloc (.cells #[.func (.func g) #[] #[.pointer (some ⟨p, 0, none⟩)]] 61)).alloc (.cells #[.int .i64 0, .int .i64 0, .int .i64 0, .int .i64 0, .string ⟨#[]⟩, .string ⟨#[]⟩, .string ⟨#[]⟩, .slice none 0 0] 35) = W at HM HP HS ⊢
      obtain ⟨⟨x0, x1, x2, x3, x4, x5, x6, x7⟩, _⟩ := cell8 HM.out.x
      have hf : W.cell? ⟨w.heap.size + 1, 0, none⟩ = some (.func (.func g) #[] #[.pointer (some ⟨p, 0, none⟩)]) := by simp only [World.cell?, HM.out.f]; rfl
      go_wp2_with fail
      refine (HG2.out _ _ _ _ HP.out).mono ?_
      rintro e W1 ⟨rfl, hb⟩
      have HM1 := Lib.hid (HM.out.next hb)
      clear hb x0 x1 x2 x3 x4 x5 x6 x7 hf HM HP
      unfold fnV
      obtain ⟨⟨z0, z1, z2, z3, z4, z5, z6, z7⟩, g0, g1, g2, g3, g4, g5, g6, g7⟩ := cell8 HM1.out.z
      have HZ := Lib.hid (set8_box HM1.out.z (.int .i64 0) (.int .i64 0) (.int .i64 0) (.int .i64 0) (.string ⟨#[]⟩) (.string ⟨#[]⟩) (.string ⟨#[]⟩) (.slice none 0 0))
      go_wp2_with fail
      obtain ⟨⟨q0, q1, q2, q3, q4, q5, q6, q7⟩, _⟩ := cell8 HZ.out
      refine bodyPost_ret (v := .tuple #[XV zHd none 0 0, errV 140]) (by simp [results, Tryz.results47, go_sem, q0, q1, q2, q3, q4, q5, q6, q7]) rfl ⟨rfl, ?_⟩
      exact set8_below HM1.out.bel (by omega) _ _ _ _ _ _ _ _
    | some n =>
      have HHd := Lib.hid (show headX pl h = some ⟨h.k, (n : Nat), h.vk, h.vn, h.vs, h.tab, h.col⟩ by rw [headX, if_pos hk, hpn]; rfl)
      have HG2 := Lib.hid (fun W A len cap hp => by have := HG.out hk W A len cap hp; rw [hpn] at this; exact this)
      clear HG hpn hk
      go_enter Tryz.func47, Tryz.ntmps47
      go_upto_region 1 with fail
      generalize ((w.alloc (.cells #[.int .i64 h.k, .int .i64 h.n, .int .i64 h.vk, .int .i64 h.vn, .string h.vs, .string h.tab, .string h.col, .slice A l.length cap] 35)).alloc (.cells #[.func (.func g) #[] #[.pointer (some ⟨p, 0, none⟩)]] 61)).alloc (.cells #[.int .i64 0, .int .i64 0, .int .i64 0, .int .i64 0, .string ⟨#[]⟩, .string ⟨#[]⟩, .string ⟨#[]⟩, .slice none 0 0] 35) = W at HM HP HS ⊢
      obtain ⟨⟨x0, x1, x2, x3, x4, x5, x6, x7⟩, _⟩ := cell8 HM.out.x
      have hf : W.cell? ⟨w.heap.size + 1, 0, none⟩ = some (.func (.func g) #[] #[.pointer (some ⟨p, 0, none⟩)]) := by simp only [World.cell?, HM.out.f]; rfl
      go_wp2_with fail
      refine (HG2.out _ _ _ _ HP.out).mono ?_
      rintro e W1 ⟨rfl, hb⟩
      have HM1 := Lib.hid (HM.out.next hb)
      clear hb x0 x1 x2 x3 x4 x5 x6 x7 hf HM HP
      unfold fnV
      obtain ⟨⟨x0, x1, x2, x3, x4, x5, x6, x7⟩, f0, f1, f2, f3, f4, f5, f6, f7⟩ := cell8 HM1.out.x
      have HM2 := Lib.hid (HM1.out.setN (n : Nat))
      go_upto_region 6 with fail
      generalize W1.setCell ⟨w.heap.size, 1, none⟩ (.int .i64 (n : Nat)) = W2 at HM2 ⊢
      clear x0 x1 x2 x3 x4 x5 x6 x7 f0 f1 f2 f3 f4 f5 f6 f7 HM1
      obtain ⟨⟨x0, x1, x2, x3, x4, x5, x6, x7⟩, _⟩ := cell8 HM2.out.x
      go_wp2_with fail
      refine (HC.out W2 _ HM2.out).mono ?_
      cases hps : putXs pl l with
      | none =>
        obtain rfl : O = none := HO.out.symm.trans (put_none2 (h := h) hps)
        rintro e W3 ⟨rfl, hb⟩
        have HM3 := Lib.hid (HM2.out.next hb)
        clear hb x0 x1 x2 x3 x4 x5 x6 x7 HM2 hps
        obtain ⟨⟨z0, z1, z2, z3, z4, z5, z6, z7⟩, g0, g1, g2, g3, g4, g5, g6, g7⟩ := cell8 HM3.out.z
        have HZ := Lib.hid (set8_box HM3.out.z (.int .i64 0) (.int .i64 0) (.int .i64 0) (.int .i64 0) (.string ⟨#[]⟩) (.string ⟨#[]⟩) (.string ⟨#[]⟩) (.slice none 0 0))
        go_wp2_with fail
        obtain ⟨⟨q0, q1, q2, q3, q4, q5, q6, q7⟩, _⟩ := cell8 HZ.out
        refine bodyPost_ret (v := .tuple #[XV zHd none 0 0, errV 140]) (by simp [results, Tryz.results47, go_sem, q0, q1, q2, q3, q4, q5, q6, q7]) rfl ⟨rfl, ?_⟩
        exact set8_below HM3.out.bel (by omega) _ _ _ _ _ _ _ _
      | some l' =>
        obtain rfl : O = some _ := HO.out.symm.trans (put_some HHd.out hps)
        rintro e W3 ⟨A3, cap3, rfl, hle3, hx3, hb⟩
        have HM3 := Lib.hid (HM2.out.next hb)
        have HX3 := Lib.hid (show XsB (fun k => W2.heap.size ≤ k ∧ k < W3.heap.size) W3 l' A3 from hx3)
        have HLE := Lib.hid hle3
        have HS2 := Lib.hid (show w.heap.size + 1 + 1 < W2.heap.size from (Array.getElem?_eq_some_iff.1 HM2.out.z).1)
        have HM4 := Lib.hid (HM3.out.setL A3 l'.length cap3)
        obtain ⟨⟨y0, y1, y2, y3, y4, y5, y6, y7⟩, f0, f1, f2, f3, f4, f5, f6, f7⟩ := cell8 HM3.out.x
        clear hb x0 x1 x2 x3 x4 x5 x6 x7 HM2 hps hle3 hx3
        go_upto_region 10 with fail
        have HX4 := Lib.hid (show XsB (fun k => W2.heap.size ≤ k ∧ k < (W3.setCell ⟨w.heap.size, 7, none⟩ (.slice A3 l'.length cap3)).heap.size) (W3.setCell ⟨w.heap.size, 7, none⟩ (.slice A3 l'.length cap3)) l' A3 from XsB.go (fun k hk => setc_other (by have := HS2.out; have := hk.1; omega) _) (fun k hk => ⟨hk.1, by rw [setc_size]; exact hk.2⟩) _ _ HX3.out)
        generalize W3.setCell ⟨w.heap.size, 7, none⟩ (.slice A3 l'.length cap3) = W4 at HM4 HX4 ⊢
        clear y0 y1 y2 y3 y4 y5 y6 y7 f0 f1 f2 f3 f4 f5 f6 f7 HX3 HM3
        obtain ⟨⟨y0, y1, y2, y3, y4, y5, y6, y7⟩, _⟩ := cell8 HM4.out.x
        obtain ⟨⟨z0, z1, z2, z3, z4, z5, z6, z7⟩, g0, g1, g2, g3, g4, g5, g6, g7⟩ := cell8 HM4.out.z
        have HZ := Lib.hid (set8_box HM4.out.z (.int .i64 h.k) (.int .i64 (n : Nat)) (.int .i64 h.vk) (.int .i64 h.vn) (.string h.vs) (.string h.tab) (.string h.col) (.slice A3 l'.length cap3))
        go_wp2_with fail
        obtain ⟨⟨q0, q1, q2, q3, q4, q5, q6, q7⟩, _⟩ := cell8 HZ.out
        refine bodyPost_ret (v := .tuple #[XV ⟨h.k, (n : Nat), h.vk, h.vn, h.vs, h.tab, h.col⟩ A3 l'.length cap3, .nilIface]) (by simp [results, Tryz.results47, go_sem, q0, q1, q2, q3, q4, q5, q6, q7]) rfl ⟨A3, cap3, rfl, HLE.out, ?_, ?_⟩
        · exact XsB.go (fun k hk => set8_other (by have := HS2.out; have := hk.1; omega) _ _ _ _ _ _ _ _) (fun k hk => ⟨by have := HS2.out; have := hk.1; omega, by rw [set8_size]; exact hk.2⟩) _ _ HX4.out
        · exact set8_below HM4.out.bel (by omega) _ _ _ _ _ _ _ _
  · have hkb : (h.k == 2) = false := by simpa using hk
    have HHd := Lib.hid (show headX pl h = some h by rw [headX, if_neg hk])
    clear hk
    go_enter Tryz.func47, Tryz.ntmps47
    go_upto_region 1 with fail
    generalize ((w.alloc (.cells #[.int .i64 h.k, .int .i64 h.n, .int .i64 h.vk, .int .i64 h.vn, .string h.vs, .string h.tab, .string h.col, .slice A l.length cap] 35)).alloc (.cells #[.func (.func g) #[] #[.pointer (some ⟨p, 0, none⟩)]] 61)).alloc (.cells #[.int .i64 0, .int .i64 0, .int .i64 0, .int .i64 0, .string ⟨#[]⟩, .string ⟨#[]⟩, .string ⟨#[]⟩, .slice none 0 0] 35) = W at HM HP HS ⊢
    obtain ⟨⟨x0, x1, x2, x3, x4, x5, x6, x7⟩, _⟩ := cell8 HM.out.x
    have hf : W.cell? ⟨w.heap.size + 1, 0, none⟩ = some (.func (.func g) #[] #[.pointer (some ⟨p, 0, none⟩)]) := by simp only [World.cell?, HM.out.f]; rfl
    have HM2 := HM
    clear HM
    go_wp2_with fail
    refine (HC.out W _ HM2.out).mono ?_
    cases hps : putXs pl l with
    | none =>
      obtain rfl : O = none := HO.out.symm.trans (put_none2 (h := h) hps)
      rintro e W3 ⟨rfl, hb⟩
      have HM3 := Lib.hid (HM2.out.next hb)
      clear hb x0 x1 x2 x3 x4 x5 x6 x7 HM2 hps
      obtain ⟨⟨z0, z1, z2, z3, z4, z5, z6, z7⟩, g0, g1, g2, g3, g4, g5, g6, g7⟩ := cell8 HM3.out.z
      have HZ := Lib.hid (set8_box HM3.out.z (.int .i64 0) (.int .i64 0) (.int .i64 0) (.int .i64 0) (.string ⟨#[]⟩) (.string ⟨#[]⟩) (.string ⟨#[]⟩) (.slice none 0 0))
      go_wp2_with fail
      obtain ⟨⟨q0, q1, q2, q3, q4, q5, q6, q7⟩, _⟩ := cell8 HZ.out
      refine bodyPost_ret (v := .tuple #[XV zHd none 0 0, errV 140]) (by simp [results, Tryz.results47, go_sem, q0, q1, q2, q3, q4, q5, q6, q7]) rfl ⟨rfl, ?_⟩
      exact set8_below HM3.out.bel (by omega) _ _ _ _ _ _ _ _
    | some l' =>
      obtain rfl : O = some _ := HO.out.symm.trans (put_some HHd.out hps)
      rintro e W3 ⟨A3, cap3, rfl, hle3, hx3, hb⟩
      have HM3 := Lib.hid (HM2.out.next hb)
      have HX3 := Lib.hid (show XsB (fun k => W.heap.size ≤ k ∧ k < W3.heap.size) W3 l' A3 from hx3)
      have HLE := Lib.hid hle3
      have HS2 := Lib.hid (show w.heap.size + 1 + 1 < W.heap.size from (Array.getElem?_eq_some_iff.1 HM2.out.z).1)
      have HM4 := Lib.hid (HM3.out.setL A3 l'.length cap3)
      obtain ⟨⟨y0, y1, y2, y3, y4, y5, y6, y7⟩, f0, f1, f2, f3, f4, f5, f6, f7⟩ := cell8 HM3.out.x
      clear hb x0 x1 x2 x3 x4 x5 x6 x7 HM2 hps hle3 hx3
      go_upto_region 10 with fail
      have HX4 := Lib.hid (show XsB (fun k => W.heap.size ≤ k ∧ k < (W3.setCell ⟨w.heap.size, 7, none⟩ (.slice A3 l'.length cap3)).heap.size) (W3.setCell ⟨w.heap.size, 7, none⟩ (.slice A3 l'.length cap3)) l' A3 from XsB.go (fun k hk => setc_other (by have := HS2.out; have := hk.1; omega) _) (fun k hk => ⟨hk.1, by rw [setc_size]; exact hk.2⟩) _ _ HX3.out)
      generalize W3.setCell ⟨w.heap.size, 7, none⟩ (.slice A3 l'.length cap3) = W4 at HM4 HX4 ⊢
      clear y0 y1 y2 y3 y4 y5 y6 y7 f0 f1 f2 f3 f4 f5 f6 f7 HX3 HM3
      obtain ⟨⟨y0, y1, y2, y3, y4, y5, y6, y7⟩, _⟩ := cell8 HM4.out.x
      obtain ⟨⟨z0, z1, z2, z3, z4, z5, z6, z7⟩, g0, g1, g2, g3, g4, g5, g6, g7⟩ := cell8 HM4.out.z
      have HZ := Lib.hid (set8_box HM4.out.z (.int .i64 h.k) (.int .i64 h.n) (.int .i64 h.vk) (.int .i64 h.vn) (.string h.vs) (.string h.tab) (.string h.col) (.slice A3 l'.length cap3))
      go_wp2_with fail
      obtain ⟨⟨q0, q1, q2, q3, q4, q5, q6, q7⟩, _⟩ := cell8 HZ.out
      refine bodyPost_ret (v := .tuple #[XV h A3 l'.length cap3, .nilIface]) (by simp [results, Tryz.results47, go_sem, q0, q1, q2, q3, q4, q5, q6, q7]) rfl ⟨A3, cap3, rfl, HLE.out, ?_, ?_⟩
      · exact XsB.go (fun k hk => set8_other (by have := HS2.out; have := hk.1; omega) _ _ _ _ _ _ _ _) (fun k hk => ⟨by have := HS2.out; have := hk.1; omega, by rw [set8_size]; exact hk.2⟩) _ _ HX4.out
      · exact set8_below HM4.out.bel (by omega) _ _ _ _ _ _ _ _
end Go.Proofs.YtofhaokaldpmaaaGreatDoor
end
section
namespace Go.Proofs.YtofhaokaldpmaaaGreatDoor
open Go.RowKit Go.Shelf

def noDef (ops : Array Oper) : Bool := ops.all fun o => match o.op with | .defer _ => false | _ => true
theorem noDef_at {ops : Array Oper} (h : noDef ops = true) {i : Nat} {o : Oper} (ho : ops[i]? = some o) : ∀ c, o.op ≠ .defer c := by
  intro c hc
  have := Array.all_eq_true_iff_forall_mem.1 h o (Array.mem_of_getElem? ho)
  rw [hc] at this
  cases this
theorem upon_in {l n : Nat} {P : Program} {o : Oper} {a : Act} {K : Act → World → Prop} {Q : Exit → Act → World → Prop} {r : Result Next} (h : o.upon P a K Q r) : o.uponIn (Fence.wide.inRound l) n P a K Q r := by
  cases r with
  | ok x w =>
    cases x with
    | value v => exact h
    | skip => exact h
    | «defer» d => exact h
    | enter f args => exact ⟨(fun e => by cases e), CallsIn.inRound l (callsIn_wide.2 h)⟩
    | row row args =>
      refine ⟨(fun e => by cases e), fun c cs _ => ?_⟩
      obtain ⟨v, w', hv, hs⟩ := h c cs
      exact ⟨v, w', hv, stepsIn_wide.2 hs⟩
    | _ => exact absurd h id
  | halt x w =>
    cases x with
    | panic v => exact h
    | _ => exact absurd h id
theorem wpOp_in {l n : Nat} {P : Program} {ops : Array Oper} {Q : Exit → Act → World → Prop} {i : Nat} {K : Act → World → Prop} {a : Act} {w : World} (hd : noDef ops = true) (hq : ¬ LetsOut Q) (h : wpOp P ops Q i K a w) :
    wpOpIn (Fence.wide.inRound l) n P ops Q i K a w := by
  unfold wpOp at h
  unfold wpOpIn
  cases ho : ops[i]? with
  | none => rw [ho] at h; exact h
  | some o =>
    rw [ho] at h
    simp only at h ⊢
    split
    · rename_i hw
      rw [if_pos hw] at h
      rcases h with h | ⟨_, hl⟩
      · refine ⟨fun _ _ => trivial, ?_⟩
        rw [Oper.semAt_eq _ _ _ (noDef_at hd ho)]
        exact upon_in h
      · exact absurd hl hq
    · rename_i hw
      rw [if_neg hw] at h
      exact ⟨fun _ _ => trivial, h⟩
theorem wpAny_in {l n : Nat} {P : Program} {md : Region.Mode} {ops : Array Oper} {Q : Exit → Act → World → Prop} (hd : noDef ops = true) (hq : ¬ LetsOut Q) : ∀ (fuel : Nat) (listed : Array Bool) (a : Act) (w : World), wpAny P md ops Q fuel listed a w → wpAnyIn (Fence.wide.inRound l) n P md ops Q fuel listed a w := by
  intro fuel
  induction fuel with
  | zero => intro listed a w h; exact h
  | succ fuel ih =>
    intro listed a w h
    exact ⟨h.1, fun i hi => wpOpIn_mono (fun a w => ih _ a w) (wpOp_in hd hq (h.2 i hi))⟩
theorem wpIn_held {l n : Nat} {P : Program} {id : Nat} {ops : Array Oper} {Q : Exit → Act → World → Prop} {S : World → Prop} {a : Act} {w : World} (hm : P.follows .mixedOrders = true) (hd : noDef ops = true) (hq : ∀ a w, ¬ Q .outgrown a w) (hS : S w.drew)
    (h : S w.drew → wpAnyH P .any ops (NoPanic Q) S ops.size (Array.replicate ops.size false) a w.drew) : (Code.region id ops true).wpIn (Fence.wide.inRound l) n P Q a w :=
  Code.wpIn_mono NoPanic.imp (wpIn_region_any hm (wpAny_in (Q := NoPanic Q) hd (fun ⟨a, w, e⟩ => hq a w e) _ _ _ _ (wpAny_of_held _ _ _ _ (h hS))))
end Go.Proofs.YtofhaokaldpmaaaGreatDoor
end
section
namespace Go.Proofs.YtofhaokaldpmaaaGreatDoor
open Go.RowKit Go.Shelf

def IsC (W : World) (k : Nat) : Prop := ∃ o, W.heap[k]? = some o ∧ o.isCells = true
theorem isC_of_cell {W : World} {g o : Nat} {v : Value} (h : W.cell? ⟨g, o, none⟩ = some v) : IsC W g := by
  simp only [World.cell?] at h
  cases hg : W.heap[g]? with
  | none => rw [hg] at h; cases h
  | some x =>
    cases x with
    | cells cs t f => exact ⟨_, hg, rfl⟩
    | _ => rw [hg] at h; cases h
theorem IsC.of {W W' : World} {k : Nat} (h : IsC W k) (e : W'.heap[k]? = W.heap[k]?) : IsC W' k := by
  obtain ⟨o, ho, hc⟩ := h
  exact ⟨o, e.trans ho, hc⟩
theorem XsB.isC {B : Nat → Prop} {w : World} : ∀ {l : List Ex} {A : Option Addr}, XsB B w l A → XsB (fun k => B k ∧ IsC w k) w l A
  | [], _, _ => by rw [XsB]; trivial
  | .mk h l :: r, A, H => by
    rw [XsB] at H ⊢
    obtain ⟨g, o, e, hg, ⟨A', cap, hc, hl, h1⟩, h2⟩ := H
    exact ⟨g, o, e, ⟨hg, isC_of_cell hc.c0⟩, ⟨A', cap, hc, hl, XsB.isC h1⟩, XsB.isC h2⟩
termination_by l => SizeOf.sizeOf l
abbrev zcell : List Value := [.int .i64 0, .int .i64 0, .int .i64 0, .int .i64 0, .string ⟨#[]⟩, .string ⟨#[]⟩, .string ⟨#[]⟩, .slice none 0 0]
abbrev Op8 (b : Nat) (W : World) (v : Value) (k : Nat) : Prop := b ≤ k ∧ k < W.heap.size ∧ v.ownBlock ≠ some k ∧ IsC W k
/-- The list in the box. -/
structure PK (b u : Nat) (W : World) (v : Value) (q : List XQ) (L : List Ex) : Prop where
  box : Boxed W u 33 v
  kids : XRs (Op8 b W v) W L q
  own : W.ownsRow b 35 8 v L.length (xcells q)
  nil : L = [] → v = .slice none 0 0
  le : b ≤ W.heap.size
  ub : u < b
theorem PK.below {b u : Nat} {W W' : World} {v : Value} {q : List XQ} {L : List Ex} (h : PK b u W v q L) (hb : Below W.heap.size W W') : PK b u W' v q L := by
  refine ⟨boxed_below h.box hb, h.kids.go (fun k hk => hb.block k hk.2.1) (fun k hk => ⟨hk.1, Nat.lt_of_lt_of_le hk.2.1 hb.size, hk.2.2.1, hk.2.2.2.of (hb.block k hk.2.1)⟩), ⟨h.own.1, ?_⟩, h.nil, Nat.le_trans h.le hb.size, h.ub⟩
  rcases h.own.2 with hn | ⟨g, cap, cur, hv, hb1, hg, hc, hm, hsz, ht⟩
  · exact .inl hn
  · exact .inr ⟨g, cap, cur, hv, hb1, (hb.block g (Array.getElem?_eq_some_iff.1 hg).1).trans hg, hc, hm, hsz, ht⟩
/-- Behind what turns no cells. -/
theorem PK.other {b u : Nat} {W W' : World} {v : Value} {q : List XQ} {L : List Ex} (h : PK b u W v q L) {row : Option Nat} (hg : W.grownBy W' row) (hr : ∀ r, row = some r → ∃ o : Obj, W.heap[r]? = some o ∧ o.isCells = false) : PK b u W' v q L := by
  have keep : ∀ k, IsC W k → W'.heap[k]? = W.heap[k]? := fun k ⟨o, ho, hc⟩ => hg.block k (Array.getElem?_eq_some_iff.1 ho).1 (fun e => by
    obtain ⟨o', h1, h2⟩ := hr k e.symm
    rw [ho] at h1; cases h1; rw [hc] at h2; cases h2)
  refine ⟨(keep u ⟨_, h.box, rfl⟩).trans h.box, h.kids.go (fun k hk => keep k hk.2.2.2) (fun k hk => ⟨hk.1, Nat.lt_of_lt_of_le hk.2.1 hg.size, hk.2.2.1, hk.2.2.2.of (keep k hk.2.2.2)⟩), ⟨h.own.1, ?_⟩, h.nil, Nat.le_trans h.le hg.size, h.ub⟩
  rcases h.own.2 with hn | ⟨g, cap, cur, hv, hb1, hg, hc, hm, hsz, ht⟩
  · exact .inl hn
  · exact .inr ⟨g, cap, cur, hv, hb1, (keep g ⟨_, hg, rfl⟩).trans hg, hc, hm, hsz, ht⟩
/-- An object larger than an expression's box. -/
def Big (o : Obj) : Prop := ∃ cs t f, o = .cells cs t f ∧ 8 < cs.size
theorem big_box (h : Hd) (A : Option Addr) (len cap : Nat) : ¬ Big (xbox h A len cap) := by
  rintro ⟨cs, t, f, e, hs⟩
  injection e with e1
  rw [← e1] at hs
  simp at hs
/-- One nothing appended: in the row, where there is room; else in new memory, the old row as it was. -/
theorem append1 {b : Nat} {v : Value} {n : Nat} {xs : List Value} {W : World} (hown : W.ownsRow b 35 8 v n xs) (hnil : n = 0 → v = .slice none 0 0) (hb : b ≤ W.heap.size) (hn : n ≤ 1000000) (ad : Addr) (hnews : ∀ j u, zcell[j]? = some u → W.cell? (ad.add j) = some u) :
    ∃ g' cap' w', (Builtin.append_ #[33, 33] 33 #[v, .slice (some ad) 1 1]).run Tryz.prog W = .ok (.slice (some ⟨g', 0, none⟩) (n + 1) cap') w' ∧ w'.ownsRow b 35 8 (.slice (some ⟨g', 0, none⟩) (n + 1) cap') (n + 1) (xs ++ zcell) ∧
      W.grownBy w' (some g') ∧ b ≤ g' ∧ (g' < W.heap.size → v.ownBlock = some g' ∧ ∃ o, W.heap[g']? = some o ∧ Big o) := by
  obtain ⟨i0, hi, hz0, hz1, hz2⟩ := infoE_parts info_expr
  have h1 : ∀ u ∈ zcell, u.oneCell' = true := by intro u hu; simp at hu; rcases hu with rfl | rfl | rfl | rfl <;> rfl
  obtain ⟨v', w', hr, ho, hg, _, hat⟩ := run_append_own_at (P := Tryz.prog) W b 33 33 35 i0 _ 8 104 Tryz.underlying33 hi hz0 hz1 hz2 rfl (by decide) v n xs hown ad 1 1 zcell rfl hnews h1 (by unfold maxLen; omega) (by omega) hb
  rcases ho.2 with ⟨_, h0⟩ | ⟨g', cap', cur', rfl, hb', hg', hc', hm', hs', ht'⟩
  · omega
  refine ⟨g', cap', w', hr, ho, ?_, hb', ?_⟩
  all_goals rcases hown.2 with ⟨rfl, rfl⟩ | ⟨g, cap, cur, rfl, hbg, hgg, hnc, hcm, hcs, htake⟩
  · exact ⟨hg.os, hg.tape, hg.output, hg.size, fun k hk hne => hg.block k hk (by simp [Value.ownBlock])⟩
  · by_cases hroom : n + 1 ≤ cap
    · have hr2 := run_append_room (P := Tryz.prog) W 33 33 35 i0 Tryz.underlying33 hi g n cap cur hgg ad 1 1 zcell (by rw [hz1]; rfl) hnews h1 hroom (by rw [hz1, hcs]; show n * 8 + 8 ≤ _; omega)
      rw [hr] at hr2
      injection hr2 with e1 e2
      injection e1 with e3
      injection e3 with e4
      injection e4 with e5
      subst e5
      exact hg
    · have holds : ∀ j u, xs[j]? = some u → W.cell? ((⟨g, 0, none⟩ : Addr).add j) = some u := hown.cells (g := g) rfl
      have hr2 := run_append_grow (P := Tryz.prog) W 33 33 35 i0 _ Tryz.underlying33 hi hz0 ⟨g, 0, none⟩ n cap xs (by rw [hz1]; exact hown.1) holds ad 1 1 zcell (by rw [hz1]; rfl) hnews (by omega) (by omega) (growslice_fits (by omega) (by rw [hz2]; omega))
      rw [hr] at hr2
      injection hr2 with e1 e2
      rw [e2]
      exact ⟨rfl, rfl, rfl, by simp, fun k hk _ => (Below.drew (Below.refl _ W) |>.alloc (Nat.le_refl _) _).block k hk⟩
  · intro hlt
    rcases hat with h | h
    · simp [Value.ownBlock] at h
    · simp [Value.ownBlock] at h; omega
  · intro hlt
    by_cases hroom : n + 1 ≤ cap
    · rcases hat with h | h
      · simp only [Value.ownBlock, Option.some.injEq] at h
        subst h
        refine ⟨rfl, _, hgg, _, _, _, rfl, ?_⟩
        have hn0 : n ≠ 0 := fun e => by have := hnil e; cases this
        rw [hcs]; omega
      · simp [Value.ownBlock] at h; omega
    · have holds : ∀ j u, xs[j]? = some u → W.cell? ((⟨g, 0, none⟩ : Addr).add j) = some u := hown.cells (g := g) rfl
      have hr2 := run_append_grow (P := Tryz.prog) W 33 33 35 i0 _ Tryz.underlying33 hi hz0 ⟨g, 0, none⟩ n cap xs (by rw [hz1]; exact hown.1) holds ad 1 1 zcell (by rw [hz1]; rfl) hnews (by omega) (by omega) (growslice_fits (by omega) (by rw [hz2]; omega))
      rw [hr] at hr2
      injection hr2 with e1 e2
      injection e1 with e3
      injection e3 with e4
      injection e4 with e5
      omega
/-- The last one of a row, stored. -/
def put8 (W : World) (g o : Nat) (x : XQ) : World := ((((((((W.setCell ⟨g, o, none⟩ (.int .i64 x.1.k)).setCell ⟨g, o + 1, none⟩ (.int .i64 x.1.n)).setCell ⟨g, o + 2, none⟩ (.int .i64 x.1.vk)).setCell ⟨g, o + 3, none⟩ (.int .i64 x.1.vn)).setCell ⟨g, o + 4, none⟩ (.string x.1.vs)).setCell ⟨g, o + 5, none⟩ (.string x.1.tab)).setCell ⟨g, o + 6, none⟩ (.string x.1.col)).setCell ⟨g, o + 7, none⟩ (.slice x.2.1 x.2.2.1 x.2.2.2))
theorem put8_other {W : World} {g o k : Nat} (hk : k ≠ g) (x : XQ) : (put8 W g o x).heap[k]? = W.heap[k]? := by
  simp only [put8, World.setCell, Array.getElem?_modify]
  simp [Ne.symm hk]
theorem put8_size (W : World) (g o : Nat) (x : XQ) : (put8 W g o x).heap.size = W.heap.size := by simp [put8, World.setCell]
theorem put8_box {W : World} {g o : Nat} {cs : Array Value} {T : TypeId} (h : W.heap[g]? = some (.cells cs T (0, 0))) (x : XQ) : (put8 W g o x).heap[g]? = some (.cells ((((((((cs.setIfInBounds o (.int .i64 x.1.k)).setIfInBounds (o + 1) (.int .i64 x.1.n)).setIfInBounds (o + 2) (.int .i64 x.1.vk)).setIfInBounds (o + 3) (.int .i64 x.1.vn)).setIfInBounds (o + 4) (.string x.1.vs)).setIfInBounds (o + 5) (.string x.1.tab)).setIfInBounds (o + 6) (.string x.1.col)).setIfInBounds (o + 7) (.slice x.2.1 x.2.2.1 x.2.2.2)) T (0, 0)) :=
  setc_box (setc_box (setc_box (setc_box (setc_box (setc_box (setc_box (setc_box h o _) (o + 1) _) (o + 2) _) (o + 3) _) (o + 4) _) (o + 5) _) (o + 6) _) (o + 7) _
theorem set8_list (xs : List Value) (rest : List Value) (z0 z1 z2 z3 z4 z5 z6 z7 a0 a1 a2 a3 a4 a5 a6 a7 : Value) (o : Nat) (ho : o = xs.length) :
    (((((((((xs ++ z0 :: z1 :: z2 :: z3 :: z4 :: z5 :: z6 :: z7 :: rest).set o a0).set (o + 1) a1).set (o + 2) a2).set (o + 3) a3).set (o + 4) a4).set (o + 5) a5).set (o + 6) a6).set (o + 7) a7) = xs ++ a0 :: a1 :: a2 :: a3 :: a4 :: a5 :: a6 :: a7 :: rest := by
  subst ho
  rw [List.set_append_right _ _ (by omega), List.set_append_right _ _ (by omega), List.set_append_right _ _ (by omega), List.set_append_right _ _ (by omega), List.set_append_right _ _ (by omega), List.set_append_right _ _ (by omega), List.set_append_right _ _ (by omega), List.set_append_right _ _ (by omega)]
  simp
theorem set8_take (cur xs : List Value) (n : Nat) (hx : xs.length = n * 8) (ht : cur.take ((n + 1) * 8) = xs ++ zcell) (a0 a1 a2 a3 a4 a5 a6 a7 : Value) :
    (((((((((cur.set (n * 8) a0).set (n * 8 + 1) a1).set (n * 8 + 2) a2).set (n * 8 + 3) a3).set (n * 8 + 4) a4).set (n * 8 + 5) a5).set (n * 8 + 6) a6).set (n * 8 + 7) a7).take ((n + 1) * 8)) = xs ++ [a0, a1, a2, a3, a4, a5, a6, a7] := by
  have hcur : cur = xs ++ zcell ++ cur.drop ((n + 1) * 8) := by rw [← ht]; exact (List.take_append_drop _ _).symm
  generalize cur.drop ((n + 1) * 8) = rest at hcur
  have e := set8_list xs rest (.int .i64 0) (.int .i64 0) (.int .i64 0) (.int .i64 0) (.string ⟨#[]⟩) (.string ⟨#[]⟩) (.string ⟨#[]⟩) (.slice none 0 0) a0 a1 a2 a3 a4 a5 a6 a7 (n * 8) hx.symm
  rw [show cur = xs ++ .int .i64 0 :: .int .i64 0 :: .int .i64 0 :: .int .i64 0 :: .string ⟨#[]⟩ :: .string ⟨#[]⟩ :: .string ⟨#[]⟩ :: .slice none 0 0 :: rest by rw [hcur, List.append_assoc]; rfl, e]
  rw [show xs ++ a0 :: a1 :: a2 :: a3 :: a4 :: a5 :: a6 :: a7 :: rest = (xs ++ [a0, a1, a2, a3, a4, a5, a6, a7]) ++ rest by rw [List.append_assoc]; rfl]
  refine List.take_left' ?_
  rw [List.length_append, hx]; show n * 8 + 8 = _; omega
theorem put8_own {b g n cap : Nat} {xs : List Value} {W : World} (h : W.ownsRow b 35 8 (.slice (some ⟨g, 0, none⟩) (n + 1) cap) (n + 1) (xs ++ zcell)) (hx : xs.length = n * 8) (x : XQ) :
    (put8 W g (n * 8) x).ownsRow b 35 8 (.slice (some ⟨g, 0, none⟩) (n + 1) cap) (n + 1) (xs ++ xcell x) := by
  rcases h.2 with ⟨hbad, _⟩ | ⟨g', cap', cur, hv, hb, hg, hc, hm, hs, ht⟩
  · cases hbad
  have hg2 : g' = g := by injection hv with e1; injection e1 with e4; injection e4 with e5; exact e5.symm
  have hc2 : cap' = cap := by injection hv with _ _ e3; exact e3.symm
  subst hg2 hc2
  refine ⟨by rw [List.length_append, hx]; show n * 8 + 8 = _; omega, .inr ⟨g', cap', _, rfl, hb, put8_box hg x, hc, hm, ?_, ?_⟩⟩
  · simp only [Array.size_setIfInBounds]; exact hs
  · simp only [Array.toList_setIfInBounds]
    exact set8_take _ _ _ hx ht _ _ _ _ _ _ _ _
theorem PK.blk {b u : Nat} {W : World} {v : Value} {q : List XQ} {L : List Ex} (h : PK b u W v q L) : ∀ k, v.ownBlock = some k → k < W.heap.size := fun k e => (h.own.lt k e).2
/-- One more. -/
theorem PK.grow {b u : Nat} {W : World} {v : Value} {q : List XQ} {L : List Ex} (h : PK b u W v q L) {x : Ex} {A3 : Option Addr} {cap3 : Nat} (hle : x.kids.length ≤ cap3) (hx : XsB (Op8 b W v) W x.kids A3) {g' cap' : Nat} {w1 F : World}
    (ho : w1.ownsRow b 35 8 (.slice (some ⟨g', 0, none⟩) (L.length + 1) cap') (L.length + 1) (xcells q ++ zcell)) (hg : W.grownBy w1 (some g')) (hbg : b ≤ g') (hold : g' < W.heap.size → v.ownBlock = some g' ∧ ∃ o, W.heap[g']? = some o ∧ Big o)
    (hsz : F.heap.size = w1.heap.size) (hu : Boxed F u 33 (.slice (some ⟨g', 0, none⟩) (L.length + 1) cap')) (hF : ∀ k, k ≠ u → F.heap[k]? = (put8 w1 g' (L.length * 8) (x.hd, A3, x.kids.length, cap3)).heap[k]?) :
    PK b u F (.slice (some ⟨g', 0, none⟩) (L.length + 1) cap') (q ++ [(x.hd, A3, x.kids.length, cap3)]) (L ++ [x]) := by
  have hub := h.ub
  have hlb := h.le
  have hgs := hg.size
  have keep : ∀ k, Op8 b W v k → F.heap[k]? = W.heap[k]? := fun k hk => by
    have h1 := hk.1
    have h2 := hk.2.1
    have hne : k ≠ g' := fun e => by
      subst e
      exact hk.2.2.1 (hold h2).1
    rw [hF k (by omega), put8_other hne, hg.block k h2 (fun e => hne (by cases e; rfl))]
  have hB : ∀ k, Op8 b W v k → Op8 b F (.slice (some ⟨g', 0, none⟩) (L.length + 1) cap') k := fun k hk => by
    have h1 := hk.1
    have h2 := hk.2.1
    refine ⟨h1, by omega, fun e => ?_, hk.2.2.2.of (keep k hk)⟩
    simp only [Value.ownBlock, Option.some.injEq] at e
    subst e
    exact hk.2.2.1 (hold h2).1
  have hq : (xcells q).length = L.length * 8 := by rw [xcells_len, h.kids.len]
  have hr := put8_own ho hq (x.hd, A3, x.kids.length, cap3)
  refine ⟨hu, (h.kids.go keep hB).snoc ⟨rfl, rfl, hle, XsB.go keep hB _ _ hx⟩, ?_, fun e => by simp at e, by omega, hub⟩
  have e1 : xcells (q ++ [(x.hd, A3, x.kids.length, cap3)]) = xcells q ++ xcell (x.hd, A3, x.kids.length, cap3) := by rw [xcells_app]; simp [xcells]
  rw [e1, List.length_append]
  refine ⟨hr.1, ?_⟩
  rcases hr.2 with ⟨hbad, _⟩ | ⟨g2, cap2, cur, hv, hb2, hg2, hrest⟩
  · cases hbad
  have e2 : g' = g2 := by have := congrArg Value.ownBlock hv; simpa [Value.ownBlock] using this
  subst e2
  exact .inr ⟨g', cap2, cur, hv, hb2, (hF g' (by omega)).trans hg2, hrest⟩
theorem PK.kept {u : Nat} {W : World} {n : Nat} {x : XQ} {g' : Nat} {w1 F : World} (hg : W.grownBy w1 (some g')) {v : Value} (hold : g' < W.heap.size → v.ownBlock = some g' ∧ ∃ o, W.heap[g']? = some o ∧ Big o)
    (hF : ∀ k, k ≠ u → F.heap[k]? = (put8 w1 g' (n * 8) x).heap[k]?) (k : Nat) (hk : k < W.heap.size) (hu : k ≠ u) (hb : ∀ o, W.heap[k]? = some o → ¬ Big o) : F.heap[k]? = W.heap[k]? := by
  have hne : k ≠ g' := fun e => by
    subst e
    obtain ⟨_, o, ho, hbg⟩ := hold hk
    exact hb o ho hbg
  rw [hF k hu, put8_other hne, hg.block k hk (fun e => hne (by cases e; rfl))]
/-- What the list reads as. -/
theorem PK.list {b u : Nat} {W : World} {v : Value} {q : List XQ} {L : List Ex} (h : PK b u W v q L) : ∃ A cap, v = .slice A L.length cap ∧ L.length ≤ cap ∧ XsAt W.heap.size W L A := by
  rcases h.own.2 with ⟨rfl, h0⟩ | ⟨g, cap, cur, hv, hb1, hg, hc, _⟩
  · obtain rfl := List.eq_nil_of_length_eq_zero h0
    exact ⟨none, 0, rfl, Nat.le_refl _, by rw [XsAt, XsB]; trivial⟩
  · have hgl := (Array.getElem?_eq_some_iff.1 hg).1
    refine ⟨_, cap, hv, hc, XRs.xsB (B := fun k => k < W.heap.size) hgl (h.kids.go (fun _ _ => rfl) (fun k hk => hk.2.1)) fun j u hj => ?_⟩
    have := h.own.cells (g := g) (by rw [hv]; rfl) j u hj
    rw [show (⟨g, 0, none⟩ : Addr).add j = ⟨g, j, none⟩ by simp only [Addr.add]; split <;> simp_all] at this
    rwa [Nat.zero_add]
end Go.Proofs.YtofhaokaldpmaaaGreatDoor
end
section
namespace Go.Proofs.YtofhaokaldpmaaaGreatDoor
open Go.RowKit Go.Shelf

/-- A list that is told, in whatever memory. -/
def ListBack (w : World) (l : List Ex) (e : Ending) (w' : World) : Prop :=
  ∃ A cap, e = .returned (.slice A l.length cap) ∧ l.length ≤ cap ∧ XsAt w'.heap.size w' l A ∧ Below w.heap.size w w'
theorem XsB.rows {B : Nat → Prop} {w : World} : ∀ {l : List Ex} {g o : Nat}, XsB B w l (some ⟨g, o, none⟩) → ∃ q, XRs B w l q ∧ ∀ j u, (xcells q)[j]? = some u → w.cell? ⟨g, o + j, none⟩ = some u
  | [], g, o, _ => ⟨[], .nil, fun j u h => by simp [xcells] at h⟩
  | .mk h l :: r, g, o, H => by
    rw [XsB] at H
    obtain ⟨g', o', e, hg, ⟨A', cap, hc, hl, h1⟩, h2⟩ := H
    simp only [Option.some.injEq, Addr.mk.injEq] at e
    obtain ⟨rfl, rfl, _⟩ := e
    obtain ⟨q, hq, hn⟩ := XsB.rows h2
    refine ⟨(h, A', l.length, cap) :: q, .cons ⟨rfl, rfl, hl, h1⟩ hq, fun j u hj => ?_⟩
    have e : xcells ((h, A', l.length, cap) :: q) = xcell (h, A', l.length, cap) ++ xcells q := rfl
    have e8 : (xcell (h, A', l.length, cap)).length = 8 := rfl
    rw [e] at hj
    by_cases h8 : j < 8
    · rw [List.getElem?_append_left (by omega)] at hj
      obtain ⟨c0, c1, c2, c3, c4, c5, c6, c7⟩ := hc
      rcases (show j = 0 ∨ j = 1 ∨ j = 2 ∨ j = 3 ∨ j = 4 ∨ j = 5 ∨ j = 6 ∨ j = 7 by omega) with rfl | rfl | rfl | rfl | rfl | rfl | rfl | rfl
      all_goals
        simp only [xcell, List.getElem?_cons_zero, List.getElem?_cons_succ, Option.some.injEq] at hj
        subst hj
        assumption
    · rw [List.getElem?_append_right (by omega), e8] at hj
      have := hn (j - 8) u hj
      rwa [show o + 8 + (j - 8) = o + j by omega] at this
theorem rows_of {n : Nat} {w : World} {l : List Ex} {A : Option Addr} (h : XsAt n w l A) (hl : l ≠ []) :
    ∃ g o q, A = some ⟨g, o, none⟩ ∧ XRs (fun k => k < n) w l q ∧ ∀ j u, (xcells q)[j]? = some u → w.cell? ((⟨g, o, none⟩ : Addr).add j) = some u := by
  cases l with
  | nil => exact absurd rfl hl
  | cons x r =>
    obtain ⟨g, o, _, _, rfl, _⟩ := XsAt.one h
    obtain ⟨q, hq, hn⟩ := XsB.rows h
    refine ⟨g, o, q, rfl, hq, fun j u hj => ?_⟩
    rw [show (⟨g, o, none⟩ : Addr).add j = ⟨g, o + j, none⟩ by simp only [Addr.add]; split <;> simp_all]
    exact hn j u hj
theorem one_row (h : Hd) (l : List Ex) (A3 : Option Addr) (cap3 : Nat) (w1 : World) (b : Nat) (hle : l.length ≤ cap3) (hx : XsB (Bn b w1) w1 l A3) :
    XsAt (w1.alloc (.cells (xcell (h, A3, l.length, cap3)).toArray 35)).heap.size (w1.alloc (.cells (xcell (h, A3, l.length, cap3)).toArray 35)) [.mk h l] (some ⟨w1.heap.size, 0, none⟩) := by
  have hq : XRs (fun k => k < (w1.alloc (.cells (xcell (h, A3, l.length, cap3)).toArray 35)).heap.size) (w1.alloc (.cells (xcell (h, A3, l.length, cap3)).toArray 35)) [.mk h l] [(h, A3, l.length, cap3)] :=
    .cons ⟨rfl, rfl, hle, XsB.go (fun k hk => (ba w1 _).block k hk.2) (fun k hk => by rw [World.size_alloc]; have := hk.2; omega) _ _ hx⟩ .nil
  refine XRs.xsB (B := fun k => k < (w1.alloc (.cells (xcell (h, A3, l.length, cap3)).toArray 35)).heap.size) (by simp) hq fun j u hj => ?_
  rw [Nat.zero_add]
  have := xnews w1 _ 35 j u (by simpa [xcells] using hj)
  rwa [show (⟨w1.heap.size, 0, none⟩ : Addr).add j = ⟨w1.heap.size, j, none⟩ by simp only [Addr.add]; split <;> simp_all] at this
theorem cell_keptA {w w' : World} (hb : Below w.heap.size w w') {p : Addr} {v : Value} (h : w.cell? p = some v) : w'.cell? p = some v := cell_kept hb h
def sumTo (n n' j : Nat) : Nat := if j = 0 then 0 else if j = 1 then n else n + n'
def catQ (r r' : List XQ) (j : Nat) : List XQ := if j = 0 then [] else if j = 1 then r else r ++ r'
theorem prtX_and {x y : Ex} {h : Hd} (hk : h.k = 3) (hn : h.n = 2) : prtX (.mk h [x, y]) = prtX x ++ prtX y := by
  rw [prtX, if_pos ⟨hk, hn⟩]; simp [prtXs]
theorem prtX_one {h : Hd} {l : List Ex} (hk : ¬ (h.k = 3 ∧ h.n = 2)) : prtX (.mk h l) = [.mk h l] := by rw [prtX, if_neg hk]
theorem prt_len : ∀ (N : Nat) (x : Ex), cnt x ≤ N → FitX x → prtX x ≠ [] ∧ (prtX x).length ≤ cnt x := by
  intro N
  induction N with
  | zero => intro x hc; have := cnt_pos x; omega
  | succ N ih =>
    intro x hc hf
    obtain ⟨h, l⟩ := x
    by_cases hk : h.k = 3 ∧ h.n = 2
    · rw [FitX] at hf
      have hfb := hf.1
      unfold fitsB at hfb
      rw [if_neg (by omega), if_neg (by omega), if_pos hk.1] at hfb
      simp only [Bool.and_eq_true, decide_eq_true_eq, beq_iff_eq] at hfb
      have hla := hfb.1.1.2
      rw [hk.2] at hla
      obtain ⟨x, y, rfl⟩ := len2 (show l.length = 2 by simp [arI] at hla; omega)
      have hf2 := hf.2
      rw [FitXs, FitXs] at hf2
      simp only [cnt_mk, cntL] at hc ⊢
      obtain ⟨a1, a2⟩ := ih x (by omega) hf2.1
      obtain ⟨b1, b2⟩ := ih y (by omega) hf2.2.1
      rw [prtX_and hk.1 hk.2, List.length_append]
      exact ⟨by simp [a1], by omega⟩
    · rw [prtX_one hk]
      exact ⟨by simp, by have := cnt_pos (.mk h l); simp; omega⟩
end Go.Proofs.YtofhaokaldpmaaaGreatDoor
end
