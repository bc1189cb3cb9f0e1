/-
  The document's Bind and Move.
The document's fits, of, kind, Type.
-/
import Derived.Test.YtofhaokaldpmaaaGreatDoorZ10
section
namespace Go.Proofs.YtofhaokaldpmaaaGreatDoor
open Go.RowKit Go.Shelf
attribute [local go_sem] Oper.semAt_some

theorem okPs_at {pl : Hd → Option Nat} : ∀ {l : List Ex} {i : Nat} {x : Ex}, okPs pl l = true → l[i]? = some x → okP pl x = true
  | [], i, x, _, h => by simp at h
  | y :: r, i, x, ho, h => by
    have h2 : okP pl y = true ∧ okPs pl r = true := by
      rw [okPs, putXs] at ho
      rw [okP, okPs]
      cases hy : putX pl y <;> cases hr : putXs pl r <;> rw [hy, hr] at ho <;> first | exact ⟨rfl, rfl⟩ | cases ho
    cases i with
    | zero =>
      obtain rfl : y = x := by simpa using h
      exact h2.1
    | succ i => exact okPs_at (l := r) (i := i) h2.2 (by simpa using h)
theorem okPs_cons {pl : Hd → Option Nat} (y : Ex) (r : List Ex) : okPs pl (y :: r) = (okP pl y && okPs pl r) := by
  rw [okPs, okPs, okP, putXs]
  cases putX pl y <;> cases putXs pl r <;> rfl
mutual
theorem okP_knd {pl : Hd → Option Nat} : ∀ x : Ex, okP pl x = (kndX 2 x).all fun y => (pl y.hd).isSome
  | .mk h l => by
    rw [okP_mk, kndX, List.all_append, okPs_knd l]
    by_cases hk : h.k = 2
    · rw [if_pos hk, if_pos hk]; simp [Ex.hd]
    · rw [if_neg hk, if_neg hk]; simp
theorem okPs_knd {pl : Hd → Option Nat} : ∀ l : List Ex, okPs pl l = (kndXs 2 l).all fun y => (pl y.hd).isSome
  | [] => by rw [kndXs, okPs, putXs]; rfl
  | x :: r => by rw [okPs_cons, kndXs, List.all_append, okP_knd x, okPs_knd r]
end
mutual
theorem knd_at : ∀ (x : Ex), FitX x → ∀ y ∈ kndX 2 x, y.hd.k = 2 ∧ 0 ≤ y.hd.n ∧ y.hd.n < 32
  | .mk h l, hf, y, hy => by
    rw [FitX] at hf
    rw [kndX, List.mem_append] at hy
    rcases hy with hy | hy
    · by_cases hk : h.k = 2
      · rw [if_pos hk] at hy
        obtain rfl : y = .mk h l := by simpa using hy
        simp only [Ex.hd]
        rcases fit_kind hf.1 with h1 | ⟨_, h1, h2⟩ | ⟨h1, _⟩ | ⟨h1, _⟩
        · omega
        · exact ⟨hk, h1, h2⟩
        · omega
        · omega
      · rw [if_neg hk] at hy; cases hy
    · exact kndL_at l hf.2 y hy
theorem kndL_at : ∀ (l : List Ex), FitXs l → ∀ y ∈ kndXs 2 l, y.hd.k = 2 ∧ 0 ≤ y.hd.n ∧ y.hd.n < 32
  | [], _, y, hy => by rw [kndXs] at hy; cases hy
  | x :: r, hf, y, hy => by
    rw [FitXs] at hf
    rw [kndXs, List.mem_append] at hy
    rcases hy with hy | hy
    · exact knd_at x hf.1 y hy
    · exact kndL_at r hf.2 y hy
end
theorem okX_fit {x : Ex} (h : okX x = true) : FitX x := good_fit x 1 false (by simp only [okX, Bool.and_eq_true] at h; exact h.1)
theorem rv_kindsT {x : Ex} {v : Value} {w : World} {c : Int} (h : EV x v w) (hc : cnt x ≤ 1000000) :
    Calls Tryz.prog 38 #[v, .int .i64 c] w fun e w' => ∃ u, e = .returned u ∧ Bel w w' ∧ LV (kndX c x) u w' := by
  obtain ⟨hd, l⟩ := x
  obtain ⟨A, cap, rfl, hl, hx⟩ := h
  refine (refKinds_n c w.heap.size 1000000 hd l hc (Nat.le_refl _) w A cap hx hl (Nat.le_refl _)).mono ?_
  rintro _ w' ⟨v, rfl, hY⟩
  obtain ⟨A', cap', e, hl', hx'⟩ := hY.xsAt (Nat.le_refl _)
  exact ⟨v, rfl, hY.bel, A', cap', e, hl', hx'⟩
theorem rbind_n (cols : List Co) (Ac : Option Addr) (c : Nat) (hcl : cols.length ≤ 9223372036854775807) : ∀ (N : Nat) (h : Hd) (l : List Ex), cnt (.mk h l) ≤ N → N ≤ 1000000 → ∀ (w : World) (A : Option Addr) (cap : Nat), CoAt w Ac cols → XsAt w.heap.size w l A →
    Calls Tryz.prog 32 #[XV h A l.length cap, .slice Ac cols.length c] w (BndE w (rbX (plB cols) (.mk h l)) (okP (plB cols) (.mk h l))) := by
  intro N
  induction N with
  | zero => intro h l hc; have := cnt_pos (.mk h l); omega
  | succ N ih =>
    intro h l hc hN w A cap hCo hX
    rw [cnt_mk] at hc
    have hlen := cntL_len l
    refine rbind_of cols Ac c hcl h l (by omega) A cap w hCo hX fun i h2 l2 hi W1 hb1 A2 cap2 hx2 _ => ?_
    have hc2 := cntL_mem hi
    exact ih h2 l2 (by omega) (by omega) W1 A2 cap2 (hCo.kept hb1) hx2
theorem rmove_n (places : List Int) (Ap : Option Addr) (c : Nat) : ∀ (N : Nat) (h : Hd) (l : List Ex), cnt (.mk h l) ≤ N → N ≤ 1000000 → FitX (.mk h l) → okP (plM places) (.mk h l) = true → ∀ (w : World) (A : Option Addr) (cap : Nat), InAt w Ap places → XsAt w.heap.size w l A →
    Calls Tryz.prog 39 #[XV h A l.length cap, .slice Ap places.length c] w (MovE w (rbX (plM places) (.mk h l))) := by
  intro N
  induction N with
  | zero => intro h l hc; have := cnt_pos (.mk h l); omega
  | succ N ih =>
    intro h l hc hN hF ho w A cap hIn hX
    rw [cnt_mk] at hc
    have hlen := cntL_len l
    rw [FitX] at hF
    rw [okP_mk, Bool.and_eq_true] at ho
    refine rmove_of places Ap c h l (by omega) A cap w hIn hX (fun hk => ?_) fun i h2 l2 hi W1 hb1 A2 cap2 hx2 _ => ?_
    · rw [if_pos hk] at ho
      refine ⟨?_, ho.1⟩
      rcases fit_kind hF.1 with h1 | ⟨_, h1, h2⟩ | ⟨h1, _⟩ | ⟨h1, _⟩ <;> omega
    · have hc2 := cntL_mem hi
      exact ih h2 l2 (by omega) (by omega) (FitXs_at hF.2 hi) (okPs_at ho.2 hi) W1 A2 cap2 (hIn.kept hb1) hx2
theorem whX_bad {pl : Hd → Option Nat} {x : Ex} (h : okX x = false) : whX pl x = (none, 100) := by rw [whX, if_neg (by rw [h]; decide)]
theorem whX_no {pl : Hd → Option Nat} {x : Ex} (h : okX x = true) (ho : okP pl x = false) : whX pl x = (none, 140) := by rw [whX, if_pos h, putX_no ho]
theorem whX_yes {pl : Hd → Option Nat} {x : Ex} (h : okX x = true) (ho : okP pl x = true) : whX pl x = (some (rbX pl x), 0) := by rw [whX, if_pos h, putX_rb x ho]
set_option maxRecDepth 100000 in
set_option maxHeartbeats 16000000 in
theorem rBind_any (cols : List Co) (Ac : Option Addr) (c : Nat) (hcl : cols.length ≤ 9223372036854775807) (h : Hd) (l : List Ex) (A : Option Addr) (cap : Nat) (w : World) (hX : XsAt w.heap.size w l A) (hcap : l.length ≤ cap) (hsm : AllSm (.mk h l)) (hc : cnt (.mk h l) ≤ 999999) (hCo : CoAt w Ac cols) :
    Calls Tryz.prog 14 #[XV h A l.length cap, .slice Ac cols.length c] w (WhE w (whX (plB cols) (.mk h l))) := by
  have h1 := ba w (xbox h A l.length cap)
  have h2 := bt h1 (ba _ x0)
  have HX0 := Lib.hid (((ba (w.alloc (xbox h A l.length cap)) x0).block _ (by simp)).trans (MapKept.heap_alloc w (xbox h A l.length cap)).1)
  have HZ0 := Lib.hid (show ((w.alloc (xbox h A l.length cap)).alloc x0).heap[w.heap.size + 1]? = some x0 by
    have := (MapKept.heap_alloc (w.alloc (xbox h A l.length cap)) x0).1
    rwa [World.size_alloc] at this)
  have HB0 := Lib.hid h2
  have HS0 := Lib.hid (show w.heap.size + 1 < ((w.alloc (xbox h A l.length cap)).alloc x0).heap.size by simp)
  have HXs := Lib.hid (XsAt.next hX h2)
  have HEV := Lib.hid (show EV (.mk h l) (XV h A l.length cap) ((w.alloc (xbox h A l.length cap)).alloc x0) from ⟨A, cap, rfl, hcap, XsAt.next hX h2⟩)
  have HCo := Lib.hid hCo
  have HN := Lib.hid (fun W (hb : Below w.heap.size w W) => rbind_n cols Ac c hcl 999999 h l hc (by omega) W A cap (hCo.kept hb) (XsAt.next hX hb))
  obtain ⟨q, hq⟩ : ∃ q, whX (plB cols) (.mk h l) = q := ⟨_, rfl⟩
  have HQ := Lib.hid hq
  have HCk0 := Lib.hid (fun cc (e : okX (.mk h l) = cc) => rv_check HEV.out hsm (by omega) e)
  have hkc := knd_cnt 2 (.mk h l)
  rw [hq]
  clear h1 h2 hX hcap hsm HEV hq hCo
  cases hok : okX (.mk h l)
  · have HCk := Lib.hid (HCk0.out false hok)
    obtain rfl : q = (none, 100) := HQ.out.symm.trans (whX_bad hok)
    clear hok HCk0 hkc
    go_enter Tryz.func14, Tryz.ntmps14
    go_upto_region 1 with fail
    generalize (w.alloc (.cells #[.int .i64 h.k, .int .i64 h.n, .int .i64 h.vk, .int .i64 h.vn, .string h.vs, .string h.tab, .string h.col, .slice A l.length cap] 35)).alloc (.cells #[.int .i64 0, .int .i64 0, .int .i64 0, .int .i64 0, .string ⟨#[]⟩, .string ⟨#[]⟩, .string ⟨#[]⟩, .slice none 0 0] 35) = W0 at HX0 HZ0 HB0 HS0 HXs HCk ⊢
    obtain ⟨⟨x0, x1, x2, x3, x4, x5, x6, x7⟩, _⟩ := cell8 HX0.out
    go_wp2_with fail
    refine HCk.out.mono ?_
    rintro e W1 ⟨u, rfl, hb, rfl⟩
    have HB1 := Lib.hid (bt HB0.out hb)
    have HX1 := Lib.hid ((hb.block _ (Array.getElem?_eq_some_iff.1 HX0.out).1).trans HX0.out)
    have HZ1 := Lib.hid ((hb.block _ (Array.getElem?_eq_some_iff.1 HZ0.out).1).trans HZ0.out)
    have HS1 := Lib.hid (show w.heap.size + 1 < W1.heap.size by have := HS0.out; have := hb.size; omega)
    have HX1s := Lib.hid (XsAt.next HXs.out hb)
    clear hb x0 x1 x2 x3 x4 x5 x6 x7
    obtain ⟨⟨z0, z1, z2, z3, z4, z5, z6, z7⟩, g0, g1, g2, g3, g4, g5, g6, g7⟩ := cell8 HZ1.out
    have HZ := Lib.hid (set8_box HZ1.out (.int .i64 0) (.int .i64 0) (.int .i64 0) (.int .i64 0) (.string ⟨#[]⟩) (.string ⟨#[]⟩) (.string ⟨#[]⟩) (.slice none 0 0))
    go_wp2_with fail
    obtain ⟨⟨q0, q1, q2, q3, q4, q5, q6, q7⟩, _⟩ := cell8 HZ.out
    refine bodyPost_ret (v := .tuple #[XV zHd none 0 0, .int .i64 100]) (by simp [results, Tryz.results14, go_sem, q0, q1, q2, q3, q4, q5, q6, q7]) rfl ⟨rfl, ?_⟩
    exact set8_below HB1.out (by omega) _ _ _ _ _ _ _ _
  · have HCk := Lib.hid (HCk0.out true hok)
    have HOk := Lib.hid hok
    clear hok HCk0
    go_enter Tryz.func14, Tryz.ntmps14
    go_upto_region 1 with fail
    generalize (w.alloc (.cells #[.int .i64 h.k, .int .i64 h.n, .int .i64 h.vk, .int .i64 h.vn, .string h.vs, .string h.tab, .string h.col, .slice A l.length cap] 35)).alloc (.cells #[.int .i64 0, .int .i64 0, .int .i64 0, .int .i64 0, .string ⟨#[]⟩, .string ⟨#[]⟩, .string ⟨#[]⟩, .slice none 0 0] 35) = W0 at HX0 HZ0 HB0 HS0 HXs HCk ⊢
    obtain ⟨⟨x0, x1, x2, x3, x4, x5, x6, x7⟩, _⟩ := cell8 HX0.out
    go_wp2_with fail
    refine HCk.out.mono ?_
    rintro e W1 ⟨u, rfl, hb, rfl⟩
    have HB1 := Lib.hid (bt HB0.out hb)
    have HX1 := Lib.hid ((hb.block _ (Array.getElem?_eq_some_iff.1 HX0.out).1).trans HX0.out)
    have HZ1 := Lib.hid ((hb.block _ (Array.getElem?_eq_some_iff.1 HZ0.out).1).trans HZ0.out)
    have HS1 := Lib.hid (show w.heap.size + 1 < W1.heap.size by have := HS0.out; have := hb.size; omega)
    have HX1s := Lib.hid (XsAt.next HXs.out hb)
    clear hb x0 x1 x2 x3 x4 x5 x6 x7
    obtain ⟨⟨x0, x1, x2, x3, x4, x5, x6, x7⟩, _⟩ := cell8 HX1.out
    clear hkc
    have HN1 := Lib.hid (HN.out W1 HB1.out)
    obtain ⟨Y, hYe⟩ : ∃ Y, rbX (plB cols) (.mk h l) = Y := ⟨_, rfl⟩
    rw [hYe] at HN1
    have HYe := Lib.hid hYe
    clear hYe
    go_wp2_with fail
    refine HN1.out.mono ?_
    rintro e W3 ⟨A3, cap3, rfl, hle3, hx3, hb⟩
    cases ho : okP (plB cols) (.mk h l)
    · obtain rfl : q = (none, 140) := HQ.out.symm.trans (by first | exact whX_no HOk.out ho | (rw [← HYe.out]; exact whX_no HOk.out ho))
      clear HYe HQ
      obtain ⟨hY, lY⟩ := Y
      simp only [Ex.hd, Ex.kids] at hle3 hx3 ⊢
      have hbx := ba W3 (xbox hY A3 lY.length cap3)
      have HX7 := Lib.hid (MapKept.heap_alloc W3 (xbox hY A3 lY.length cap3)).1
      have HB7 := Lib.hid (bt HB1.out (bt hb hbx))
      have HZ7 := Lib.hid (((bt hb hbx).block _ HS1.out).trans HZ1.out)
      have HX3 := Lib.hid (show XsB (fun k => w.heap.size + 1 < k ∧ k < (W3.alloc (xbox hY A3 lY.length cap3)).heap.size) (W3.alloc (xbox hY A3 lY.length cap3)) lY A3 from XsB.go (fun k hk => hbx.block k hk.2) (fun k hk => ⟨by have := HS1.out; have := hk.1; omega, by rw [World.size_alloc]; have := hk.2; omega⟩) _ _ hx3)
      have HLE := Lib.hid hle3
      clear hb hbx x0 x1 x2 x3 x4 x5 x6 x7 hx3 hle3 HX0 HZ0 HB0 HXs HX1 HZ1 HX1s HN1 HN HCk ho
      go_upto_region 4 with fail
      generalize W3.alloc (.cells #[.int .i64 hY.k, .int .i64 hY.n, .int .i64 hY.vk, .int .i64 hY.vn, .string hY.vs, .string hY.tab, .string hY.col, .slice A3 lY.length cap3] 35) = W5 at HX7 HB7 HZ7 HX3 ⊢
      generalize W3.heap.size = p7 at HX7 ⊢
      obtain ⟨⟨y0, y1, y2, y3, y4, y5, y6, y7⟩, _⟩ := cell8 HX7.out
      obtain ⟨⟨z0, z1, z2, z3, z4, z5, z6, z7⟩, g0, g1, g2, g3, g4, g5, g6, g7⟩ := cell8 HZ7.out
      have HZ := Lib.hid (set8_box HZ7.out (.int .i64 0) (.int .i64 0) (.int .i64 0) (.int .i64 0) (.string ⟨#[]⟩) (.string ⟨#[]⟩) (.string ⟨#[]⟩) (.slice none 0 0))
      go_wp2_with fail
      obtain ⟨⟨q0, q1, q2, q3, q4, q5, q6, q7⟩, _⟩ := cell8 HZ.out
      refine bodyPost_ret (v := .tuple #[XV zHd none 0 0, .int .i64 140]) (by simp [results, Tryz.results14, go_sem, q0, q1, q2, q3, q4, q5, q6, q7]) rfl ⟨rfl, ?_⟩
      exact set8_below HB7.out (by omega) _ _ _ _ _ _ _ _
    · obtain rfl : q = (some Y, 0) := HQ.out.symm.trans (by first | exact whX_yes HOk.out ho | (rw [← HYe.out]; exact whX_yes HOk.out ho))
      clear HYe HQ
      obtain ⟨hY, lY⟩ := Y
      simp only [Ex.hd, Ex.kids] at hle3 hx3 ⊢
      have hbx := ba W3 (xbox hY A3 lY.length cap3)
      have HX7 := Lib.hid (MapKept.heap_alloc W3 (xbox hY A3 lY.length cap3)).1
      have HB7 := Lib.hid (bt HB1.out (bt hb hbx))
      have HZ7 := Lib.hid (((bt hb hbx).block _ HS1.out).trans HZ1.out)
      have HX3 := Lib.hid (show XsB (fun k => w.heap.size + 1 < k ∧ k < (W3.alloc (xbox hY A3 lY.length cap3)).heap.size) (W3.alloc (xbox hY A3 lY.length cap3)) lY A3 from XsB.go (fun k hk => hbx.block k hk.2) (fun k hk => ⟨by have := HS1.out; have := hk.1; omega, by rw [World.size_alloc]; have := hk.2; omega⟩) _ _ hx3)
      have HLE := Lib.hid hle3
      clear hb hbx x0 x1 x2 x3 x4 x5 x6 x7 hx3 hle3 HX0 HZ0 HB0 HXs HX1 HZ1 HX1s HN1 HN HCk ho
      go_upto_region 4 with fail
      generalize W3.alloc (.cells #[.int .i64 hY.k, .int .i64 hY.n, .int .i64 hY.vk, .int .i64 hY.vn, .string hY.vs, .string hY.tab, .string hY.col, .slice A3 lY.length cap3] 35) = W5 at HX7 HB7 HZ7 HX3 ⊢
      generalize W3.heap.size = p7 at HX7 ⊢
      obtain ⟨⟨y0, y1, y2, y3, y4, y5, y6, y7⟩, _⟩ := cell8 HX7.out
      obtain ⟨⟨z0, z1, z2, z3, z4, z5, z6, z7⟩, g0, g1, g2, g3, g4, g5, g6, g7⟩ := cell8 HZ7.out
      have HZ := Lib.hid (set8_box HZ7.out (.int .i64 hY.k) (.int .i64 hY.n) (.int .i64 hY.vk) (.int .i64 hY.vn) (.string hY.vs) (.string hY.tab) (.string hY.col) (.slice A3 lY.length cap3))
      go_wp2_with fail
      obtain ⟨⟨q0, q1, q2, q3, q4, q5, q6, q7⟩, _⟩ := cell8 HZ.out
      refine bodyPost_ret (v := .tuple #[XV hY A3 lY.length cap3, .int .i64 0]) (by simp [results, Tryz.results14, go_sem, q0, q1, q2, q3, q4, q5, q6, q7]) rfl ⟨A3, cap3, rfl, HLE.out, ?_, ?_⟩
      · exact XsB.go (fun k hk => set8_other (by have := hk.1; omega) _ _ _ _ _ _ _ _) (fun k hk => ⟨by have := hk.1; omega, by rw [set8_size]; exact hk.2⟩) _ _ HX3.out
      · exact set8_below HB7.out (by omega) _ _ _ _ _ _ _ _
set_option maxRecDepth 100000 in
set_option maxHeartbeats 16000000 in
theorem rMove_any (places : List Int) (Ap : Option Addr) (c : Nat) (h : Hd) (l : List Ex) (A : Option Addr) (cap : Nat) (w : World) (hX : XsAt w.heap.size w l A) (hcap : l.length ≤ cap) (hsm : AllSm (.mk h l)) (hc : cnt (.mk h l) ≤ 999999) (hIn : InAt w Ap places) :
    Calls Tryz.prog 19 #[XV h A l.length cap, .slice Ap places.length c] w (WhE w (whX (plM places) (.mk h l))) := by
  have h1 := ba w (xbox h A l.length cap)
  have h2 := bt h1 (ba _ x0)
  have HX0 := Lib.hid (((ba (w.alloc (xbox h A l.length cap)) x0).block _ (by simp)).trans (MapKept.heap_alloc w (xbox h A l.length cap)).1)
  have HZ0 := Lib.hid (show ((w.alloc (xbox h A l.length cap)).alloc x0).heap[w.heap.size + 1]? = some x0 by
    have := (MapKept.heap_alloc (w.alloc (xbox h A l.length cap)) x0).1
    rwa [World.size_alloc] at this)
  have HB0 := Lib.hid h2
  have HS0 := Lib.hid (show w.heap.size + 1 < ((w.alloc (xbox h A l.length cap)).alloc x0).heap.size by simp)
  have HXs := Lib.hid (XsAt.next hX h2)
  have HEV := Lib.hid (show EV (.mk h l) (XV h A l.length cap) ((w.alloc (xbox h A l.length cap)).alloc x0) from ⟨A, cap, rfl, hcap, XsAt.next hX h2⟩)
  have HIn := Lib.hid hIn
  have HN := Lib.hid (fun (hk : okX (.mk h l) = true) (ho : okP (plM places) (.mk h l) = true) W (hb : Below w.heap.size w W) => rmove_n places Ap c 999999 h l hc (by omega) (okX_fit hk) ho W A cap (hIn.kept hb) (XsAt.next hX hb))
  have HKi := Lib.hid (fun W (hb : Below w.heap.size w W) => rv_kindsT (c := 2) (show EV (.mk h l) (XV h A l.length cap) W from ⟨A, cap, rfl, hcap, XsAt.next hX hb⟩) (by omega))
  obtain ⟨q, hq⟩ : ∃ q, whX (plM places) (.mk h l) = q := ⟨_, rfl⟩
  have HQ := Lib.hid hq
  have HCk0 := Lib.hid (fun cc (e : okX (.mk h l) = cc) => rv_check HEV.out hsm (by omega) e)
  have hkc := knd_cnt 2 (.mk h l)
  rw [hq]
  clear h1 h2 hX hcap hsm HEV hq hIn
  cases hok : okX (.mk h l)
  · have HCk := Lib.hid (HCk0.out false hok)
    obtain rfl : q = (none, 100) := HQ.out.symm.trans (whX_bad hok)
    clear hok HCk0 hkc
    go_enter Tryz.func19, Tryz.ntmps19
    go_upto_region 1 with fail
    generalize (w.alloc (.cells #[.int .i64 h.k, .int .i64 h.n, .int .i64 h.vk, .int .i64 h.vn, .string h.vs, .string h.tab, .string h.col, .slice A l.length cap] 35)).alloc (.cells #[.int .i64 0, .int .i64 0, .int .i64 0, .int .i64 0, .string ⟨#[]⟩, .string ⟨#[]⟩, .string ⟨#[]⟩, .slice none 0 0] 35) = W0 at HX0 HZ0 HB0 HS0 HXs HCk ⊢
    obtain ⟨⟨x0, x1, x2, x3, x4, x5, x6, x7⟩, _⟩ := cell8 HX0.out
    go_wp2_with fail
    refine HCk.out.mono ?_
    rintro e W1 ⟨u, rfl, hb, rfl⟩
    have HB1 := Lib.hid (bt HB0.out hb)
    have HX1 := Lib.hid ((hb.block _ (Array.getElem?_eq_some_iff.1 HX0.out).1).trans HX0.out)
    have HZ1 := Lib.hid ((hb.block _ (Array.getElem?_eq_some_iff.1 HZ0.out).1).trans HZ0.out)
    have HS1 := Lib.hid (show w.heap.size + 1 < W1.heap.size by have := HS0.out; have := hb.size; omega)
    have HX1s := Lib.hid (XsAt.next HXs.out hb)
    clear hb x0 x1 x2 x3 x4 x5 x6 x7
    obtain ⟨⟨z0, z1, z2, z3, z4, z5, z6, z7⟩, g0, g1, g2, g3, g4, g5, g6, g7⟩ := cell8 HZ1.out
    have HZ := Lib.hid (set8_box HZ1.out (.int .i64 0) (.int .i64 0) (.int .i64 0) (.int .i64 0) (.string ⟨#[]⟩) (.string ⟨#[]⟩) (.string ⟨#[]⟩) (.slice none 0 0))
    go_wp2_with fail
    obtain ⟨⟨q0, q1, q2, q3, q4, q5, q6, q7⟩, _⟩ := cell8 HZ.out
    refine bodyPost_ret (v := .tuple #[XV zHd none 0 0, .int .i64 100]) (by simp [results, Tryz.results19, go_sem, q0, q1, q2, q3, q4, q5, q6, q7]) rfl ⟨rfl, ?_⟩
    exact set8_below HB1.out (by omega) _ _ _ _ _ _ _ _
  · have HCk := Lib.hid (HCk0.out true hok)
    have HOk := Lib.hid hok
    clear hok HCk0
    go_enter Tryz.func19, Tryz.ntmps19
    go_upto_region 1 with fail
    generalize (w.alloc (.cells #[.int .i64 h.k, .int .i64 h.n, .int .i64 h.vk, .int .i64 h.vn, .string h.vs, .string h.tab, .string h.col, .slice A l.length cap] 35)).alloc (.cells #[.int .i64 0, .int .i64 0, .int .i64 0, .int .i64 0, .string ⟨#[]⟩, .string ⟨#[]⟩, .string ⟨#[]⟩, .slice none 0 0] 35) = W0 at HX0 HZ0 HB0 HS0 HXs HCk ⊢
    obtain ⟨⟨x0, x1, x2, x3, x4, x5, x6, x7⟩, _⟩ := cell8 HX0.out
    go_wp2_with fail
    refine HCk.out.mono ?_
    rintro e W1 ⟨u, rfl, hb, rfl⟩
    have HB1 := Lib.hid (bt HB0.out hb)
    have HX1 := Lib.hid ((hb.block _ (Array.getElem?_eq_some_iff.1 HX0.out).1).trans HX0.out)
    have HZ1 := Lib.hid ((hb.block _ (Array.getElem?_eq_some_iff.1 HZ0.out).1).trans HZ0.out)
    have HS1 := Lib.hid (show w.heap.size + 1 < W1.heap.size by have := HS0.out; have := hb.size; omega)
    have HX1s := Lib.hid (XsAt.next HXs.out hb)
    clear hb x0 x1 x2 x3 x4 x5 x6 x7
    obtain ⟨⟨x0, x1, x2, x3, x4, x5, x6, x7⟩, _⟩ := cell8 HX1.out
    have HKi1 := Lib.hid (HKi.out W1 HB1.out)
    have HFx := Lib.hid (okX_fit HOk.out)
    have HKa := Lib.hid (knd_at (.mk h l) HFx.out)
    have HKo := Lib.hid (okP_knd (pl := plM places) (.mk h l))
    obtain ⟨L, hL⟩ : ∃ L, kndX 2 (.mk h l) = L := ⟨_, rfl⟩
    rw [hL] at HKi1 HKa HKo hkc
    clear hL HKi
    go_wp2_with fail
    refine HKi1.out.mono ?_
    rintro e W2 ⟨u, rfl, hb, A1, cap1, rfl, hle1, hx1⟩
    have HB2 := Lib.hid (bt HB1.out hb)
    have HX2 := Lib.hid ((hb.block _ (Array.getElem?_eq_some_iff.1 HX1.out).1).trans HX1.out)
    have HZ2 := Lib.hid ((hb.block _ (Array.getElem?_eq_some_iff.1 HZ1.out).1).trans HZ1.out)
    have HS2 := Lib.hid (show w.heap.size + 1 < W2.heap.size by have := HS1.out; have := hb.size; omega)
    have HL1 := Lib.hid hx1
    clear hb hx1 x0 x1 x2 x3 x4 x5 x6 x7 HX0 HZ0 HB0 HXs HX1 HZ1 HX1s HKi1 HCk HB1 HS1 HS0 hle1
    go_wp2_with fail
    go_loop [7] (fun i => ∃ j : Nat, j ≤ L.length ∧ i = .int .i64 j ∧ Hid ((L.take j).all (fun y => (plM places y.hd).isSome) = true)) (fun i => L.length - (intOf i).toNat)
    case atStart => exact ⟨0, Nat.zero_le _, rfl, Lib.hid (by rw [List.take_zero]; rfl)⟩
    case round =>
      obtain ⟨j, hj, rfl, HA⟩ := hrel
      by_cases hjn : j < L.length
      · obtain ⟨x, hx⟩ : ∃ x, L[j]? = some x := ⟨_, List.getElem?_eq_getElem hjn⟩
        obtain ⟨h2, l2⟩ := x
        have hmem : Ex.mk h2 l2 ∈ L := List.mem_of_getElem? hx
        obtain ⟨_, hn0, _⟩ := HKa.out _ hmem
        simp only [Ex.hd] at hn0
        have HT := Lib.hid (fun (e : (plM places h2).isSome = true) => show (L.take (j + 1)).all (fun y => (plM places y.hd).isSome) = true by
          rw [List.take_add_one, hx, List.all_append, HA.out]; simpa [Ex.hd] using e)
        have HNo := Lib.hid (fun (e : (plM places h2).isSome = false) => show okP (plM places) (.mk h l) = false by
          rw [HKo.out]
          exact Bool.eq_false_iff.2 fun h9 => by have := List.all_eq_true.1 h9 _ hmem; simp only [Ex.hd] at this; rw [e] at this; cases this)
        obtain ⟨g, off, A', cap', rfl, hg, hX, hle', hl'⟩ := HL1.out.at hx
        obtain ⟨c0, c1, c2, c3, c4, c5, c6, c7⟩ := hX
        obtain ⟨i, hi⟩ := Int.eq_ofNat_of_zero_le hn0
        obtain ⟨k2, n2, vk2, vn2, vs2, tb2, cl2⟩ := h2
        simp only at hi hn0 c0 c1 c2 c3 c4 c5 c6 HT HNo
        subst hi
        have HP := Lib.hid (show plM places ⟨k2, (i : Nat), vk2, vn2, vs2, tb2, cl2⟩ = if (i : Int) < (places.length : Int) then (if 0 ≤ places.getD i 0 ∧ places.getD i 0 < 32 then some (places.getD i 0).toNat else none) else none by unfold plM; simp only [Int.toNat_natCast])
        clear hx hmem hl' hle' hn0 hg
        by_cases hlt : i < places.length
        · have HIn2 := HIn.out.kept HB2.out
          obtain ⟨b4, off4, rfl, hb4, d0⟩ := HIn2.at hlt
          clear HIn2
          have hgd : places.getD i 0 = places[i] := by rw [List.getD_eq_getElem?_getD, List.getElem?_eq_getElem hlt]; rfl
          rw [if_pos (by omega), hgd] at HP
          obtain ⟨m, hm⟩ : ∃ m, places[i] = m := ⟨_, rfl⟩
          rw [hm] at d0 HP
          clear hm hgd
          have hge : ¬ (places.length : Int) ≤ (i : Int) := by omega
          by_cases hm0 : m < 0
          · obtain rfl : q = (none, 140) := HQ.out.symm.trans (whX_no HOk.out (HNo.out (by rw [HP.out, if_neg (by omega)]; rfl)))
            clear HP HT HNo
            obtain ⟨⟨z0, z1, z2, z3, z4, z5, z6, z7⟩, g0, g1, g2, g3, g4, g5, g6, g7⟩ := cell8 HZ2.out
            have HZ := Lib.hid (set8_box HZ2.out (.int .i64 0) (.int .i64 0) (.int .i64 0) (.int .i64 0) (.string ⟨#[]⟩) (.string ⟨#[]⟩) (.string ⟨#[]⟩) (.slice none 0 0))
            go_wp2_with fail
            obtain ⟨⟨q0, q1, q2, q3, q4, q5, q6, q7⟩, _⟩ := cell8 HZ.out
            refine bodyPost_ret (v := .tuple #[XV zHd none 0 0, .int .i64 140]) (by simp [results, Tryz.results19, go_sem, q0, q1, q2, q3, q4, q5, q6, q7]) rfl ⟨rfl, ?_⟩
            exact set8_below HB2.out (by omega) _ _ _ _ _ _ _ _
          · by_cases hm1 : 32 ≤ m
            · obtain rfl : q = (none, 140) := HQ.out.symm.trans (whX_no HOk.out (HNo.out (by rw [HP.out, if_neg (by omega)]; rfl)))
              clear HP HT HNo
              obtain ⟨⟨z0, z1, z2, z3, z4, z5, z6, z7⟩, g0, g1, g2, g3, g4, g5, g6, g7⟩ := cell8 HZ2.out
              have HZ := Lib.hid (set8_box HZ2.out (.int .i64 0) (.int .i64 0) (.int .i64 0) (.int .i64 0) (.string ⟨#[]⟩) (.string ⟨#[]⟩) (.string ⟨#[]⟩) (.slice none 0 0))
              go_wp2_with fail
              obtain ⟨⟨q0, q1, q2, q3, q4, q5, q6, q7⟩, _⟩ := cell8 HZ.out
              refine bodyPost_ret (v := .tuple #[XV zHd none 0 0, .int .i64 140]) (by simp [results, Tryz.results19, go_sem, q0, q1, q2, q3, q4, q5, q6, q7]) rfl ⟨rfl, ?_⟩
              exact set8_below HB2.out (by omega) _ _ _ _ _ _ _ _
            · have HT2 := Lib.hid (HT.out (by rw [HP.out, if_pos (by omega)]; rfl))
              clear HP HT HNo
              go_wp2_with fail
              go_roundw
              case rel => exact ⟨j + 1, by omega, by go_num, HT2⟩
              case measure => simp [intOf]; omega
        · obtain rfl : q = (none, 140) := HQ.out.symm.trans (whX_no HOk.out (HNo.out (by rw [HP.out, if_neg (by omega)]; rfl)))
          have hge : (places.length : Int) ≤ (i : Int) := by omega
          clear HP HT HNo
          obtain ⟨⟨z0, z1, z2, z3, z4, z5, z6, z7⟩, g0, g1, g2, g3, g4, g5, g6, g7⟩ := cell8 HZ2.out
          have HZ := Lib.hid (set8_box HZ2.out (.int .i64 0) (.int .i64 0) (.int .i64 0) (.int .i64 0) (.string ⟨#[]⟩) (.string ⟨#[]⟩) (.string ⟨#[]⟩) (.slice none 0 0))
          go_wp2_with fail
          obtain ⟨⟨q0, q1, q2, q3, q4, q5, q6, q7⟩, _⟩ := cell8 HZ.out
          refine bodyPost_ret (v := .tuple #[XV zHd none 0 0, .int .i64 140]) (by simp [results, Tryz.results19, go_sem, q0, q1, q2, q3, q4, q5, q6, q7]) rfl ⟨rfl, ?_⟩
          exact set8_below HB2.out (by omega) _ _ _ _ _ _ _ _
      · obtain rfl : j = L.length := by omega
        have ho : okP (plM places) (.mk h l) = true := by have := HA.out; rw [List.take_length] at this; rw [HKo.out]; exact this
        have HN1 := Lib.hid (HN.out HOk.out ho W2 HB2.out)
        obtain ⟨Y, hYe⟩ : ∃ Y, rbX (plM places) (.mk h l) = Y := ⟨_, rfl⟩
        rw [hYe] at HN1
        obtain rfl : q = (some Y, 0) := HQ.out.symm.trans (by rw [← hYe]; exact whX_yes HOk.out ho)
        clear HQ hYe
        clear ho HA HN
        obtain ⟨⟨x0, x1, x2, x3, x4, x5, x6, x7⟩, _⟩ := cell8 HX2.out
        obtain ⟨⟨z0, z1, z2, z3, z4, z5, z6, z7⟩, _⟩ := cell8 HZ2.out
        go_wp2_with fail
        refine HN1.out.mono ?_
        rintro e W3 ⟨A3, cap3, rfl, hle3, hx3, hb⟩
        obtain ⟨hY, lY⟩ := Y
        simp only [Ex.hd, Ex.kids] at hle3 hx3 ⊢
        have HB7 := Lib.hid (bt HB2.out hb)
        have HZ7 := Lib.hid ((hb.block _ HS2.out).trans HZ2.out)
        have HX3 := Lib.hid (show XsB (fun k => w.heap.size + 1 < k ∧ k < W3.heap.size) W3 lY A3 from XsB.go (fun k hk => rfl) (fun k hk => ⟨by have := HS2.out; have := hk.1; omega, hk.2⟩) _ _ hx3)
        have HLE := Lib.hid hle3
        clear hb hle3 hx3 x0 x1 x2 x3 x4 x5 x6 x7 z0 z1 z2 z3 z4 z5 z6 z7 HN1
        obtain ⟨⟨z0, z1, z2, z3, z4, z5, z6, z7⟩, g0, g1, g2, g3, g4, g5, g6, g7⟩ := cell8 HZ7.out
        have HZ := Lib.hid (set8_box HZ7.out (.int .i64 hY.k) (.int .i64 hY.n) (.int .i64 hY.vk) (.int .i64 hY.vn) (.string hY.vs) (.string hY.tab) (.string hY.col) (.slice A3 lY.length cap3))
        go_wp2_with fail
        obtain ⟨⟨q0, q1, q2, q3, q4, q5, q6, q7⟩, _⟩ := cell8 HZ.out
        refine bodyPost_ret (v := .tuple #[XV hY A3 lY.length cap3, .int .i64 0]) (by simp [results, Tryz.results19, go_sem, q0, q1, q2, q3, q4, q5, q6, q7]) rfl ⟨A3, cap3, rfl, HLE.out, ?_, ?_⟩
        · exact XsB.go (fun k hk => set8_other (by have := hk.1; omega) _ _ _ _ _ _ _ _) (fun k hk => ⟨by have := hk.1; omega, by rw [set8_size]; exact hk.2⟩) _ _ HX3.out
        · exact set8_below HB7.out (by omega) _ _ _ _ _ _ _ _
end Go.Proofs.YtofhaokaldpmaaaGreatDoor
end
section
namespace Go.Proofs.YtofhaokaldpmaaaGreatDoor
open Go.RowKit Go.Shelf
attribute [local go_sem] Oper.semAt_some

section
variable {P : Program} {ops : List Oper} {ds : List (Option Tmp)} {need : List (List Nat)} {a0 : Act} {w0 : World} {R : World → World → Prop} {Gs : List (Value → World → Prop)} {Q : Exit → Act → World → Prop}
/-- An operation whose guard is not met. -/
theorem StepOk.idle {i : Nat} {o : Oper} {g : Value → World → Prop} (j : Nat) (t : Tmp) (b : Bool) (hgd : o.guard = some (j, b)) (hdt : (ops.map (·.dst))[j]? = some (some t)) (hg : Gs.getD i (fun _ _ => True) = g)
    (h : ∀ a w, a.tmps.size = a0.tmps.size → R w0 w → (∀ t, (∀ d ∈ ds, d ≠ some t) → a.tmps.getD t undef = a0.tmps.getD t undef) → (∀ j ∈ need.getD i [], (Gs.getD j (fun _ _ => True)) (slotAt ds a j) w) →
      a.tmps.getD t undef = .bool (!b) ∧ g undef w) : StepOk P ops ds need a0 w0 R Gs Q i o := by
  intro a w h1 h2 h3 h4
  obtain ⟨hb, hw⟩ := h a w h1 h2 h3 h4
  refine .inr ⟨?_, by rw [hg]; exact hw⟩
  have e1 : a.tmps[t]? = some (.bool (!b)) := by
    rw [Array.getD_eq_getD_getElem?] at hb
    cases hx : a.tmps[t]? with
    | none => rw [hx] at hb; cases hb
    | some x => rw [hx] at hb; simp at hb; rw [hb]
  have e2 : ((ops.toArray[j]?).bind (·.dst)) = some t := by
    rw [List.getElem?_map] at hdt
    rw [List.getElem?_toArray]
    cases hx : ops[j]? with
    | none => rw [hx] at hdt; cases hdt
    | some x => rw [hx] at hdt; simp at hdt; simp [hdt]
  unfold Region.wanted
  rw [hgd]
  simp only [yielded, e2, Option.bind_some, e1]
  cases b <;> rfl
end
theorem rfits_any (a b : Int) (w : World) {q : Bool} (h : goesB a b = q) : Calls Tryz.prog 71 #[.int .i64 a, .int .i64 b] w fun e w' => e = .returned (.bool q) ∧ w' = w := by
  unfold goesB at h
  cases h1 : (a == b)
  · cases h2 : (a == 0)
    · obtain rfl : false = q := by rw [← h, h1, h2]; rfl
      clear h
      go_enter Tryz.func71, Tryz.ntmps71
      go_wp2_with fail
      go_ret
      exact ⟨rfl, rfl⟩
    · obtain rfl : true = q := by rw [← h, h1, h2]; rfl
      clear h
      go_enter Tryz.func71, Tryz.ntmps71
      go_wp2_with fail
      go_ret
      exact ⟨rfl, rfl⟩
  · obtain rfl : true = q := by rw [← h, h1]; rfl
    clear h
    go_enter Tryz.func71, Tryz.ntmps71
    go_wp2_with fail
    go_ret
    exact ⟨rfl, rfl⟩
def OfR (q : Except Int Int) (m : Int) (b : Bool) : Prop := match q with
  | .ok t => m = t ∧ b = true
  | .error c => c = 141 ∧ b = false
/-- What of answers. -/
def OfE (q : Except Int Int) (e : Ending) : Prop := ∃ m b, e = .returned (.tuple #[.int .i64 m, .bool b]) ∧ OfR q m b
/-- What of has to do with. -/
def OfOk (h : Hd) (len : Nat) : Prop := (h.k = 4 ∧ 1 ≤ h.n ∧ h.n ≤ 5 ∧ (h.n = 3 ∨ h.n = 4 ∨ h.n = 5 → len = 1)) ∨ (h.k = 3 ∧ 1 ≤ h.n ∧ h.n ≤ 17 ∧ (4 ≤ h.n ∧ h.n ≤ 9 → len = 2))
theorem fit_of2 {h : Hd} {len : Nat} (hF : fitsB h len = true) : (h.k = 1 ∧ len = 0) ∨ (h.k = 2 ∧ len = 0 ∧ 0 ≤ h.n) ∨ OfOk h len := by
  rcases fit_kind hF with h1 | ⟨h1, h2, h3⟩ | ⟨h1, h2⟩ | ⟨h1, h2⟩
  · refine .inl ⟨h1, ?_⟩
    unfold fitsB at hF
    rw [if_pos h1] at hF
    simp only [Bool.and_eq_true, beq_iff_eq] at hF
    omega
  · refine .inr (.inl ⟨h1, ?_, h2⟩)
    unfold fitsB at hF
    rw [if_neg (by omega), if_pos h1] at hF
    simp only [Bool.and_eq_true, beq_iff_eq] at hF
    omega
  · exact .inr (.inr (.inr ⟨h1, h2⟩))
  · refine .inr (.inr (.inl ⟨h1, ?_⟩))
    unfold fitsB at hF
    rw [if_neg (by omega), if_neg (by omega), if_neg (by omega), if_pos h1] at hF
    simp only [Bool.and_eq_true] at hF
    have ha := hF.1.1
    unfold aggB at ha
    by_cases hn : h.n = 1
    · exact ⟨by omega, by omega, fun _ => by omega⟩
    · rw [if_neg hn] at ha
      simp only [Bool.and_eq_true, decide_eq_true_eq, beq_iff_eq] at ha
      exact ⟨by omega, by omega, fun _ => by omega⟩
theorem any_goes (k : Int) (ts : List Int) : (ts.any fun t => !goesB t k) = false ↔ (ts.all fun t => goesB t k) = true := by
  induction ts with
  | nil => simp
  | cons t r ih => rw [List.any_cons, List.all_cons]; cases goesB t k <;> simp [ih]
theorem onlyT_yes {k : Int} {ts : List Int} (h : (ts.all fun t => goesB t k) = true) : onlyT k ts = .ok k := by rw [onlyT, (any_goes k ts).2 h]; rfl
theorem onlyT_no {k : Int} {ts : List Int} {t : Int} (hm : t ∈ ts) (h : goesB t k = false) : onlyT k ts = .error 141 := by
  rw [onlyT, if_pos]
  exact List.any_eq_true.2 ⟨t, hm, by rw [h]; rfl⟩
set_option maxRecDepth 100000 in
set_option maxHeartbeats 16000000 in
theorem rof_any (h : Hd) (A : Option Addr) (len cap : Nat) (ts : List Int) (At : Option Addr) (ct : Nat) (w : World) (hIn : InAt w At ts) (hts : ts.length ≤ 1000000) (hk : OfOk h ts.length) :
    Calls Tryz.prog 55 #[XV h A len cap, .slice At ts.length ct] w fun e w' => OfE (if h.k = 4 then aggT h.n ts else opT h.n ts) e ∧ Below w.heap.size w w' := by
  have hb := ba w (xbox h A len cap)
  have HX := Lib.hid (MapKept.heap_alloc w (xbox h A len cap)).1
  have HI := Lib.hid (hIn.kept hb)
  have HB := Lib.hid hb
  obtain ⟨k, n, vk, vn, vs, tb, cl⟩ := h
  obtain ⟨q, hq⟩ : ∃ q, (if k = 4 then aggT n ts else opT n ts) = q := ⟨_, rfl⟩
  have HTg0 := Lib.hid hq
  rw [hq]
  unfold OfOk at hk
  simp only at hk
  clear hb hIn hq
  rcases hk with ⟨rfl, hn0, hn1, hn2⟩ | ⟨rfl, hn0, hn1, hn2⟩
  · have HTg := Lib.hid (show q = aggT n ts by rw [← HTg0.out, if_pos rfl])
    clear HTg0
    rcases (show n = 1 ∨ n = 2 ∨ n = 3 ∨ n = 4 ∨ n = 5 by omega) with rfl | rfl | rfl | rfl | rfl
    · clear hn0 hn1 hn2
      go_enter Tryz.func55, Tryz.ntmps55
      go_upto_region 1 with fail
      generalize w.alloc (.cells #[.int .i64 4, .int .i64 1, .int .i64 vk, .int .i64 vn, .string vs, .string tb, .string cl, .slice A len cap] 35) = W at HX HI HB ⊢
      obtain ⟨⟨x0, x1, x2, x3, x4, x5, x6, x7⟩, _⟩ := cell8 HX.out
      go_wp2_with fail
      exact bodyPost_ret (v := .tuple #[.int .i64 2, .bool true]) (by simp [results, Tryz.results55, go_sem]) rfl ⟨⟨2, true, rfl, by rw [HTg.out]; exact ⟨rfl, rfl⟩⟩, HB.out⟩
    · clear hn0 hn1 hn2
      go_enter Tryz.func55, Tryz.ntmps55
      go_upto_region 1 with fail
      generalize w.alloc (.cells #[.int .i64 4, .int .i64 2, .int .i64 vk, .int .i64 vn, .string vs, .string tb, .string cl, .slice A len cap] 35) = W at HX HI HB ⊢
      obtain ⟨⟨x0, x1, x2, x3, x4, x5, x6, x7⟩, _⟩ := cell8 HX.out
      go_wp2_with fail
      exact bodyPost_ret (v := .tuple #[.int .i64 2, .bool true]) (by simp [results, Tryz.results55, go_sem]) rfl ⟨⟨2, true, rfl, by rw [HTg.out]; exact ⟨rfl, rfl⟩⟩, HB.out⟩
    · obtain ⟨x, rfl⟩ : ∃ x, ts = [x] := by
        have := hn2 (by decide)
        match ts, this with
        | [x], _ => exact ⟨x, rfl⟩
      clear hn0 hn1 hn2
      obtain ⟨b, off, rfl, hb, c0⟩ := HI.out.at (i := 0) (by simp)
      simp only [List.getElem_cons_zero, List.length_cons, List.length_nil, Nat.add_zero, Nat.zero_add] at c0 hb ⊢
      go_enter Tryz.func55, Tryz.ntmps55
      go_upto_region 1 with fail
      generalize w.alloc (.cells #[.int .i64 4, .int .i64 3, .int .i64 vk, .int .i64 vn, .string vs, .string tb, .string cl, .slice A len cap] 35) = W at HX HI HB c0 hb ⊢
      obtain ⟨⟨x0, x1, x2, x3, x4, x5, x6, x7⟩, _⟩ := cell8 HX.out
      go_wp2_with fail
      obtain ⟨b1, hg⟩ : ∃ b, goesB x 2 = b := ⟨_, rfl⟩
      refine (rfits_any x 2 _ hg).mono ?_
      rintro e w3 ⟨rfl, rfl⟩
      have HG := Lib.hid hg
      clear hg
      go_wp2_with fail
      exact bodyPost_ret (v := .tuple #[.int .i64 2, .bool b1]) (by simp [results, Tryz.results55, go_sem]) rfl ⟨⟨2, b1, rfl, by rw [HTg.out, show aggT 3 [x] = onlyT 2 [x] from rfl, onlyT, List.any_cons, List.any_nil, HG.out]; cases b1 <;> exact ⟨rfl, rfl⟩⟩, HB.out⟩
    · obtain ⟨x, rfl⟩ : ∃ x, ts = [x] := by
        have := hn2 (by decide)
        match ts, this with
        | [x], _ => exact ⟨x, rfl⟩
      clear hn0 hn1 hn2
      obtain ⟨b, off, rfl, hb, c0⟩ := HI.out.at (i := 0) (by simp)
      simp only [List.getElem_cons_zero, List.length_cons, List.length_nil, Nat.add_zero, Nat.zero_add] at c0 hb ⊢
      go_enter Tryz.func55, Tryz.ntmps55
      go_upto_region 1 with fail
      generalize w.alloc (.cells #[.int .i64 4, .int .i64 4, .int .i64 vk, .int .i64 vn, .string vs, .string tb, .string cl, .slice A len cap] 35) = W at HX HI HB c0 hb ⊢
      obtain ⟨⟨x0, x1, x2, x3, x4, x5, x6, x7⟩, _⟩ := cell8 HX.out
      go_wp2_with fail
      exact bodyPost_ret (v := .tuple #[.int .i64 x, .bool true]) (by simp [results, Tryz.results55, go_sem]) rfl ⟨⟨x, true, rfl, by rw [HTg.out]; exact ⟨rfl, rfl⟩⟩, HB.out⟩
    · obtain ⟨x, rfl⟩ : ∃ x, ts = [x] := by
        have := hn2 (by decide)
        match ts, this with
        | [x], _ => exact ⟨x, rfl⟩
      clear hn0 hn1 hn2
      obtain ⟨b, off, rfl, hb, c0⟩ := HI.out.at (i := 0) (by simp)
      simp only [List.getElem_cons_zero, List.length_cons, List.length_nil, Nat.add_zero, Nat.zero_add] at c0 hb ⊢
      go_enter Tryz.func55, Tryz.ntmps55
      go_upto_region 1 with fail
      generalize w.alloc (.cells #[.int .i64 4, .int .i64 5, .int .i64 vk, .int .i64 vn, .string vs, .string tb, .string cl, .slice A len cap] 35) = W at HX HI HB c0 hb ⊢
      obtain ⟨⟨x0, x1, x2, x3, x4, x5, x6, x7⟩, _⟩ := cell8 HX.out
      go_wp2_with fail
      exact bodyPost_ret (v := .tuple #[.int .i64 x, .bool true]) (by simp [results, Tryz.results55, go_sem]) rfl ⟨⟨x, true, rfl, by rw [HTg.out]; exact ⟨rfl, rfl⟩⟩, HB.out⟩
  · by_cases h3 : n ≤ 3
    · have HTg := Lib.hid (show q = onlyT 1 ts by rw [← HTg0.out, if_neg (by decide), opT, if_pos (by omega)])
      clear HTg0 hn2
      go_enter Tryz.func55, Tryz.ntmps55
      go_upto_region 1 with fail
      generalize w.alloc (.cells #[.int .i64 3, .int .i64 n, .int .i64 vk, .int .i64 vn, .string vs, .string tb, .string cl, .slice A len cap] 35) = W at HX HI HB ⊢
      obtain ⟨⟨x0, x1, x2, x3, x4, x5, x6, x7⟩, _⟩ := cell8 HX.out
      go_wp2_with fail
      go_loop [6] (fun i => ∃ j : Nat, j ≤ ts.length ∧ i = .int .i64 j ∧ Hid ((ts.take j).all (fun t => goesB t 1) = true)) (fun i => ts.length - (intOf i).toNat)
      case atStart => exact ⟨0, Nat.zero_le _, rfl, Lib.hid (by rw [List.take_zero]; rfl)⟩
      case round =>
        obtain ⟨j, hj, rfl, HA⟩ := hrel
        by_cases hjn : j < ts.length
        · obtain ⟨b, off, rfl, hb, c0⟩ := HI.out.at hjn
          obtain ⟨x, hx⟩ : ∃ x, ts[j] = x := ⟨_, rfl⟩
          have hmem : x ∈ ts := hx ▸ List.getElem_mem hjn
          have HT := Lib.hid (fun (e : goesB x 1 = true) => show (ts.take (j + 1)).all (fun t => goesB t 1) = true by
            rw [List.take_succ_eq_append_getElem hjn, List.all_append, HA.out, hx]; simp [e])
          have HNo := Lib.hid (fun (e : goesB x 1 = false) => onlyT_no hmem e)
          rw [hx] at c0
          clear hx hmem hb
          cases hg : goesB x 1
          · have HG := Lib.hid (fun W => rfits_any x 1 W hg)
            have HE := Lib.hid (HNo.out hg)
            clear hg HT HNo
            go_wp2_with fail
            refine (HG.out _).mono ?_
            rintro e w3 ⟨rfl, rfl⟩
            go_wp2_with fail
            exact bodyPost_ret (v := .tuple #[.int .i64 0, .bool false]) (by simp [results, Tryz.results55, go_sem]) rfl ⟨⟨0, false, rfl, by rw [HTg.out, HE.out]; exact ⟨rfl, rfl⟩⟩, HB.out⟩
          · have HG := Lib.hid (fun W => rfits_any x 1 W hg)
            have HT2 := Lib.hid (HT.out hg)
            clear hg HT HNo
            go_wp2_with fail
            refine (HG.out _).mono ?_
            rintro e w3 ⟨rfl, rfl⟩
            go_wp2_with fail
            go_roundw
            case rel => exact ⟨j + 1, by omega, by go_num, HT2⟩
            case measure => simp [intOf]; omega
        · obtain rfl : j = ts.length := by omega
          have HE := Lib.hid (show onlyT 1 ts = .ok 1 from onlyT_yes (by have := HA.out; rwa [List.take_length] at this))
          clear HA
          go_wp2_with fail
          exact bodyPost_ret (v := .tuple #[.int .i64 1, .bool true]) (by simp [results, Tryz.results55, go_sem]) rfl ⟨⟨1, true, rfl, by rw [HTg.out, HE.out]; exact ⟨rfl, rfl⟩⟩, HB.out⟩
    · by_cases h9 : n ≤ 9
      · have HTg := Lib.hid (show q = compT (ts.getD 0 0) (ts.getD 1 0) by rw [← HTg0.out, if_neg (by decide), opT, if_neg (by omega), if_neg (by omega), if_neg (by omega)])
        obtain ⟨t, u, rfl⟩ : ∃ t u, ts = [t, u] := by
          have := hn2 (by omega)
          match ts, this with
          | [t, u], _ => exact ⟨t, u, rfl⟩
        obtain ⟨b, off, rfl, hb, c0⟩ := HI.out.at (i := 0) (by simp)
        obtain ⟨b', off', hbb, _, c1⟩ := HI.out.at (i := 1) (by simp)
        obtain ⟨rfl, rfl⟩ : b = b' ∧ off = off' := by simpa using hbb
        simp only [List.getElem_cons_zero, List.getElem_cons_succ, List.length_cons, List.length_nil, Nat.reduceAdd, Nat.zero_add] at c0 c1 hb ⊢
        have HL := Lib.hid hb
        have Ht := Lib.hid c0
        have Hu := Lib.hid c1
        clear HTg0 hn2 hb c0 c1 hbb hts
        cases hE1 : (t == u)
        · have HE1 := Lib.hid hE1
          cases hE2 : (t == 0)
          · have HE2 := Lib.hid hE2
            cases hE3 : (u == 0)
            · have HE3 := Lib.hid hE3
              have HC := Lib.hid (show (goesB t u || goesB u t) = false by unfold goesB; rw [show (u == t) = false from by rw [beq_eq_false_iff_ne] at hE1 ⊢; exact fun e => hE1 e.symm]; simp [hE1, hE2, hE3])
              clear hE1 hE2 hE3
              go_enter Tryz.func55, Tryz.ntmps55
              go_upto_region 1 with fail
              generalize w.alloc (.cells #[.int .i64 3, .int .i64 n, .int .i64 vk, .int .i64 vn, .string vs, .string tb, .string cl, .slice A len cap] 35) = W at HX HI HB HL Ht Hu ⊢
              obtain ⟨⟨x0, x1, x2, x3, x4, x5, x6, x7⟩, _⟩ := cell8 HX.out
              go_wp2_with fail
              refine wp_region_inv (n := 21) (ds := [some 45, some 46, some 47, some 48, some 49, some 50, some 51, some 52, some 53, some 54, some 55, some 56, some 57, some 58, some 59, some 60, some 61, some 62, some 63, some 4, some 5]) (need := [[], [0], [0, 1], [], [3], [3, 4], [0, 1, 2, 3, 4, 5], [0, 1, 2, 3, 4, 5, 6], [0, 1, 2, 3, 4, 5, 6, 7], [0, 1, 2, 3, 4, 5, 6, 7, 8], [0, 1, 2, 3, 4, 5, 6, 7, 8, 9], [0, 1, 2, 3, 4, 5, 6, 7, 8, 9, 10], [0, 1, 2, 3, 4, 5, 6, 7, 8, 9, 10, 11], [0, 1, 2, 3, 4, 5, 6, 7, 8, 9, 10, 11, 12], [0, 1, 2, 3, 4, 5, 6, 7, 8, 9, 10, 11, 12, 13], [0, 1, 2, 3, 4, 5, 6, 7, 8, 9, 10, 11, 12, 13, 14], [0, 1, 2, 3, 4, 5, 6, 7, 8, 9, 10, 11, 12, 13, 14, 15], [0, 1, 2, 3, 4, 5, 6, 7, 8, 9, 10, 11, 12, 13, 14, 15, 16], [0, 1, 2, 3, 4, 5, 6, 7, 8, 9, 10, 11, 12, 13, 14, 15, 16, 17], [0, 1, 2, 3, 4, 5, 6, 7, 8, 9, 10, 11, 12, 13], [0, 1, 2, 3, 4, 5, 6, 7, 8, 9, 10, 11, 12, 13, 14, 15, 16, 17, 18, 19]]) (R := Bel) (Gs := [
                  (fun v _ => v = .slice (some ⟨b, off, none⟩) 2 ct),
                  (fun v _ => v = .pointer (some ⟨b, off + 0, none⟩)),
                  (fun v _ => v = .int .i64 t),
                  (fun v _ => v = .slice (some ⟨b, off, none⟩) 2 ct),
                  (fun v _ => v = .pointer (some ⟨b, off + 1, none⟩)),
                  (fun v _ => v = .int .i64 u),
                  (fun v _ => v = .bool false),
                  (fun v _ => v = .bool false),
                  (fun v _ => v = .slice (some ⟨b, off, none⟩) 2 ct),
                  (fun v _ => v = .pointer (some ⟨b, off + 0, none⟩)),
                  (fun v _ => v = .int .i64 t),
                  (fun v _ => v = .bool false),
                  (fun v _ => v = .bool false),
                  (fun v _ => v = .bool false),
                  (fun v _ => v = .slice (some ⟨b, off, none⟩) 2 ct),
                  (fun v _ => v = .pointer (some ⟨b, off + 1, none⟩)),
                  (fun v _ => v = .int .i64 u),
                  (fun v _ => v = .bool false),
                  (fun v _ => v = .bool false),
                  (fun v _ => v = .int .i64 1),
                  (fun v _ => v = .bool false)])
                (by kernel_rfl) (by kernel_rfl) (by decide) (by kernel_rfl) (by kernel_rfl) (by kernel_rfl) (fun x => Below.refl _ x) (fun _ _ _ h k => bt h k) ?_ ?_
              · refine Each.cons rfl (Keeps.const _) (StepOk.plain (g := (fun v _ => v = .slice (some ⟨b, off, none⟩) 2 ct)) rfl rfl rfl (fun a w hs hR hr pre => ?_)) ?_
                · have ep : a.eval (.tmp 1) = .slice (some ⟨b, off, none⟩) 2 ct := hr 1 (by decide)
                  exact wp_pure (run_move rfl) ep
                refine Each.cons rfl (Keeps.const _) (StepOk.plain (g := (fun v _ => v = .pointer (some ⟨b, off + 0, none⟩))) rfl rfl rfl (fun a w hs hR hr pre => ?_)) ?_
                · have e45 : a.eval (.tmp 45) = .slice (some ⟨b, off, none⟩) 2 ct := pre 0 (by decide)
                  exact wp_pure (run_ixI (k := 0) rfl (by decide) e45) rfl
                refine Each.cons rfl (Keeps.const _) (StepOk.plain (g := (fun v _ => v = .int .i64 t)) rfl rfl rfl (fun a w hs hR hr pre => ?_)) ?_
                · have e46 : a.eval (.tmp 46) = .pointer (some ⟨b, off + 0, none⟩) := pre 1 (by decide)
                  exact wp_pure (run_ldI rfl e46 ((hR.cell (p := ⟨b, _, none⟩) HL.out).trans Ht.out)) rfl
                refine Each.cons rfl (Keeps.const _) (StepOk.plain (g := (fun v _ => v = .slice (some ⟨b, off, none⟩) 2 ct)) rfl rfl rfl (fun a w hs hR hr pre => ?_)) ?_
                · have ep : a.eval (.tmp 1) = .slice (some ⟨b, off, none⟩) 2 ct := hr 1 (by decide)
                  exact wp_pure (run_move rfl) ep
                refine Each.cons rfl (Keeps.const _) (StepOk.plain (g := (fun v _ => v = .pointer (some ⟨b, off + 1, none⟩))) rfl rfl rfl (fun a w hs hR hr pre => ?_)) ?_
                · have e48 : a.eval (.tmp 48) = .slice (some ⟨b, off, none⟩) 2 ct := pre 3 (by decide)
                  exact wp_pure (run_ixI (k := 1) rfl (by decide) e48) rfl
                refine Each.cons rfl (Keeps.const _) (StepOk.plain (g := (fun v _ => v = .int .i64 u)) rfl rfl rfl (fun a w hs hR hr pre => ?_)) ?_
                · have e49 : a.eval (.tmp 49) = .pointer (some ⟨b, off + 1, none⟩) := pre 4 (by decide)
                  exact wp_pure (run_ldI rfl e49 ((hR.cell (p := ⟨b, _, none⟩) HL.out).trans Hu.out)) rfl
                refine Each.cons rfl (Keeps.const _) (StepOk.plain (g := (fun v _ => v = .bool false)) rfl rfl rfl (fun a w hs hR hr pre => ?_)) ?_
                · have e47 : a.eval (.tmp 47) = .int .i64 t := pre 2 (by decide)
                  have e50 : a.eval (.tmp 50) = .int .i64 u := pre 5 (by decide)
                  exact wp_pure (run_eqI rfl e47 e50) (by rw [HE1.out])
                refine Each.cons rfl (Keeps.const _) (StepOk.plain (g := (fun v _ => v = .bool false)) rfl rfl rfl (fun a w hs hR hr pre => ?_)) ?_
                · have e51 : a.eval (.tmp 51) = .bool false := pre 6 (by decide)
                  exact wp_pure (run_move rfl) e51
                refine Each.cons rfl (Keeps.const _) (StepOk.guarded 7 52 false (g := (fun v _ => v = .slice (some ⟨b, off, none⟩) 2 ct)) rfl rfl rfl rfl (fun a w hs hR hr pre => ⟨pre 7 (by decide), ?_⟩)) ?_
                · have ep : a.eval (.tmp 1) = .slice (some ⟨b, off, none⟩) 2 ct := hr 1 (by decide)
                  exact wp_pure (run_move rfl) ep
                refine Each.cons rfl (Keeps.const _) (StepOk.guarded 7 52 false (g := (fun v _ => v = .pointer (some ⟨b, off + 0, none⟩))) rfl rfl rfl rfl (fun a w hs hR hr pre => ⟨pre 7 (by decide), ?_⟩)) ?_
                · have e53 : a.eval (.tmp 53) = .slice (some ⟨b, off, none⟩) 2 ct := pre 8 (by decide)
                  exact wp_pure (run_ixI (k := 0) rfl (by decide) e53) rfl
                refine Each.cons rfl (Keeps.const _) (StepOk.guarded 7 52 false (g := (fun v _ => v = .int .i64 t)) rfl rfl rfl rfl (fun a w hs hR hr pre => ⟨pre 7 (by decide), ?_⟩)) ?_
                · have e54 : a.eval (.tmp 54) = .pointer (some ⟨b, off + 0, none⟩) := pre 9 (by decide)
                  exact wp_pure (run_ldI rfl e54 ((hR.cell (p := ⟨b, _, none⟩) HL.out).trans Ht.out)) rfl
                refine Each.cons rfl (Keeps.const _) (StepOk.guarded 7 52 false (g := (fun v _ => v = .bool false)) rfl rfl rfl rfl (fun a w hs hR hr pre => ⟨pre 7 (by decide), ?_⟩)) ?_
                · have e55 : a.eval (.tmp 55) = .int .i64 t := pre 10 (by decide)
                  exact wp_pure (run_eqI rfl e55 rfl) (by rw [HE2.out])
                refine Each.cons rfl (Keeps.const _) (StepOk.plain (g := (fun v _ => v = .bool false)) rfl rfl rfl (fun a w hs hR hr pre => ?_)) ?_
                · have e52 : a.eval (.tmp 52) = .bool false := pre 7 (by decide)
                  have e56 : a.eval (.tmp 56) = .bool false := pre 11 (by decide)
                  exact wp_pure (run_pick rfl false e52) ((if_neg (by decide)).trans e56)
                refine Each.cons rfl (Keeps.const _) (StepOk.plain (g := (fun v _ => v = .bool false)) rfl rfl rfl (fun a w hs hR hr pre => ?_)) ?_
                · have e57 : a.eval (.tmp 57) = .bool false := pre 12 (by decide)
                  exact wp_pure (run_move rfl) e57
                refine Each.cons rfl (Keeps.const _) (StepOk.guarded 13 58 false (g := (fun v _ => v = .slice (some ⟨b, off, none⟩) 2 ct)) rfl rfl rfl rfl (fun a w hs hR hr pre => ⟨pre 13 (by decide), ?_⟩)) ?_
                · have ep : a.eval (.tmp 1) = .slice (some ⟨b, off, none⟩) 2 ct := hr 1 (by decide)
                  exact wp_pure (run_move rfl) ep
                refine Each.cons rfl (Keeps.const _) (StepOk.guarded 13 58 false (g := (fun v _ => v = .pointer (some ⟨b, off + 1, none⟩))) rfl rfl rfl rfl (fun a w hs hR hr pre => ⟨pre 13 (by decide), ?_⟩)) ?_
                · have e59 : a.eval (.tmp 59) = .slice (some ⟨b, off, none⟩) 2 ct := pre 14 (by decide)
                  exact wp_pure (run_ixI (k := 1) rfl (by decide) e59) rfl
                refine Each.cons rfl (Keeps.const _) (StepOk.guarded 13 58 false (g := (fun v _ => v = .int .i64 u)) rfl rfl rfl rfl (fun a w hs hR hr pre => ⟨pre 13 (by decide), ?_⟩)) ?_
                · have e60 : a.eval (.tmp 60) = .pointer (some ⟨b, off + 1, none⟩) := pre 15 (by decide)
                  exact wp_pure (run_ldI rfl e60 ((hR.cell (p := ⟨b, _, none⟩) HL.out).trans Hu.out)) rfl
                refine Each.cons rfl (Keeps.const _) (StepOk.guarded 13 58 false (g := (fun v _ => v = .bool false)) rfl rfl rfl rfl (fun a w hs hR hr pre => ⟨pre 13 (by decide), ?_⟩)) ?_
                · have e61 : a.eval (.tmp 61) = .int .i64 u := pre 16 (by decide)
                  exact wp_pure (run_eqI rfl e61 rfl) (by rw [HE3.out])
                refine Each.cons rfl (Keeps.const _) (StepOk.plain (g := (fun v _ => v = .bool false)) rfl rfl rfl (fun a w hs hR hr pre => ?_)) ?_
                · have e58 : a.eval (.tmp 58) = .bool false := pre 13 (by decide)
                  have e62 : a.eval (.tmp 62) = .bool false := pre 17 (by decide)
                  exact wp_pure (run_pick rfl false e58) ((if_neg (by decide)).trans e62)
                refine Each.cons rfl (Keeps.const _) (StepOk.plain (g := (fun v _ => v = .int .i64 1)) rfl rfl rfl (fun a w hs hR hr pre => ?_)) ?_
                · exact wp_pure (run_assign rfl) rfl
                refine Each.cons rfl (Keeps.const _) (StepOk.plain (g := (fun v _ => v = .bool false)) rfl rfl rfl (fun a w hs hR hr pre => ?_)) ?_
                · have e63 : a.eval (.tmp 63) = .bool false := pre 18 (by decide)
                  exact wp_pure (run_assign rfl) e63
                exact Each.nil
              · intro v w1 hB hG
                have e19 : v 19 = .int .i64 1 := hG 19 (by decide)
                have e20 : v 20 = .bool false := hG 20 (by decide)
                clear hG
                simp only [List.take_succ_cons, List.take_zero, puts, Act.put, List.setIfInBounds_toArray, List.set_cons_zero, List.set_cons_succ, Nat.reduceAdd, e19, e20]
                have HB9 := Lib.hid (bt HB.out (bt (Below.drew (Below.refl _ _)) hB))
                clear hB
                refine wpAny_done (by kernel_rfl) ?_ _
                go_wp2_with fail
                exact bodyPost_ret (v := .tuple #[.int .i64 1, .bool false]) (by simp [results, Tryz.results55, go_sem]) rfl ⟨⟨1, false, rfl, by rw [HTg.out]; show OfR (compT t u) _ _; rw [compT, HC.out]; exact ⟨rfl, rfl⟩⟩, HB9.out⟩
            · have HE3 := Lib.hid hE3
              have HC := Lib.hid (show (goesB t u || goesB u t) = true by unfold goesB; rw [show (u == t) = false from by rw [beq_eq_false_iff_ne] at hE1 ⊢; exact fun e => hE1 e.symm]; simp [hE1, hE2, hE3])
              clear hE1 hE2 hE3
              go_enter Tryz.func55, Tryz.ntmps55
              go_upto_region 1 with fail
              generalize w.alloc (.cells #[.int .i64 3, .int .i64 n, .int .i64 vk, .int .i64 vn, .string vs, .string tb, .string cl, .slice A len cap] 35) = W at HX HI HB HL Ht Hu ⊢
              obtain ⟨⟨x0, x1, x2, x3, x4, x5, x6, x7⟩, _⟩ := cell8 HX.out
              go_wp2_with fail
              refine wp_region_inv (n := 21) (ds := [some 45, some 46, some 47, some 48, some 49, some 50, some 51, some 52, some 53, some 54, some 55, some 56, some 57, some 58, some 59, some 60, some 61, some 62, some 63, some 4, some 5]) (need := [[], [0], [0, 1], [], [3], [3, 4], [0, 1, 2, 3, 4, 5], [0, 1, 2, 3, 4, 5, 6], [0, 1, 2, 3, 4, 5, 6, 7], [0, 1, 2, 3, 4, 5, 6, 7, 8], [0, 1, 2, 3, 4, 5, 6, 7, 8, 9], [0, 1, 2, 3, 4, 5, 6, 7, 8, 9, 10], [0, 1, 2, 3, 4, 5, 6, 7, 8, 9, 10, 11], [0, 1, 2, 3, 4, 5, 6, 7, 8, 9, 10, 11, 12], [0, 1, 2, 3, 4, 5, 6, 7, 8, 9, 10, 11, 12, 13], [0, 1, 2, 3, 4, 5, 6, 7, 8, 9, 10, 11, 12, 13, 14], [0, 1, 2, 3, 4, 5, 6, 7, 8, 9, 10, 11, 12, 13, 14, 15], [0, 1, 2, 3, 4, 5, 6, 7, 8, 9, 10, 11, 12, 13, 14, 15, 16], [0, 1, 2, 3, 4, 5, 6, 7, 8, 9, 10, 11, 12, 13, 14, 15, 16, 17], [0, 1, 2, 3, 4, 5, 6, 7, 8, 9, 10, 11, 12, 13], [0, 1, 2, 3, 4, 5, 6, 7, 8, 9, 10, 11, 12, 13, 14, 15, 16, 17, 18, 19]]) (R := Bel) (Gs := [
                  (fun v _ => v = .slice (some ⟨b, off, none⟩) 2 ct),
                  (fun v _ => v = .pointer (some ⟨b, off + 0, none⟩)),
                  (fun v _ => v = .int .i64 t),
                  (fun v _ => v = .slice (some ⟨b, off, none⟩) 2 ct),
                  (fun v _ => v = .pointer (some ⟨b, off + 1, none⟩)),
                  (fun v _ => v = .int .i64 u),
                  (fun v _ => v = .bool false),
                  (fun v _ => v = .bool false),
                  (fun v _ => v = .slice (some ⟨b, off, none⟩) 2 ct),
                  (fun v _ => v = .pointer (some ⟨b, off + 0, none⟩)),
                  (fun v _ => v = .int .i64 t),
                  (fun v _ => v = .bool false),
                  (fun v _ => v = .bool false),
                  (fun v _ => v = .bool false),
                  (fun v _ => v = .slice (some ⟨b, off, none⟩) 2 ct),
                  (fun v _ => v = .pointer (some ⟨b, off + 1, none⟩)),
                  (fun v _ => v = .int .i64 u),
                  (fun v _ => v = .bool true),
                  (fun v _ => v = .bool true),
                  (fun v _ => v = .int .i64 1),
                  (fun v _ => v = .bool true)])
                (by kernel_rfl) (by kernel_rfl) (by decide) (by kernel_rfl) (by kernel_rfl) (by kernel_rfl) (fun x => Below.refl _ x) (fun _ _ _ h k => bt h k) ?_ ?_
              · refine Each.cons rfl (Keeps.const _) (StepOk.plain (g := (fun v _ => v = .slice (some ⟨b, off, none⟩) 2 ct)) rfl rfl rfl (fun a w hs hR hr pre => ?_)) ?_
                · have ep : a.eval (.tmp 1) = .slice (some ⟨b, off, none⟩) 2 ct := hr 1 (by decide)
                  exact wp_pure (run_move rfl) ep
                refine Each.cons rfl (Keeps.const _) (StepOk.plain (g := (fun v _ => v = .pointer (some ⟨b, off + 0, none⟩))) rfl rfl rfl (fun a w hs hR hr pre => ?_)) ?_
                · have e45 : a.eval (.tmp 45) = .slice (some ⟨b, off, none⟩) 2 ct := pre 0 (by decide)
                  exact wp_pure (run_ixI (k := 0) rfl (by decide) e45) rfl
                refine Each.cons rfl (Keeps.const _) (StepOk.plain (g := (fun v _ => v = .int .i64 t)) rfl rfl rfl (fun a w hs hR hr pre => ?_)) ?_
                · have e46 : a.eval (.tmp 46) = .pointer (some ⟨b, off + 0, none⟩) := pre 1 (by decide)
                  exact wp_pure (run_ldI rfl e46 ((hR.cell (p := ⟨b, _, none⟩) HL.out).trans Ht.out)) rfl
                refine Each.cons rfl (Keeps.const _) (StepOk.plain (g := (fun v _ => v = .slice (some ⟨b, off, none⟩) 2 ct)) rfl rfl rfl (fun a w hs hR hr pre => ?_)) ?_
                · have ep : a.eval (.tmp 1) = .slice (some ⟨b, off, none⟩) 2 ct := hr 1 (by decide)
                  exact wp_pure (run_move rfl) ep
                refine Each.cons rfl (Keeps.const _) (StepOk.plain (g := (fun v _ => v = .pointer (some ⟨b, off + 1, none⟩))) rfl rfl rfl (fun a w hs hR hr pre => ?_)) ?_
                · have e48 : a.eval (.tmp 48) = .slice (some ⟨b, off, none⟩) 2 ct := pre 3 (by decide)
                  exact wp_pure (run_ixI (k := 1) rfl (by decide) e48) rfl
                refine Each.cons rfl (Keeps.const _) (StepOk.plain (g := (fun v _ => v = .int .i64 u)) rfl rfl rfl (fun a w hs hR hr pre => ?_)) ?_
                · have e49 : a.eval (.tmp 49) = .pointer (some ⟨b, off + 1, none⟩) := pre 4 (by decide)
                  exact wp_pure (run_ldI rfl e49 ((hR.cell (p := ⟨b, _, none⟩) HL.out).trans Hu.out)) rfl
                refine Each.cons rfl (Keeps.const _) (StepOk.plain (g := (fun v _ => v = .bool false)) rfl rfl rfl (fun a w hs hR hr pre => ?_)) ?_
                · have e47 : a.eval (.tmp 47) = .int .i64 t := pre 2 (by decide)
                  have e50 : a.eval (.tmp 50) = .int .i64 u := pre 5 (by decide)
                  exact wp_pure (run_eqI rfl e47 e50) (by rw [HE1.out])
                refine Each.cons rfl (Keeps.const _) (StepOk.plain (g := (fun v _ => v = .bool false)) rfl rfl rfl (fun a w hs hR hr pre => ?_)) ?_
                · have e51 : a.eval (.tmp 51) = .bool false := pre 6 (by decide)
                  exact wp_pure (run_move rfl) e51
                refine Each.cons rfl (Keeps.const _) (StepOk.guarded 7 52 false (g := (fun v _ => v = .slice (some ⟨b, off, none⟩) 2 ct)) rfl rfl rfl rfl (fun a w hs hR hr pre => ⟨pre 7 (by decide), ?_⟩)) ?_
                · have ep : a.eval (.tmp 1) = .slice (some ⟨b, off, none⟩) 2 ct := hr 1 (by decide)
                  exact wp_pure (run_move rfl) ep
                refine Each.cons rfl (Keeps.const _) (StepOk.guarded 7 52 false (g := (fun v _ => v = .pointer (some ⟨b, off + 0, none⟩))) rfl rfl rfl rfl (fun a w hs hR hr pre => ⟨pre 7 (by decide), ?_⟩)) ?_
                · have e53 : a.eval (.tmp 53) = .slice (some ⟨b, off, none⟩) 2 ct := pre 8 (by decide)
                  exact wp_pure (run_ixI (k := 0) rfl (by decide) e53) rfl
                refine Each.cons rfl (Keeps.const _) (StepOk.guarded 7 52 false (g := (fun v _ => v = .int .i64 t)) rfl rfl rfl rfl (fun a w hs hR hr pre => ⟨pre 7 (by decide), ?_⟩)) ?_
                · have e54 : a.eval (.tmp 54) = .pointer (some ⟨b, off + 0, none⟩) := pre 9 (by decide)
                  exact wp_pure (run_ldI rfl e54 ((hR.cell (p := ⟨b, _, none⟩) HL.out).trans Ht.out)) rfl
                refine Each.cons rfl (Keeps.const _) (StepOk.guarded 7 52 false (g := (fun v _ => v = .bool false)) rfl rfl rfl rfl (fun a w hs hR hr pre => ⟨pre 7 (by decide), ?_⟩)) ?_
                · have e55 : a.eval (.tmp 55) = .int .i64 t := pre 10 (by decide)
                  exact wp_pure (run_eqI rfl e55 rfl) (by rw [HE2.out])
                refine Each.cons rfl (Keeps.const _) (StepOk.plain (g := (fun v _ => v = .bool false)) rfl rfl rfl (fun a w hs hR hr pre => ?_)) ?_
                · have e52 : a.eval (.tmp 52) = .bool false := pre 7 (by decide)
                  have e56 : a.eval (.tmp 56) = .bool false := pre 11 (by decide)
                  exact wp_pure (run_pick rfl false e52) ((if_neg (by decide)).trans e56)
                refine Each.cons rfl (Keeps.const _) (StepOk.plain (g := (fun v _ => v = .bool false)) rfl rfl rfl (fun a w hs hR hr pre => ?_)) ?_
                · have e57 : a.eval (.tmp 57) = .bool false := pre 12 (by decide)
                  exact wp_pure (run_move rfl) e57
                refine Each.cons rfl (Keeps.const _) (StepOk.guarded 13 58 false (g := (fun v _ => v = .slice (some ⟨b, off, none⟩) 2 ct)) rfl rfl rfl rfl (fun a w hs hR hr pre => ⟨pre 13 (by decide), ?_⟩)) ?_
                · have ep : a.eval (.tmp 1) = .slice (some ⟨b, off, none⟩) 2 ct := hr 1 (by decide)
                  exact wp_pure (run_move rfl) ep
                refine Each.cons rfl (Keeps.const _) (StepOk.guarded 13 58 false (g := (fun v _ => v = .pointer (some ⟨b, off + 1, none⟩))) rfl rfl rfl rfl (fun a w hs hR hr pre => ⟨pre 13 (by decide), ?_⟩)) ?_
                · have e59 : a.eval (.tmp 59) = .slice (some ⟨b, off, none⟩) 2 ct := pre 14 (by decide)
                  exact wp_pure (run_ixI (k := 1) rfl (by decide) e59) rfl
                refine Each.cons rfl (Keeps.const _) (StepOk.guarded 13 58 false (g := (fun v _ => v = .int .i64 u)) rfl rfl rfl rfl (fun a w hs hR hr pre => ⟨pre 13 (by decide), ?_⟩)) ?_
                · have e60 : a.eval (.tmp 60) = .pointer (some ⟨b, off + 1, none⟩) := pre 15 (by decide)
                  exact wp_pure (run_ldI rfl e60 ((hR.cell (p := ⟨b, _, none⟩) HL.out).trans Hu.out)) rfl
                refine Each.cons rfl (Keeps.const _) (StepOk.guarded 13 58 false (g := (fun v _ => v = .bool true)) rfl rfl rfl rfl (fun a w hs hR hr pre => ⟨pre 13 (by decide), ?_⟩)) ?_
                · have e61 : a.eval (.tmp 61) = .int .i64 u := pre 16 (by decide)
                  exact wp_pure (run_eqI rfl e61 rfl) (by rw [HE3.out])
                refine Each.cons rfl (Keeps.const _) (StepOk.plain (g := (fun v _ => v = .bool true)) rfl rfl rfl (fun a w hs hR hr pre => ?_)) ?_
                · have e58 : a.eval (.tmp 58) = .bool false := pre 13 (by decide)
                  have e62 : a.eval (.tmp 62) = .bool true := pre 17 (by decide)
                  exact wp_pure (run_pick rfl false e58) ((if_neg (by decide)).trans e62)
                refine Each.cons rfl (Keeps.const _) (StepOk.plain (g := (fun v _ => v = .int .i64 1)) rfl rfl rfl (fun a w hs hR hr pre => ?_)) ?_
                · exact wp_pure (run_assign rfl) rfl
                refine Each.cons rfl (Keeps.const _) (StepOk.plain (g := (fun v _ => v = .bool true)) rfl rfl rfl (fun a w hs hR hr pre => ?_)) ?_
                · have e63 : a.eval (.tmp 63) = .bool true := pre 18 (by decide)
                  exact wp_pure (run_assign rfl) e63
                exact Each.nil
              · intro v w1 hB hG
                have e19 : v 19 = .int .i64 1 := hG 19 (by decide)
                have e20 : v 20 = .bool true := hG 20 (by decide)
                clear hG
                simp only [List.take_succ_cons, List.take_zero, puts, Act.put, List.setIfInBounds_toArray, List.set_cons_zero, List.set_cons_succ, Nat.reduceAdd, e19, e20]
                have HB9 := Lib.hid (bt HB.out (bt (Below.drew (Below.refl _ _)) hB))
                clear hB
                refine wpAny_done (by kernel_rfl) ?_ _
                go_wp2_with fail
                exact bodyPost_ret (v := .tuple #[.int .i64 1, .bool true]) (by simp [results, Tryz.results55, go_sem]) rfl ⟨⟨1, true, rfl, by rw [HTg.out]; show OfR (compT t u) _ _; rw [compT, HC.out]; exact ⟨rfl, rfl⟩⟩, HB9.out⟩
          · have HE2 := Lib.hid hE2
            have HC := Lib.hid (show (goesB t u || goesB u t) = true by unfold goesB; simp [hE1, hE2])
            clear hE1 hE2
            go_enter Tryz.func55, Tryz.ntmps55
            go_upto_region 1 with fail
            generalize w.alloc (.cells #[.int .i64 3, .int .i64 n, .int .i64 vk, .int .i64 vn, .string vs, .string tb, .string cl, .slice A len cap] 35) = W at HX HI HB HL Ht Hu ⊢
            obtain ⟨⟨x0, x1, x2, x3, x4, x5, x6, x7⟩, _⟩ := cell8 HX.out
            go_wp2_with fail
            refine wp_region_inv (n := 21) (ds := [some 45, some 46, some 47, some 48, some 49, some 50, some 51, some 52, some 53, some 54, some 55, some 56, some 57, some 58, some 59, some 60, some 61, some 62, some 63, some 4, some 5]) (need := [[], [0], [0, 1], [], [3], [3, 4], [0, 1, 2, 3, 4, 5], [0, 1, 2, 3, 4, 5, 6], [0, 1, 2, 3, 4, 5, 6, 7], [0, 1, 2, 3, 4, 5, 6, 7, 8], [0, 1, 2, 3, 4, 5, 6, 7, 8, 9], [0, 1, 2, 3, 4, 5, 6, 7, 8, 9, 10], [0, 1, 2, 3, 4, 5, 6, 7, 8, 9, 10, 11], [0, 1, 2, 3, 4, 5, 6, 7, 8, 9, 10, 11, 12], [0, 1, 2, 3, 4, 5, 6, 7, 8, 9, 10, 11, 12, 13], [0, 1, 2, 3, 4, 5, 6, 7, 8, 9, 10, 11, 12, 13, 14], [0, 1, 2, 3, 4, 5, 6, 7, 8, 9, 10, 11, 12, 13, 14, 15], [0, 1, 2, 3, 4, 5, 6, 7, 8, 9, 10, 11, 12, 13, 14, 15, 16], [0, 1, 2, 3, 4, 5, 6, 7, 8, 9, 10, 11, 12, 13, 14, 15, 16, 17], [0, 1, 2, 3, 4, 5, 6, 7, 8, 9, 10, 11, 12, 13], [0, 1, 2, 3, 4, 5, 6, 7, 8, 9, 10, 11, 12, 13, 14, 15, 16, 17, 18, 19]]) (R := Bel) (Gs := [
                (fun v _ => v = .slice (some ⟨b, off, none⟩) 2 ct),
                (fun v _ => v = .pointer (some ⟨b, off + 0, none⟩)),
                (fun v _ => v = .int .i64 t),
                (fun v _ => v = .slice (some ⟨b, off, none⟩) 2 ct),
                (fun v _ => v = .pointer (some ⟨b, off + 1, none⟩)),
                (fun v _ => v = .int .i64 u),
                (fun v _ => v = .bool false),
                (fun v _ => v = .bool false),
                (fun v _ => v = .slice (some ⟨b, off, none⟩) 2 ct),
                (fun v _ => v = .pointer (some ⟨b, off + 0, none⟩)),
                (fun v _ => v = .int .i64 t),
                (fun v _ => v = .bool true),
                (fun v _ => v = .bool true),
                (fun v _ => v = .bool true),
                (fun v _ => v = undef),
                (fun v _ => v = undef),
                (fun v _ => v = undef),
                (fun v _ => v = undef),
                (fun v _ => v = .bool true),
                (fun v _ => v = .int .i64 1),
                (fun v _ => v = .bool true)])
              (by kernel_rfl) (by kernel_rfl) (by decide) (by kernel_rfl) (by kernel_rfl) (by kernel_rfl) (fun x => Below.refl _ x) (fun _ _ _ h k => bt h k) ?_ ?_
            · refine Each.cons rfl (Keeps.const _) (StepOk.plain (g := (fun v _ => v = .slice (some ⟨b, off, none⟩) 2 ct)) rfl rfl rfl (fun a w hs hR hr pre => ?_)) ?_
              · have ep : a.eval (.tmp 1) = .slice (some ⟨b, off, none⟩) 2 ct := hr 1 (by decide)
                exact wp_pure (run_move rfl) ep
              refine Each.cons rfl (Keeps.const _) (StepOk.plain (g := (fun v _ => v = .pointer (some ⟨b, off + 0, none⟩))) rfl rfl rfl (fun a w hs hR hr pre => ?_)) ?_
              · have e45 : a.eval (.tmp 45) = .slice (some ⟨b, off, none⟩) 2 ct := pre 0 (by decide)
                exact wp_pure (run_ixI (k := 0) rfl (by decide) e45) rfl
              refine Each.cons rfl (Keeps.const _) (StepOk.plain (g := (fun v _ => v = .int .i64 t)) rfl rfl rfl (fun a w hs hR hr pre => ?_)) ?_
              · have e46 : a.eval (.tmp 46) = .pointer (some ⟨b, off + 0, none⟩) := pre 1 (by decide)
                exact wp_pure (run_ldI rfl e46 ((hR.cell (p := ⟨b, _, none⟩) HL.out).trans Ht.out)) rfl
              refine Each.cons rfl (Keeps.const _) (StepOk.plain (g := (fun v _ => v = .slice (some ⟨b, off, none⟩) 2 ct)) rfl rfl rfl (fun a w hs hR hr pre => ?_)) ?_
              · have ep : a.eval (.tmp 1) = .slice (some ⟨b, off, none⟩) 2 ct := hr 1 (by decide)
                exact wp_pure (run_move rfl) ep
              refine Each.cons rfl (Keeps.const _) (StepOk.plain (g := (fun v _ => v = .pointer (some ⟨b, off + 1, none⟩))) rfl rfl rfl (fun a w hs hR hr pre => ?_)) ?_
              · have e48 : a.eval (.tmp 48) = .slice (some ⟨b, off, none⟩) 2 ct := pre 3 (by decide)
                exact wp_pure (run_ixI (k := 1) rfl (by decide) e48) rfl
              refine Each.cons rfl (Keeps.const _) (StepOk.plain (g := (fun v _ => v = .int .i64 u)) rfl rfl rfl (fun a w hs hR hr pre => ?_)) ?_
              · have e49 : a.eval (.tmp 49) = .pointer (some ⟨b, off + 1, none⟩) := pre 4 (by decide)
                exact wp_pure (run_ldI rfl e49 ((hR.cell (p := ⟨b, _, none⟩) HL.out).trans Hu.out)) rfl
              refine Each.cons rfl (Keeps.const _) (StepOk.plain (g := (fun v _ => v = .bool false)) rfl rfl rfl (fun a w hs hR hr pre => ?_)) ?_
              · have e47 : a.eval (.tmp 47) = .int .i64 t := pre 2 (by decide)
                have e50 : a.eval (.tmp 50) = .int .i64 u := pre 5 (by decide)
                exact wp_pure (run_eqI rfl e47 e50) (by rw [HE1.out])
              refine Each.cons rfl (Keeps.const _) (StepOk.plain (g := (fun v _ => v = .bool false)) rfl rfl rfl (fun a w hs hR hr pre => ?_)) ?_
              · have e51 : a.eval (.tmp 51) = .bool false := pre 6 (by decide)
                exact wp_pure (run_move rfl) e51
              refine Each.cons rfl (Keeps.const _) (StepOk.guarded 7 52 false (g := (fun v _ => v = .slice (some ⟨b, off, none⟩) 2 ct)) rfl rfl rfl rfl (fun a w hs hR hr pre => ⟨pre 7 (by decide), ?_⟩)) ?_
              · have ep : a.eval (.tmp 1) = .slice (some ⟨b, off, none⟩) 2 ct := hr 1 (by decide)
                exact wp_pure (run_move rfl) ep
              refine Each.cons rfl (Keeps.const _) (StepOk.guarded 7 52 false (g := (fun v _ => v = .pointer (some ⟨b, off + 0, none⟩))) rfl rfl rfl rfl (fun a w hs hR hr pre => ⟨pre 7 (by decide), ?_⟩)) ?_
              · have e53 : a.eval (.tmp 53) = .slice (some ⟨b, off, none⟩) 2 ct := pre 8 (by decide)
                exact wp_pure (run_ixI (k := 0) rfl (by decide) e53) rfl
              refine Each.cons rfl (Keeps.const _) (StepOk.guarded 7 52 false (g := (fun v _ => v = .int .i64 t)) rfl rfl rfl rfl (fun a w hs hR hr pre => ⟨pre 7 (by decide), ?_⟩)) ?_
              · have e54 : a.eval (.tmp 54) = .pointer (some ⟨b, off + 0, none⟩) := pre 9 (by decide)
                exact wp_pure (run_ldI rfl e54 ((hR.cell (p := ⟨b, _, none⟩) HL.out).trans Ht.out)) rfl
              refine Each.cons rfl (Keeps.const _) (StepOk.guarded 7 52 false (g := (fun v _ => v = .bool true)) rfl rfl rfl rfl (fun a w hs hR hr pre => ⟨pre 7 (by decide), ?_⟩)) ?_
              · have e55 : a.eval (.tmp 55) = .int .i64 t := pre 10 (by decide)
                exact wp_pure (run_eqI rfl e55 rfl) (by rw [HE2.out])
              refine Each.cons rfl (Keeps.const _) (StepOk.plain (g := (fun v _ => v = .bool true)) rfl rfl rfl (fun a w hs hR hr pre => ?_)) ?_
              · have e52 : a.eval (.tmp 52) = .bool false := pre 7 (by decide)
                have e56 : a.eval (.tmp 56) = .bool true := pre 11 (by decide)
                exact wp_pure (run_pick rfl false e52) ((if_neg (by decide)).trans e56)
              refine Each.cons rfl (Keeps.const _) (StepOk.plain (g := (fun v _ => v = .bool true)) rfl rfl rfl (fun a w hs hR hr pre => ?_)) ?_
              · have e57 : a.eval (.tmp 57) = .bool true := pre 12 (by decide)
                exact wp_pure (run_move rfl) e57
              refine Each.cons rfl (Keeps.const _) (StepOk.idle 13 58 false (g := (fun v _ => v = undef)) rfl rfl rfl (fun a w hs hR hr pre => ⟨pre 13 (by decide), ?_⟩)) ?_
              · rfl
              refine Each.cons rfl (Keeps.const _) (StepOk.idle 13 58 false (g := (fun v _ => v = undef)) rfl rfl rfl (fun a w hs hR hr pre => ⟨pre 13 (by decide), ?_⟩)) ?_
              · rfl
              refine Each.cons rfl (Keeps.const _) (StepOk.idle 13 58 false (g := (fun v _ => v = undef)) rfl rfl rfl (fun a w hs hR hr pre => ⟨pre 13 (by decide), ?_⟩)) ?_
              · rfl
              refine Each.cons rfl (Keeps.const _) (StepOk.idle 13 58 false (g := (fun v _ => v = undef)) rfl rfl rfl (fun a w hs hR hr pre => ⟨pre 13 (by decide), ?_⟩)) ?_
              · rfl
              refine Each.cons rfl (Keeps.const _) (StepOk.plain (g := (fun v _ => v = .bool true)) rfl rfl rfl (fun a w hs hR hr pre => ?_)) ?_
              · have e58 : a.eval (.tmp 58) = .bool true := pre 13 (by decide)
                exact wp_pure (run_pick rfl true e58) rfl
              refine Each.cons rfl (Keeps.const _) (StepOk.plain (g := (fun v _ => v = .int .i64 1)) rfl rfl rfl (fun a w hs hR hr pre => ?_)) ?_
              · exact wp_pure (run_assign rfl) rfl
              refine Each.cons rfl (Keeps.const _) (StepOk.plain (g := (fun v _ => v = .bool true)) rfl rfl rfl (fun a w hs hR hr pre => ?_)) ?_
              · have e63 : a.eval (.tmp 63) = .bool true := pre 18 (by decide)
                exact wp_pure (run_assign rfl) e63
              exact Each.nil
            · intro v w1 hB hG
              have e19 : v 19 = .int .i64 1 := hG 19 (by decide)
              have e20 : v 20 = .bool true := hG 20 (by decide)
              clear hG
              simp only [List.take_succ_cons, List.take_zero, puts, Act.put, List.setIfInBounds_toArray, List.set_cons_zero, List.set_cons_succ, Nat.reduceAdd, e19, e20]
              have HB9 := Lib.hid (bt HB.out (bt (Below.drew (Below.refl _ _)) hB))
              clear hB
              refine wpAny_done (by kernel_rfl) ?_ _
              go_wp2_with fail
              exact bodyPost_ret (v := .tuple #[.int .i64 1, .bool true]) (by simp [results, Tryz.results55, go_sem]) rfl ⟨⟨1, true, rfl, by rw [HTg.out]; show OfR (compT t u) _ _; rw [compT, HC.out]; exact ⟨rfl, rfl⟩⟩, HB9.out⟩
        · have HE1 := Lib.hid hE1
          have HC := Lib.hid (show (goesB t u || goesB u t) = true by unfold goesB; simp [hE1])
          clear hE1
          go_enter Tryz.func55, Tryz.ntmps55
          go_upto_region 1 with fail
          generalize w.alloc (.cells #[.int .i64 3, .int .i64 n, .int .i64 vk, .int .i64 vn, .string vs, .string tb, .string cl, .slice A len cap] 35) = W at HX HI HB HL Ht Hu ⊢
          obtain ⟨⟨x0, x1, x2, x3, x4, x5, x6, x7⟩, _⟩ := cell8 HX.out
          go_wp2_with fail
          refine wp_region_inv (n := 21) (ds := [some 45, some 46, some 47, some 48, some 49, some 50, some 51, some 52, some 53, some 54, some 55, some 56, some 57, some 58, some 59, some 60, some 61, some 62, some 63, some 4, some 5]) (need := [[], [0], [0, 1], [], [3], [3, 4], [0, 1, 2, 3, 4, 5], [0, 1, 2, 3, 4, 5, 6], [0, 1, 2, 3, 4, 5, 6, 7], [0, 1, 2, 3, 4, 5, 6, 7, 8], [0, 1, 2, 3, 4, 5, 6, 7, 8, 9], [0, 1, 2, 3, 4, 5, 6, 7, 8, 9, 10], [0, 1, 2, 3, 4, 5, 6, 7, 8, 9, 10, 11], [0, 1, 2, 3, 4, 5, 6, 7, 8, 9, 10, 11, 12], [0, 1, 2, 3, 4, 5, 6, 7, 8, 9, 10, 11, 12, 13], [0, 1, 2, 3, 4, 5, 6, 7, 8, 9, 10, 11, 12, 13, 14], [0, 1, 2, 3, 4, 5, 6, 7, 8, 9, 10, 11, 12, 13, 14, 15], [0, 1, 2, 3, 4, 5, 6, 7, 8, 9, 10, 11, 12, 13, 14, 15, 16], [0, 1, 2, 3, 4, 5, 6, 7, 8, 9, 10, 11, 12, 13, 14, 15, 16, 17], [0, 1, 2, 3, 4, 5, 6, 7, 8, 9, 10, 11, 12, 13], [0, 1, 2, 3, 4, 5, 6, 7, 8, 9, 10, 11, 12, 13, 14, 15, 16, 17, 18, 19]]) (R := Bel) (Gs := [
              (fun v _ => v = .slice (some ⟨b, off, none⟩) 2 ct),
              (fun v _ => v = .pointer (some ⟨b, off + 0, none⟩)),
              (fun v _ => v = .int .i64 t),
              (fun v _ => v = .slice (some ⟨b, off, none⟩) 2 ct),
              (fun v _ => v = .pointer (some ⟨b, off + 1, none⟩)),
              (fun v _ => v = .int .i64 u),
              (fun v _ => v = .bool true),
              (fun v _ => v = .bool true),
              (fun v _ => v = undef),
              (fun v _ => v = undef),
              (fun v _ => v = undef),
              (fun v _ => v = undef),
              (fun v _ => v = .bool true),
              (fun v _ => v = .bool true),
              (fun v _ => v = undef),
              (fun v _ => v = undef),
              (fun v _ => v = undef),
              (fun v _ => v = undef),
              (fun v _ => v = .bool true),
              (fun v _ => v = .int .i64 1),
              (fun v _ => v = .bool true)])
            (by kernel_rfl) (by kernel_rfl) (by decide) (by kernel_rfl) (by kernel_rfl) (by kernel_rfl) (fun x => Below.refl _ x) (fun _ _ _ h k => bt h k) ?_ ?_
          · refine Each.cons rfl (Keeps.const _) (StepOk.plain (g := (fun v _ => v = .slice (some ⟨b, off, none⟩) 2 ct)) rfl rfl rfl (fun a w hs hR hr pre => ?_)) ?_
            · have ep : a.eval (.tmp 1) = .slice (some ⟨b, off, none⟩) 2 ct := hr 1 (by decide)
              exact wp_pure (run_move rfl) ep
            refine Each.cons rfl (Keeps.const _) (StepOk.plain (g := (fun v _ => v = .pointer (some ⟨b, off + 0, none⟩))) rfl rfl rfl (fun a w hs hR hr pre => ?_)) ?_
            · have e45 : a.eval (.tmp 45) = .slice (some ⟨b, off, none⟩) 2 ct := pre 0 (by decide)
              exact wp_pure (run_ixI (k := 0) rfl (by decide) e45) rfl
            refine Each.cons rfl (Keeps.const _) (StepOk.plain (g := (fun v _ => v = .int .i64 t)) rfl rfl rfl (fun a w hs hR hr pre => ?_)) ?_
            · have e46 : a.eval (.tmp 46) = .pointer (some ⟨b, off + 0, none⟩) := pre 1 (by decide)
              exact wp_pure (run_ldI rfl e46 ((hR.cell (p := ⟨b, _, none⟩) HL.out).trans Ht.out)) rfl
            refine Each.cons rfl (Keeps.const _) (StepOk.plain (g := (fun v _ => v = .slice (some ⟨b, off, none⟩) 2 ct)) rfl rfl rfl (fun a w hs hR hr pre => ?_)) ?_
            · have ep : a.eval (.tmp 1) = .slice (some ⟨b, off, none⟩) 2 ct := hr 1 (by decide)
              exact wp_pure (run_move rfl) ep
            refine Each.cons rfl (Keeps.const _) (StepOk.plain (g := (fun v _ => v = .pointer (some ⟨b, off + 1, none⟩))) rfl rfl rfl (fun a w hs hR hr pre => ?_)) ?_
            · have e48 : a.eval (.tmp 48) = .slice (some ⟨b, off, none⟩) 2 ct := pre 3 (by decide)
              exact wp_pure (run_ixI (k := 1) rfl (by decide) e48) rfl
            refine Each.cons rfl (Keeps.const _) (StepOk.plain (g := (fun v _ => v = .int .i64 u)) rfl rfl rfl (fun a w hs hR hr pre => ?_)) ?_
            · have e49 : a.eval (.tmp 49) = .pointer (some ⟨b, off + 1, none⟩) := pre 4 (by decide)
              exact wp_pure (run_ldI rfl e49 ((hR.cell (p := ⟨b, _, none⟩) HL.out).trans Hu.out)) rfl
            refine Each.cons rfl (Keeps.const _) (StepOk.plain (g := (fun v _ => v = .bool true)) rfl rfl rfl (fun a w hs hR hr pre => ?_)) ?_
            · have e47 : a.eval (.tmp 47) = .int .i64 t := pre 2 (by decide)
              have e50 : a.eval (.tmp 50) = .int .i64 u := pre 5 (by decide)
              exact wp_pure (run_eqI rfl e47 e50) (by rw [HE1.out])
            refine Each.cons rfl (Keeps.const _) (StepOk.plain (g := (fun v _ => v = .bool true)) rfl rfl rfl (fun a w hs hR hr pre => ?_)) ?_
            · have e51 : a.eval (.tmp 51) = .bool true := pre 6 (by decide)
              exact wp_pure (run_move rfl) e51
            refine Each.cons rfl (Keeps.const _) (StepOk.idle 7 52 false (g := (fun v _ => v = undef)) rfl rfl rfl (fun a w hs hR hr pre => ⟨pre 7 (by decide), ?_⟩)) ?_
            · rfl
            refine Each.cons rfl (Keeps.const _) (StepOk.idle 7 52 false (g := (fun v _ => v = undef)) rfl rfl rfl (fun a w hs hR hr pre => ⟨pre 7 (by decide), ?_⟩)) ?_
            · rfl
            refine Each.cons rfl (Keeps.const _) (StepOk.idle 7 52 false (g := (fun v _ => v = undef)) rfl rfl rfl (fun a w hs hR hr pre => ⟨pre 7 (by decide), ?_⟩)) ?_
            · rfl
            refine Each.cons rfl (Keeps.const _) (StepOk.idle 7 52 false (g := (fun v _ => v = undef)) rfl rfl rfl (fun a w hs hR hr pre => ⟨pre 7 (by decide), ?_⟩)) ?_
            · rfl
            refine Each.cons rfl (Keeps.const _) (StepOk.plain (g := (fun v _ => v = .bool true)) rfl rfl rfl (fun a w hs hR hr pre => ?_)) ?_
            · have e52 : a.eval (.tmp 52) = .bool true := pre 7 (by decide)
              exact wp_pure (run_pick rfl true e52) rfl
            refine Each.cons rfl (Keeps.const _) (StepOk.plain (g := (fun v _ => v = .bool true)) rfl rfl rfl (fun a w hs hR hr pre => ?_)) ?_
            · have e57 : a.eval (.tmp 57) = .bool true := pre 12 (by decide)
              exact wp_pure (run_move rfl) e57
            refine Each.cons rfl (Keeps.const _) (StepOk.idle 13 58 false (g := (fun v _ => v = undef)) rfl rfl rfl (fun a w hs hR hr pre => ⟨pre 13 (by decide), ?_⟩)) ?_
            · rfl
            refine Each.cons rfl (Keeps.const _) (StepOk.idle 13 58 false (g := (fun v _ => v = undef)) rfl rfl rfl (fun a w hs hR hr pre => ⟨pre 13 (by decide), ?_⟩)) ?_
            · rfl
            refine Each.cons rfl (Keeps.const _) (StepOk.idle 13 58 false (g := (fun v _ => v = undef)) rfl rfl rfl (fun a w hs hR hr pre => ⟨pre 13 (by decide), ?_⟩)) ?_
            · rfl
            refine Each.cons rfl (Keeps.const _) (StepOk.idle 13 58 false (g := (fun v _ => v = undef)) rfl rfl rfl (fun a w hs hR hr pre => ⟨pre 13 (by decide), ?_⟩)) ?_
            · rfl
            refine Each.cons rfl (Keeps.const _) (StepOk.plain (g := (fun v _ => v = .bool true)) rfl rfl rfl (fun a w hs hR hr pre => ?_)) ?_
            · have e58 : a.eval (.tmp 58) = .bool true := pre 13 (by decide)
              exact wp_pure (run_pick rfl true e58) rfl
            refine Each.cons rfl (Keeps.const _) (StepOk.plain (g := (fun v _ => v = .int .i64 1)) rfl rfl rfl (fun a w hs hR hr pre => ?_)) ?_
            · exact wp_pure (run_assign rfl) rfl
            refine Each.cons rfl (Keeps.const _) (StepOk.plain (g := (fun v _ => v = .bool true)) rfl rfl rfl (fun a w hs hR hr pre => ?_)) ?_
            · have e63 : a.eval (.tmp 63) = .bool true := pre 18 (by decide)
              exact wp_pure (run_assign rfl) e63
            exact Each.nil
          · intro v w1 hB hG
            have e19 : v 19 = .int .i64 1 := hG 19 (by decide)
            have e20 : v 20 = .bool true := hG 20 (by decide)
            clear hG
            simp only [List.take_succ_cons, List.take_zero, puts, Act.put, List.setIfInBounds_toArray, List.set_cons_zero, List.set_cons_succ, Nat.reduceAdd, e19, e20]
            have HB9 := Lib.hid (bt HB.out (bt (Below.drew (Below.refl _ _)) hB))
            clear hB
            refine wpAny_done (by kernel_rfl) ?_ _
            go_wp2_with fail
            exact bodyPost_ret (v := .tuple #[.int .i64 1, .bool true]) (by simp [results, Tryz.results55, go_sem]) rfl ⟨⟨1, true, rfl, by rw [HTg.out]; show OfR (compT t u) _ _; rw [compT, HC.out]; exact ⟨rfl, rfl⟩⟩, HB9.out⟩
      · by_cases h15 : n ≤ 15
        · have HTg := Lib.hid (show q = onlyT 2 ts by rw [← HTg0.out, if_neg (by decide), opT, if_neg (by omega), if_pos (by omega)])
          clear HTg0 hn2
          go_enter Tryz.func55, Tryz.ntmps55
          go_upto_region 1 with fail
          generalize w.alloc (.cells #[.int .i64 3, .int .i64 n, .int .i64 vk, .int .i64 vn, .string vs, .string tb, .string cl, .slice A len cap] 35) = W at HX HI HB ⊢
          obtain ⟨⟨x0, x1, x2, x3, x4, x5, x6, x7⟩, _⟩ := cell8 HX.out
          go_wp2_with fail
          go_loop [7] (fun i => ∃ j : Nat, j ≤ ts.length ∧ i = .int .i64 j ∧ Hid ((ts.take j).all (fun t => goesB t 2) = true)) (fun i => ts.length - (intOf i).toNat)
          case atStart => exact ⟨0, Nat.zero_le _, rfl, Lib.hid (by rw [List.take_zero]; rfl)⟩
          case round =>
            obtain ⟨j, hj, rfl, HA⟩ := hrel
            by_cases hjn : j < ts.length
            · obtain ⟨b, off, rfl, hb, c0⟩ := HI.out.at hjn
              obtain ⟨x, hx⟩ : ∃ x, ts[j] = x := ⟨_, rfl⟩
              have hmem : x ∈ ts := hx ▸ List.getElem_mem hjn
              have HT := Lib.hid (fun (e : goesB x 2 = true) => show (ts.take (j + 1)).all (fun t => goesB t 2) = true by
                rw [List.take_succ_eq_append_getElem hjn, List.all_append, HA.out, hx]; simp [e])
              have HNo := Lib.hid (fun (e : goesB x 2 = false) => onlyT_no hmem e)
              rw [hx] at c0
              clear hx hmem hb
              cases hg : goesB x 2
              · have HG := Lib.hid (fun W => rfits_any x 2 W hg)
                have HE := Lib.hid (HNo.out hg)
                clear hg HT HNo
                go_wp2_with fail
                refine (HG.out _).mono ?_
                rintro e w3 ⟨rfl, rfl⟩
                go_wp2_with fail
                exact bodyPost_ret (v := .tuple #[.int .i64 0, .bool false]) (by simp [results, Tryz.results55, go_sem]) rfl ⟨⟨0, false, rfl, by rw [HTg.out, HE.out]; exact ⟨rfl, rfl⟩⟩, HB.out⟩
              · have HG := Lib.hid (fun W => rfits_any x 2 W hg)
                have HT2 := Lib.hid (HT.out hg)
                clear hg HT HNo
                go_wp2_with fail
                refine (HG.out _).mono ?_
                rintro e w3 ⟨rfl, rfl⟩
                go_wp2_with fail
                go_roundw
                case rel => exact ⟨j + 1, by omega, by go_num, HT2⟩
                case measure => simp [intOf]; omega
            · obtain rfl : j = ts.length := by omega
              have HE := Lib.hid (show onlyT 2 ts = .ok 2 from onlyT_yes (by have := HA.out; rwa [List.take_length] at this))
              clear HA
              go_wp2_with fail
              exact bodyPost_ret (v := .tuple #[.int .i64 2, .bool true]) (by simp [results, Tryz.results55, go_sem]) rfl ⟨⟨2, true, rfl, by rw [HTg.out, HE.out]; exact ⟨rfl, rfl⟩⟩, HB.out⟩
        · have HTg := Lib.hid (show q = .ok 1 by rw [← HTg0.out, if_neg (by decide), opT, if_neg (by omega), if_neg (by omega), if_pos (by omega)])
          clear HTg0 hn2
          go_enter Tryz.func55, Tryz.ntmps55
          go_upto_region 1 with fail
          generalize w.alloc (.cells #[.int .i64 3, .int .i64 n, .int .i64 vk, .int .i64 vn, .string vs, .string tb, .string cl, .slice A len cap] 35) = W at HX HI HB ⊢
          obtain ⟨⟨x0, x1, x2, x3, x4, x5, x6, x7⟩, _⟩ := cell8 HX.out
          go_wp2_with fail
          exact bodyPost_ret (v := .tuple #[.int .i64 1, .bool true]) (by simp [results, Tryz.results55, go_sem]) rfl ⟨⟨1, true, rfl, by rw [HTg.out]; exact ⟨rfl, rfl⟩⟩, HB.out⟩
end Go.Proofs.YtofhaokaldpmaaaGreatDoor
end
