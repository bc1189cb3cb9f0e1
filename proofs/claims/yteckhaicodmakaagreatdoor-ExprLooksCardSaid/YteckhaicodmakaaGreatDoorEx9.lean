/-
  show, Show.
-/
import Derived.Test.YteckhaicodmakaaGreatDoorEx8
namespace Go.Proofs.YteckhaicodmakaaGreatDoor
open Go.RowKit Go.Shelf

/-! What is known of an expression that may be. -/
mutual
theorem fit_of : ∀ (x : Ex) (d : Nat), (∀ y ∈ preo x d, fitsB y.1.hd y.1.kids.length = true) → FitX x
  | .mk h l, d, H => by
    rw [preo_mk] at H
    rw [FitX]
    exact ⟨H _ (List.mem_cons_self ..), fits_of l (d + 1) fun y hy => H y (List.mem_cons_of_mem _ hy)⟩
theorem fits_of : ∀ (l : List Ex) (d : Nat), (∀ y ∈ preoL l d, fitsB y.1.hd y.1.kids.length = true) → FitXs l
  | [], _, _ => by rw [FitXs]; trivial
  | x :: r, d, H => by
    rw [preoL] at H
    rw [FitXs]
    exact ⟨fit_of x d fun y hy => H y (List.mem_append_left _ hy), fits_of r d fun y hy => H y (List.mem_append_right _ hy)⟩
end
theorem msr_all : ∀ (ys : List (Ex × Nat)) {o : Option (Nat × Nat × Nat)} {a s d : Nat}, ys.foldl mstep o = some (a, s, d) →
    (∃ a0 s0 d0, o = some (a0, s0, d0) ∧ s = s0 + ys.length) ∧ ∀ y ∈ ys, fitsB y.1.hd y.1.kids.length = true
  | [], o, a, s, d, h => ⟨⟨a, s, d, h, by simp⟩, fun y hy => by cases hy⟩
  | y :: ys, o, a, s, d, h => by
    rw [List.foldl_cons] at h
    obtain ⟨⟨a1, s1, d1, e1, e2⟩, hall⟩ := msr_all ys h
    obtain ⟨x, lv⟩ := y
    cases o with
    | none => cases e1
    | some o =>
      obtain ⟨a0, s0, d0⟩ := o
      by_cases hn : s0 = 512 ∨ 32 < lv ∨ (x.hd.k = 4 ∧ 0 < aggl a0 lv) ∨ fitsB x.hd x.kids.length = false
      · rw [mstep, if_pos hn] at e1; cases e1
      · rw [mstep, if_neg hn] at e1
        simp only [Option.some.injEq, Prod.mk.injEq] at e1
        refine ⟨⟨a0, s0, d0, rfl, by rw [List.length_cons]; omega⟩, fun y hy => ?_⟩
        rcases List.mem_cons.1 hy with rfl | hy
        · cases hf : fitsB x.hd x.kids.length with
          | true => rfl
          | false => exact absurd (.inr (.inr (.inr hf))) hn
        · exact hall y hy
theorem meas_fit {x : Ex} (h : (measO x).isSome = true) : FitX x ∧ cnt x ≤ 512 := by
  unfold measO at h
  cases hm : msr (preo x 1) with
  | none => rw [hm] at h; cases h
  | some o =>
    obtain ⟨a, s, d⟩ := o
    obtain ⟨⟨a0, s0, d0, e1, e2⟩, hall⟩ := msr_all _ hm
    obtain ⟨_, hs, _⟩ := msr_le _ hm (fun a s d e => by cases e; exact ⟨by omega, by omega, by omega⟩)
    simp only [Option.some.injEq, Prod.mk.injEq] at e1
    rw [preo_len] at e2
    exact ⟨fit_of x 1 hall, by omega⟩
theorem showAgg1_any (vk vn : Int) (vs tab col : ByteArray) (A : Option Addr) (len cap : Nat) (w : World) (f : List UInt8) :
    Calls Tryz.prog 59 #[XV ⟨4, 1, vk, vn, vs, tab, col⟩ A len cap] w fun e w' => e = .returned (.string (bstr (aggX 1 f))) ∧ Below w.heap.size w w' := by
  go_enter Tryz.func59, Tryz.ntmps59
  go_wp2
  go_ret
  exact ⟨rfl, ba w _⟩
theorem XsAt.one {n : Nat} {w : World} {x : Ex} {r : List Ex} {A : Option Addr} (H : XsAt n w (x :: r) A) : ∃ g o A' cap, A = some ⟨g, o, none⟩ ∧ g < n ∧ XC w g o x.hd A' x.kids.length cap ∧ x.kids.length ≤ cap ∧ XsAt n w x.kids A' := by
  obtain ⟨h, l⟩ := x
  obtain ⟨g, o, A', cap, e, hg, hc, hl, hx⟩ := H.at (i := 0) rfl
  exact ⟨g, o, A', cap, e, hg, by rw [Nat.zero_mul, Nat.add_zero] at hc; exact hc, hl, hx⟩
theorem XsAt.two {n : Nat} {w : World} {x y : Ex} {r : List Ex} {g o : Nat} (H : XsAt n w (x :: y :: r) (some ⟨g, o, none⟩)) : ∃ A' cap, XC w g (o + 8) y.hd A' y.kids.length cap ∧ y.kids.length ≤ cap ∧ XsAt n w y.kids A' := by
  obtain ⟨h, l⟩ := y
  obtain ⟨g', o', A', cap, e, hg, hc, hl, hx⟩ := H.at (i := 1) rfl
  simp only [Option.some.injEq, Addr.mk.injEq] at e
  obtain ⟨rfl, rfl, _⟩ := e
  exact ⟨A', cap, by rw [Nat.one_mul] at hc; exact hc, hl, hx⟩
theorem len2 : ∀ {l : List Ex}, l.length = 2 → ∃ x y, l = [x, y]
  | [], h => by simp at h
  | [_], h => by simp at h
  | [x, y], _ => ⟨x, y, rfl⟩
  | _ :: _ :: _ :: _, h => by simp at h
set_option maxHeartbeats 4000000 in
theorem show_n : ∀ (n : Nat) (h : Hd) (l : List Ex), cnt (.mk h l) ≤ n → n ≤ 512 → AllSm (.mk h l) → FitX (.mk h l) → ∀ (w : World) (A : Option Addr) (cap : Nat), XsAt w.heap.size w l A → l.length ≤ cap → TbX w →
    Calls Tryz.prog 42 #[XV h A l.length cap] w fun e w' => e = .returned (.string (bstr (shwX (.mk h l)))) ∧ Below w.heap.size w w' := by
  intro n
  induction n with
  | zero => intro h l hc; have := cnt_pos (.mk h l); omega
  | succ n ih =>
    intro h l hc hn hsm hf w A cap hX hcap hT
    have hb0 := ba w (xbox h A l.length cap)
    have HT := Lib.hid (hT.kept hb0)
    rw [AllSm] at hsm
    rw [FitX] at hf
    rw [cnt_mk] at hc
    have hxs := shwXs_len l hsm.2
    have kid : ∀ (x : Ex), AllSm x → FitX x → cnt x ≤ n → ∀ (A' : Option Addr) (cap' : Nat), x.kids.length ≤ cap' → XsAt w.heap.size w x.kids A' → ShowsAt (w.alloc (xbox h A l.length cap)) x A' cap' := by
      intro x h1 h2 h3 A' cap' h4 h5 w1 hb1
      obtain ⟨hx, lx⟩ := x
      have hb := bt hb0 hb1
      exact ih hx lx h3 (by omega) h1 h2 w1 A' cap' (h5.next hb) h4 (hT.kept hb)
    obtain ⟨k, m, vk, vn, vs, tab, col⟩ := h
    have hst := hsm.1.t
    have hsc := hsm.1.c
    have hsv := hsm.1.v
    simp only at hst hsc hsv
    have HB0 := Lib.hid hb0
    have hfb := hf.1
    unfold fitsB at hfb
    by_cases h1 : k = 1
    · subst h1
      have HS := Lib.hid (show shwX (.mk ⟨1, m, vk, vn, vs, tab, col⟩ l) = showL vk vn vs by rw [shwX]; rfl)
      clear hfb hf hsm kid hX hxs ih hT hb0
      go_enter Tryz.func42, Tryz.ntmps42
      go_wp2_with fail
      refine (show_any vk vn vs _ (by omega) HT.out.t HT.out.p).mono ?_
      rintro e w1 ⟨rfl, hb⟩
      have HB := Lib.hid (bt HB0.out hb)
      clear hb
      go_wp2_with fail
      go_ret
      exact ⟨ret_str (by rw [HS.out]), HB.out⟩
    · rw [if_neg h1] at hfb
      by_cases h2 : k = 2
      · subst h2
        have HS := Lib.hid (show shwX (.mk ⟨2, m, vk, vn, vs, tab, col⟩ l) = colX tab col by rw [shwX]; rfl)
        clear hfb hf hsm kid hX hxs ih hT hb0
        go_enter Tryz.func42, Tryz.ntmps42
        go_wp2_with fail
        refine (showColumn_any tab col _ hst hsc).mono ?_
        rintro e w1 ⟨rfl, rfl⟩
        go_wp2_with fail
        go_ret
        exact ⟨ret_str (by rw [HS.out]), HB0.out⟩
      · rw [if_neg h2] at hfb
        by_cases h4 : k = 4
        · subst h4
          have hfb : (aggB m l.length && namelessB ⟨4, m, vk, vn, vs, tab, col⟩ && valuelessB ⟨4, m, vk, vn, vs, tab, col⟩) = true := hfb
          have hag : aggB m l.length = true := by
            cases h : aggB m l.length with
            | true => rfl
            | false => rw [h] at hfb; simp at hfb
          have HS := Lib.hid (show shwX (.mk ⟨4, m, vk, vn, vs, tab, col⟩ l) = aggX m ((shwXs l).getD 0 []) by rw [shwX]; rfl)
          have HC : Calls Tryz.prog 59 #[XV ⟨4, m, vk, vn, vs, tab, col⟩ A l.length cap] (w.alloc (xbox ⟨4, m, vk, vn, vs, tab, col⟩ A l.length cap)) fun e w' => e = .returned (.string (bstr (aggX m ((shwXs l).getD 0 [])))) ∧ Below (w.alloc (xbox ⟨4, m, vk, vn, vs, tab, col⟩ A l.length cap)).heap.size (w.alloc (xbox ⟨4, m, vk, vn, vs, tab, col⟩ A l.length cap)) w' := by
            unfold aggB at hag
            by_cases hm : m = 1
            · subst hm; exact showAgg1_any _ _ _ _ _ _ _ _ _ _
            · rw [if_neg hm] at hag
              simp only [Bool.and_eq_true, decide_eq_true_eq, beq_iff_eq] at hag
              obtain ⟨⟨g1, g2⟩, g3⟩ := hag
              obtain ⟨x, rfl⟩ := List.length_eq_one_iff.1 (show l.length = 1 by omega)
              obtain ⟨g, o, A', cap', rfl, hg, hc', hl', hx'⟩ := XsAt.one hX
              have hcx : cnt x ≤ n := by simp only [cntL] at hc; omega
              rw [AllSmL] at hsm
              have hf2 := hf.2
              rw [FitXs] at hf2
              have := showAgg_of m vk vn vs tab col x g o cap A' cap' _ (Nat.lt_of_lt_of_le hg hb0.size) (hc'.of (hb0.block g hg)) (kid x hsm.2.1 hf2.1 hcx A' cap' hl' hx') (by have := shwX_len x hsm.2.1; omega) (by omega)
              simpa [shwXs] using this
          have HCC := Lib.hid HC
          clear hfb hf hsm kid hX hxs ih hT hb0 HC hag
          go_enter Tryz.func42, Tryz.ntmps42
          go_wp2_with fail
          refine HCC.out.mono ?_
          rintro e w1 ⟨rfl, hb⟩
          have HB := Lib.hid (bt HB0.out hb)
          clear hb
          go_wp2_with fail
          go_ret
          exact ⟨ret_str (by rw [HS.out, List.getD_eq_getElem?_getD]), HB.out⟩
        · by_cases h3 : k = 3
          · subst h3
            rw [if_pos rfl] at hfb
            simp only [Bool.and_eq_true, decide_eq_true_eq, beq_iff_eq] at hfb
            obtain ⟨⟨⟨ha, hla⟩, _⟩, _⟩ := hfb
            have HS := Lib.hid (show shwX (.mk ⟨3, m, vk, vn, vs, tab, col⟩ l) = [40] ++ opX m ((shwXs l).getD 0 []) ((shwXs l).getD 1 []) ++ [41] by rw [shwX]; rfl)
            have hol := opX_len m ((shwXs l).getD 0 []) ((shwXs l).getD 1 [])
            have HC : Calls Tryz.prog 60 #[XV ⟨3, m, vk, vn, vs, tab, col⟩ A l.length cap] (w.alloc (xbox ⟨3, m, vk, vn, vs, tab, col⟩ A l.length cap)) fun e w' => e = .returned (.string (bstr (opX m ((shwXs l).getD 0 []) ((shwXs l).getD 1 [])))) ∧ Below (w.alloc (xbox ⟨3, m, vk, vn, vs, tab, col⟩ A l.length cap)).heap.size (w.alloc (xbox ⟨3, m, vk, vn, vs, tab, col⟩ A l.length cap)) w' := by
              unfold arI at ha hla
              by_cases hu : m = 3 ∨ m = 15 ∨ m = 16 ∨ m = 17
              · rw [if_pos hu] at hla
                obtain ⟨x, rfl⟩ := List.length_eq_one_iff.1 (show l.length = 1 by omega)
                obtain ⟨g, o, A', cap', rfl, hg, hc', hl', hx'⟩ := XsAt.one hX
                have hcx : cnt x ≤ n := by simp only [cntL] at hc; omega
                rw [AllSmL] at hsm
                have hf2 := hf.2
                rw [FitXs] at hf2
                have := showOp1_of m vk vn vs tab col x g o cap A' cap' _ (Nat.lt_of_lt_of_le hg hb0.size) (hc'.of (hb0.block g hg)) (kid x hsm.2.1 hf2.1 hcx A' cap' hl' hx') (by have := shwX_len x hsm.2.1; omega) hu []
                simpa [shwXs] using this
              · rw [if_neg hu] at ha hla
                by_cases hv : 1 ≤ m ∧ m ≤ 17
                · rw [if_pos hv] at hla
                  obtain ⟨x, y, rfl⟩ := len2 (show l.length = 2 by omega)
                  obtain ⟨g, o, A', cap', rfl, hg, hc', hl', hx'⟩ := XsAt.one hX
                  obtain ⟨B', cap2, hc2, hl2, hx2⟩ := XsAt.two hX
                  have hcx : cnt x + cnt y ≤ n := by simp only [cntL] at hc; omega
                  have hpx := cnt_pos x
                  have hpy := cnt_pos y
                  rw [AllSmL, AllSmL] at hsm
                  have hf2 := hf.2
                  rw [FitXs, FitXs] at hf2
                  obtain ⟨m', rfl⟩ : ∃ m' : Nat, m = m' := ⟨m.toNat, by omega⟩
                  have := showOp2_of m' vk vn vs tab col x y g o cap A' B' cap' cap2 _ (Nat.lt_of_lt_of_le hg hb0.size) (hc'.of (hb0.block g hg)) (hc2.of (hb0.block g hg)) (kid x hsm.2.1 hf2.1 (by omega) A' cap' hl' hx') (kid y hsm.2.2.1 hf2.2.1 (by omega) B' cap2 hl2 hx2) (by have := shwX_len x hsm.2.1; have := shwX_len y hsm.2.2.1; omega) (by omega) HT.out
                  simpa [shwXs] using this
                · rw [if_neg hv] at ha; omega
            have HCC := Lib.hid HC
            obtain ⟨TB, hTB⟩ : ∃ TB, bstr (opX m ((shwXs l).getD 0 []) ((shwXs l).getD 1 [])) = TB := ⟨_, rfl⟩
            have hTs : TB.size ≤ 4611686018427390000 := by
              rw [← hTB]
              show (List.toArray _).size ≤ _
              rw [List.size_toArray]
              omega
            rw [hTB] at HCC
            have HTB := Lib.hid hTB.symm
            clear hf hsm kid hX hxs ih hT hb0 HC ha hla hTB hol
            go_enter Tryz.func42, Tryz.ntmps42
            go_wp2_with fail
            refine HCC.out.mono ?_
            rintro e w1 ⟨rfl, hb⟩
            have HB := Lib.hid (bt HB0.out hb)
            clear hb
            go_wp2_with fail
            go_ret
            exact ⟨ret_str (by rw [HS.out, HTB.out]; apply ByteArray.ext; simp [bstr]), HB.out⟩
          · rw [if_neg h3, if_neg h4] at hfb; cases hfb
def shoX (x : Ex) : List UInt8 := if (measO x).isSome then shwX x else []
theorem xshow_any (h : Hd) (lk : List Ex) (A : Option Addr) (cap : Nat) (w : World) (hX : XsAt w.heap.size w lk A) (hcap : lk.length ≤ cap) (hsm : AllSm (.mk h lk)) (hc : cnt (.mk h lk) ≤ 999999) (hT : TbX w) :
    Calls Tryz.prog 13 #[XV h A lk.length cap] w fun e w' => e = .returned (.string (bstr (shoX (.mk h lk)))) ∧ Below w.heap.size w w' := by
  have hb0 := ba w (xbox h A lk.length cap)
  have HC := Lib.hid (xcheck_any h lk A cap _ (hX.next hb0) hcap hsm hc (hT.t.kept hb0))
  have HX1 := Lib.hid (MapKept.heap_alloc w (xbox h A lk.length cap)).1
  have HB0 := Lib.hid hb0
  have HXs := Lib.hid hX
  have HT := Lib.hid hT
  have HSm := Lib.hid hsm
  clear hX hT hb0 hsm
  cases hm : (measO (.mk h lk)).isSome
  · have HS := Lib.hid (show shoX (.mk h lk) = [] by rw [shoX, hm]; rfl)
    rw [show chkI (.mk h lk) = 100 by rw [chkI, hm]; rfl] at HC
    clear hm
    go_enter Tryz.func13, Tryz.ntmps13
    go_wp2_with fail
    refine HC.out.mono ?_
    rintro e w1 ⟨rfl, hb⟩
    have HB := Lib.hid (bt HB0.out hb)
    clear hb
    go_wp2_with fail
    go_ret
    exact ⟨ret_str (by rw [HS.out]; rfl), HB.out⟩
  · have HS := Lib.hid (show shoX (.mk h lk) = shwX (.mk h lk) by rw [shoX, hm]; rfl)
    rw [show chkI (.mk h lk) = 0 by rw [chkI, hm]; rfl] at HC
    obtain ⟨hft, hcn⟩ := meas_fit hm
    have HSh := Lib.hid (fun w1 (hb : Below w.heap.size w w1) => show_n _ h lk (Nat.le_refl _) hcn HSm.out hft w1 A cap (HXs.out.next hb) hcap (HT.out.kept hb))
    clear hm hft hcn
    go_enter Tryz.func13, Tryz.ntmps13
    go_wp2_with fail
    refine HC.out.mono ?_
    rintro e w1 ⟨rfl, hb⟩
    have HB := Lib.hid (bt HB0.out hb)
    obtain ⟨⟨c0, c1, c2, c3, c4, c5, c6, c7⟩, _⟩ := cell8 ((hb.block w.heap.size (by rw [World.size_alloc]; omega)).trans HX1.out)
    clear hb
    go_wp2_with fail
    refine (HSh.out _ HB.out).mono ?_
    rintro e w2 ⟨rfl, hb⟩
    have HB2 := Lib.hid (bt HB.out hb)
    clear hb
    go_wp2_with fail
    go_ret
    exact ⟨ret_str (by rw [HS.out]), HB2.out⟩
end Go.Proofs.YteckhaicodmakaaGreatDoor
