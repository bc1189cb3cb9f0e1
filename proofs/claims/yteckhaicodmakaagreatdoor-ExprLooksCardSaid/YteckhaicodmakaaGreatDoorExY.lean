/-
  The walk of ExprLooks.
-/
import Derived.Test.YteckhaicodmakaaGreatDoorExZ
import Derived.Test.YteckhaicodmakaaGreatDoorExN
namespace Go.Proofs.YteckhaicodmakaaGreatDoor
open Go.RowKit Go.Shelf
attribute [local go_sem] Oper.semAt_some

theorem cntL_bound {L : List Ex} {M : Nat} (h : ∀ y ∈ L, cnt y ≤ M) : cntL L ≤ L.length * M := by
  induction L with
  | nil => simp [cntL]
  | cons x r ih =>
    have h1 := h x (List.mem_cons_self ..)
    have h2 := ih (fun y hy => h y (List.mem_cons_of_mem _ hy))
    rw [cntL, List.length_cons, Nat.add_mul]; omega
mutual
theorem knd_mem (c : Int) : ∀ (x : Ex), ∀ y ∈ kndX c x, cnt y ≤ cnt x
  | .mk h l, y, hy => by
    rw [kndX, List.mem_append] at hy
    rcases hy with hy | hy
    · split at hy
      · obtain rfl : y = .mk h l := by simpa using hy
        exact Nat.le_refl _
      · cases hy
    · have := knds_mem c l y hy
      rw [cnt_mk]; omega
theorem knds_mem (c : Int) : ∀ (l : List Ex), ∀ y ∈ kndXs c l, cnt y ≤ cntL l
  | [], y, hy => by simp [kndXs] at hy
  | x :: r, y, hy => by
    rw [kndXs, List.mem_append] at hy
    rw [cntL]
    rcases hy with hy | hy
    · have := knd_mem c x y hy; omega
    · have := knds_mem c r y hy; omega
end
theorem knd_cnt {c : Int} {x : Ex} (h : cnt x ≤ 512) : cntL (kndX c x) ≤ 1000000 := by
  have h1 := cntL_bound (M := 512) (L := kndX c x) (fun y hy => Nat.le_trans (knd_mem c x y hy) h)
  have h2 := knd_len c x
  have h3 : (kndX c x).length * 512 ≤ 512 * 512 := Nat.mul_le_mul_right _ (by omega)
  omega
theorem prt_mem : ∀ (N : Nat) (x : Ex), cnt x ≤ N → FitX x → ∀ y ∈ prtX x, cnt y ≤ cnt x := by
  intro N
  induction N with
  | zero => intro x hc; have := cnt_pos x; omega
  | succ N ih =>
    intro x hc hf y hy
    obtain ⟨h, l⟩ := x
    by_cases hk : h.k = 3 ∧ h.n = 2
    · rw [FitX] at hf
      have hfb := hf.1
      unfold fitsB at hfb
      rw [if_neg (by omega), if_neg (by omega), if_pos hk.1] at hfb
      simp only [Bool.and_eq_true, decide_eq_true_eq, beq_iff_eq] at hfb
      have hla := hfb.1.1.2
      rw [hk.2] at hla
      obtain ⟨X, Y, rfl⟩ := len2 (show l.length = 2 by simp [arI] at hla; omega)
      have hf2 := hf.2
      rw [FitXs, FitXs] at hf2
      simp only [cnt_mk, cntL] at hc ⊢
      rw [prtX_and hk.1 hk.2, List.mem_append] at hy
      rcases hy with hy | hy
      · have := ih X (by omega) hf2.1 y hy; omega
      · have := ih Y (by omega) hf2.2.1 y hy; omega
    · rw [prtX_one hk] at hy
      obtain rfl : y = .mk h l := by simpa using hy
      exact Nat.le_refl _
theorem prt_cnt {x : Ex} (hf : FitX x) (h : cnt x ≤ 512) : cntL (prtX x) ≤ 1000000 := by
  have h1 := cntL_bound (M := 512) (L := prtX x) (fun y hy => Nat.le_trans (prt_mem _ x (Nat.le_refl _) hf y hy) h)
  have h2 := (prt_len _ x (Nat.le_refl _) hf).2
  have h3 : (prtX x).length * 512 ≤ 512 * 512 := Nat.mul_le_mul_right _ (by omega)
  omega
theorem rv_kinds {x : Ex} {v : Value} {w : World} {c : Int} (h : EV x v w) (hc : cnt x ≤ 1000000) :
    Calls Tryz.prog 33 #[v, .int .i64 c] w fun e w' => ∃ u, e = .returned u ∧ Bel w w' ∧ LV (kndX c x) u w' := by
  obtain ⟨hd, l⟩ := x
  obtain ⟨A, cap, rfl, hl, hx⟩ := h
  refine (refKinds_n c w.heap.size 1000000 hd l hc (Nat.le_refl _) w A cap hx hl (Nat.le_refl _)).mono ?_
  rintro _ w' ⟨v, rfl, hY⟩
  obtain ⟨A', cap', e, hl', hx'⟩ := hY.xsAt (Nat.le_refl _)
  exact ⟨v, rfl, hY.bel, A', cap', e, hl', hx'⟩
theorem rv_parts {x : Ex} {v : Value} {w : World} (h : EV x v w) (hc : cnt x ≤ 1000000) (hf : FitX x) :
    Calls Tryz.prog 34 #[v] w fun e w' => ∃ u, e = .returned u ∧ Bel w w' ∧ LV (prtX x) u w' := by
  obtain ⟨hd, l⟩ := x
  obtain ⟨A, cap, rfl, hl, hx⟩ := h
  refine (refParts_n w.heap.size 1000000 hd l hc (Nat.le_refl _) hf w A cap hx hl (Nat.le_refl _)).mono ?_
  rintro _ w' ⟨v, rfl, hY⟩
  obtain ⟨A', cap', e, hl', hx'⟩ := hY.xsAt (Nat.le_refl _)
  exact ⟨v, rfl, hY.bel, A', cap', e, hl', hx'⟩
set_option maxRecDepth 100000 in
set_option maxHeartbeats 8000000 in
theorem looks_walk (h : Hd) (l : List Ex) (A : Option Addr) (cap : Nat) (w : World) (hX : XsAt w.heap.size w l A) (hcap : l.length ≤ cap) (hT : TbX w) :
    Calls Tryz.prog 5 #[XV h A l.length cap] w fun e w' => e = .returned (.bool true) ∧ Below w.heap.size w w' := by
  have hb0 := ba w (xbox h A l.length cap)
  have HX := Lib.hid (MapKept.heap_alloc w (xbox h A l.length cap)).1
  obtain ⟨⟨y0, y1, y2, y3, y4, y5, y6, y7⟩, _⟩ := cell8 HX.out
  have HE := Lib.hid (show EV (.mk h l) (XV h A l.length cap) (w.alloc (xbox h A l.length cap)) from ⟨A, cap, rfl, hcap, XsAt.next hX hb0⟩)
  have HB := Lib.hid hb0
  have HV := Lib.hid (fun w1 (hb : Below w.heap.size w w1) => lives_yes w1 (hT.kept hb))
  have HT := Lib.hid hT
  clear hX hT hb0
  obtain ⟨x, hx⟩ : ∃ x, Ex.mk h l = x := ⟨_, rfl⟩
  rw [hx] at HE
  clear hx
  have HL := Lib.hid (rv_large HE.out rfl)
  go_enter Tryz.func5, Tryz.ntmps5
  go_wp2_with fail
  refine HL.out.mono ?_
  rintro e w1 ⟨_, rfl, hb, rfl⟩
  have HB1 := Lib.hid (bt HB.out hb)
  have HE1 := Lib.hid (EV.next hb HE.out)
  have HX1 := Lib.hid ((hb.block w.heap.size (by rw [World.size_alloc]; omega)).trans HX.out)
  clear hb HL HB HE HX y0 y1 y2 y3 y4 y5 y6 y7
  cases hl : largeB x
  rotate_left 1
  · go_wp2_with fail
    refine (HV.out _ HB1.out).mono ?_
    rintro e w2 ⟨rfl, hb⟩
    have HB2 := Lib.hid (bt HB1.out hb)
    clear hb
    go_wp2_with fail
    go_ret
    exact ⟨rfl, HB2.out⟩
  · obtain ⟨hsm, hc⟩ := large_no hl
    obtain ⟨C, hC⟩ : ∃ C, (if okX x = true then kndX 2 x else []) = C := ⟨_, rfl⟩
    obtain ⟨G, hG'⟩ : ∃ C, (if okX x = true then kndX 4 x else []) = C := ⟨_, rfl⟩
    obtain ⟨Q, hP⟩ : ∃ C, (if okX x = true then prtX x else []) = C := ⟨_, rfl⟩
    obtain ⟨s, hs'⟩ : ∃ s, safeB x = s := ⟨_, rfl⟩
    have HT1 := Lib.hid (HT.out.kept (bt HB1.out (Below.drew (Below.refl w1.heap.size w1))))
    have HU1 := Lib.hid (Array.getElem?_eq_some_iff.1 HX1.out).1
    go_upto_region 3 with fail
    obtain ⟨u1, hu1⟩ : ∃ u, w.heap.size = u := ⟨_, rfl⟩
    rw [hu1] at HX1 HU1
    try rw [hu1]
    clear hu1
    refine wp_region_inv (n := 12) (ds := [some 10, some 11, some 12, some 13, some 14, some 15, some 16, some 17, some 3, some 4, some 5, some 6]) (need := [[], [0], [], [1, 2], [], [3, 4], [], [5, 6], [0, 1, 7], [0, 1, 2, 3, 8], [0, 1, 2, 3, 4, 5, 8, 9], [0, 1, 2, 3, 4, 5, 6, 7, 8, 9, 10]]) (R := Bel) (Gs := [
        (EV x),
        (LV C),
        (EV x),
        (LV G),
        (EV x),
        (LV Q),
        (EV x),
        (fun v _ => v = .bool s),
        (LV C),
        (LV G),
        (LV Q),
        (fun v _ => v = .bool s)])
      (by kernel_rfl) (by kernel_rfl) (by decide) (by kernel_rfl) (by kernel_rfl) (by kernel_rfl) (fun x => Below.refl _ x) (fun _ _ _ h k => bt h k) ?_ ?_
    · refine Each.cons rfl (EV.keeps _) (StepOk.plain (g := (EV x)) rfl rfl rfl (fun a w hs hR hr pre => ?_)) ?_
      · have ep : a.eval (.tmp 1) = .pointer (some ⟨u1, 0, none⟩) := hr 1 (by decide)
        exact wp_pure (run_ldE rfl ep (XC.ofBox ((hR.block u1 HU1.out).trans HX1.out))) (EV.next (bt (Below.drew (Below.refl _ _)) hR) HE1.out)
      refine Each.cons rfl (LV.keeps _) (StepOk.plain (g := (LV C)) rfl rfl rfl (fun a w hs hR hr pre => ?_)) ?_
      · have h10 : EV x (a.eval (.tmp 10)) w := pre 0 (by decide)
        exact wp_fn (vs := #[a.eval (.tmp 10)]) rfl Tryz.func28 (by kernel_rfl) (by kernel_rfl) (by simp only [List.map_toArray, List.map_cons, List.map_nil]) (by rw [← hC]; exact ev_columns h10 hsm (by omega) (HT1.out.kept hR).t)
      refine Each.cons rfl (EV.keeps _) (StepOk.plain (g := (EV x)) rfl rfl rfl (fun a w hs hR hr pre => ?_)) ?_
      · have ep : a.eval (.tmp 1) = .pointer (some ⟨u1, 0, none⟩) := hr 1 (by decide)
        exact wp_pure (run_ldE rfl ep (XC.ofBox ((hR.block u1 HU1.out).trans HX1.out))) (EV.next (bt (Below.drew (Below.refl _ _)) hR) HE1.out)
      refine Each.cons rfl (LV.keeps _) (StepOk.plain (g := (LV G)) rfl rfl rfl (fun a w hs hR hr pre => ?_)) ?_
      · have h12 : EV x (a.eval (.tmp 12)) w := pre 2 (by decide)
        exact wp_fn (vs := #[a.eval (.tmp 12)]) rfl Tryz.func29 (by kernel_rfl) (by kernel_rfl) (by simp only [List.map_toArray, List.map_cons, List.map_nil]) (by rw [← hG']; exact ev_aggs h12 hsm (by omega) (HT1.out.kept hR).t)
      refine Each.cons rfl (EV.keeps _) (StepOk.plain (g := (EV x)) rfl rfl rfl (fun a w hs hR hr pre => ?_)) ?_
      · have ep : a.eval (.tmp 1) = .pointer (some ⟨u1, 0, none⟩) := hr 1 (by decide)
        exact wp_pure (run_ldE rfl ep (XC.ofBox ((hR.block u1 HU1.out).trans HX1.out))) (EV.next (bt (Below.drew (Below.refl _ _)) hR) HE1.out)
      refine Each.cons rfl (LV.keeps _) (StepOk.plain (g := (LV Q)) rfl rfl rfl (fun a w hs hR hr pre => ?_)) ?_
      · have h14 : EV x (a.eval (.tmp 14)) w := pre 4 (by decide)
        exact wp_fn (vs := #[a.eval (.tmp 14)]) rfl Tryz.func30 (by kernel_rfl) (by kernel_rfl) (by simp only [List.map_toArray, List.map_cons, List.map_nil]) (by rw [← hP]; exact ev_parts h14 hsm (by omega) (HT1.out.kept hR).t)
      refine Each.cons rfl (EV.keeps _) (StepOk.plain (g := (EV x)) rfl rfl rfl (fun a w hs hR hr pre => ?_)) ?_
      · have ep : a.eval (.tmp 1) = .pointer (some ⟨u1, 0, none⟩) := hr 1 (by decide)
        exact wp_pure (run_ldE rfl ep (XC.ofBox ((hR.block u1 HU1.out).trans HX1.out))) (EV.next (bt (Below.drew (Below.refl _ _)) hR) HE1.out)
      refine Each.cons rfl (Keeps.const _) (StepOk.plain (g := (fun v _ => v = .bool s)) rfl rfl rfl (fun a w hs hR hr pre => ?_)) ?_
      · have h16 : EV x (a.eval (.tmp 16)) w := pre 6 (by decide)
        exact wp_fn (vs := #[a.eval (.tmp 16)]) rfl Tryz.func31 (by kernel_rfl) (by kernel_rfl) (by simp only [List.map_toArray, List.map_cons, List.map_nil]) (ev_safe h16 hsm (by omega) (HT1.out.kept hR).t hs')
      refine Each.cons rfl (LV.keeps _) (StepOk.plain (g := (LV C)) rfl rfl rfl (fun a w hs hR hr pre => ?_)) ?_
      · have h11 : LV C (a.eval (.tmp 11)) w := pre 1 (by decide)
        exact wp_pure (run_assign rfl) h11
      refine Each.cons rfl (LV.keeps _) (StepOk.plain (g := (LV G)) rfl rfl rfl (fun a w hs hR hr pre => ?_)) ?_
      · have h13 : LV G (a.eval (.tmp 13)) w := pre 3 (by decide)
        exact wp_pure (run_assign rfl) h13
      refine Each.cons rfl (LV.keeps _) (StepOk.plain (g := (LV Q)) rfl rfl rfl (fun a w hs hR hr pre => ?_)) ?_
      · have h15 : LV Q (a.eval (.tmp 15)) w := pre 5 (by decide)
        exact wp_pure (run_assign rfl) h15
      refine Each.cons rfl (Keeps.const _) (StepOk.plain (g := (fun v _ => v = .bool s)) rfl rfl rfl (fun a w hs hR hr pre => ?_)) ?_
      · have e17 : a.eval (.tmp 17) = .bool s := pre 7 (by decide)
        exact wp_pure (run_assign rfl) e17
      exact Each.nil
    · intro v w1 hB hG
      have l8 : LV C (v 8) w1 := hG 8 (by decide)
      have l9 : LV G (v 9) w1 := hG 9 (by decide)
      have l10 : LV Q (v 10) w1 := hG 10 (by decide)
      have e11 : v 11 = .bool s := hG 11 (by decide)
      clear hG
      obtain ⟨A3, c3, e8, _⟩ := id l8
      obtain ⟨A4, c4, e9, _⟩ := id l9
      obtain ⟨A5, c5, e10, _⟩ := id l10
      rw [e8] at l8; rw [e9] at l9; rw [e10] at l10
      simp only [List.take_succ_cons, List.take_zero, puts, Act.put, List.setIfInBounds_toArray, List.set_cons_zero, List.set_cons_succ, Nat.reduceAdd, e8, e9, e10, e11]
      clear e8 e9 e10 e11
      obtain ⟨n3, hn3⟩ : ∃ n, C.length = n := ⟨_, rfl⟩
      obtain ⟨n4, hn4⟩ : ∃ n, G.length = n := ⟨_, rfl⟩
      obtain ⟨n5, hn5⟩ : ∃ n, Q.length = n := ⟨_, rfl⟩
      rw [hn3] at l8 ⊢; rw [hn4] at l9 ⊢; rw [hn5] at l10 ⊢
      have Hn3 := Lib.hid hn3; have Hn4 := Lib.hid hn4; have Hn5 := Lib.hid hn5
      have HC := Lib.hid hC; have HGG := Lib.hid hG'; have HQ := Lib.hid hP; have HS := Lib.hid hs'
      clear hn3 hn4 hn5 hC hG' hP hs'
      have HL3 := Lib.hid l8; have HL4 := Lib.hid l9; have HL5 := Lib.hid l10
      clear l8 l9 l10
      have HB2 := Lib.hid (bt HB1.out (bt (Below.drew (Below.refl _ _)) hB))
      have HX2 := Lib.hid (show w1.heap[u1]? = _ from (hB.block u1 HU1.out).trans HX1.out)
      have HE2 := Lib.hid (EV.next (bt (Below.drew (Below.refl _ _)) hB) HE1.out)
      clear hB HB1 HX1 HE1 HT1
      refine wpAny_done (by kernel_rfl) ?_ _
      go_wp2_with fail
      refine (HV.out _ HB2.out).mono ?_
      rintro e w2 ⟨rfl, hb⟩
      have HB3 := Lib.hid (bt HB2.out hb)
      have HX3 := Lib.hid ((hb.block u1 (Array.getElem?_eq_some_iff.1 HX2.out).1).trans HX2.out)
      have HE3 := Lib.hid (EV.next hb HE2.out)
      have HM3 := Lib.hid (LV.next hb HL3.out); have HM4 := Lib.hid (LV.next hb HL4.out); have HM5 := Lib.hid (LV.next hb HL5.out)
      clear hb HB2 HX2 HE2 HL3 HL4 HL5
      obtain ⟨⟨y0, y1, y2, y3, y4, y5, y6, y7⟩, _⟩ := cell8 HX3.out
      go_wp2_with fail
      refine (rv_check HE3.out hsm (by omega) rfl).mono ?_
      rintro e w3 ⟨_, rfl, hb, rfl⟩
      have HB4 := Lib.hid (bt HB3.out hb)
      have HX4 := Lib.hid ((hb.block u1 (Array.getElem?_eq_some_iff.1 HX3.out).1).trans HX3.out)
      have HE4 := Lib.hid (EV.next hb HE3.out)
      have HL3 := Lib.hid (LV.next hb HM3.out); have HL4 := Lib.hid (LV.next hb HM4.out); have HL5 := Lib.hid (LV.next hb HM5.out)
      clear hb HB3 HX3 HE3 HM3 HM4 HM5 y0 y1 y2 y3 y4 y5 y6 y7
      cases ho : okX x
      · have h0 : n3 = 0 ∧ n4 = 0 ∧ n5 = 0 ∧ s = false := by
          have a1 := HC.out; have a2 := HGG.out; have a3 := HQ.out; have a4 := HS.out
          rw [ho] at a1 a2 a3
          simp only [Bool.false_eq_true, if_false] at a1 a2 a3
          rw [safe_of, ho] at a4
          exact ⟨by rw [← Hn3.out, ← a1]; rfl, by rw [← Hn4.out, ← a2]; rfl, by rw [← Hn5.out, ← a3]; rfl, by simpa using a4.symm⟩
        obtain ⟨rfl, rfl, rfl, rfl⟩ := h0
        clear HC HGG HQ HS Hn3 Hn4 Hn5 HL3 HL4 HL5
        go_wp2_with fail
        go_ret
        exact ⟨rfl, HB4.out⟩
      · obtain ⟨hfit, hc5⟩ := ok_fit ho
        have hC : C = kndX 2 x := by have := HC.out; rw [ho] at this; simpa using this.symm
        have hG2 : G = kndX 4 x := by have := HGG.out; rw [ho] at this; simpa using this.symm
        have hQ : Q = prtX x := by have := HQ.out; rw [ho] at this; simpa using this.symm
        have hs2 : (!errsX x) = s := by have := HS.out; rw [safe_of, ho] at this; simpa using this
        rw [hC] at HL3; rw [hG2] at HL4; rw [hQ] at HL5
        clear HC HGG HQ HS Hn3 Hn4 Hn5 hC hG2 hQ
        have HU4 := Lib.hid (Array.getElem?_eq_some_iff.1 HX4.out).1
        go_upto_region 8 with fail
        refine wp_region_seq (ds := [some 40, some 41, some 42, some 43, some 44, some 45, some 46, some 47, some 48, some 49, some 50, some 51, some 52, some 53, some 54, some 55, some 56, some 57, some 58, some 59, some 60, some 61, some 2]) (need := [[], [], [1], [0, 2], [3], [4], [4], [4, 6], [4, 5, 7], [4, 8], [8, 9], [10], [10], [10, 12], [10, 11, 13], [10, 14], [14, 15], [16], [16], [16, 18], [16, 17, 19], [16, 20], [0, 1, 2, 3, 4, 5, 6, 7, 8, 9, 10, 11, 12, 13, 14, 15, 16, 17, 18, 19, 20, 21]]) (R := Bel) (Gs := [
            (LV (kndX 2 x)),
            (EV x),
            (LV (kndX 2 x)),
            (fun v _ => v = .bool true),
            (fun v _ => v = .bool true),
            (LV (kndX 4 x)),
            (EV x),
            (LV (kndX 4 x)),
            (fun v _ => v = .bool true),
            (fun v _ => v = .bool true),
            (fun v _ => v = .bool true),
            (LV (prtX x)),
            (EV x),
            (LV (prtX x)),
            (fun v _ => v = .bool true),
            (fun v _ => v = .bool true),
            (fun v _ => v = .bool true),
            (fun v _ => v = .bool s),
            (EV x),
            (fun v _ => v = .bool s),
            (fun v _ => v = .bool true),
            (fun v _ => v = .bool true),
            (fun v _ => v = .bool true)])
          (by kernel_rfl) (by kernel_rfl) (by kernel_rfl) (fun x => Below.refl _ x) (fun _ _ _ h k => bt h k) ?_ ?_
        · refine Each.cons rfl (LV.keeps _) (StepOk.plain (g := (LV (kndX 2 x))) rfl rfl rfl (fun a w hs hR hr pre => ?_)) ?_
          · have ep : a.eval (.tmp 3) = .slice A3 n3 c3 := hr 3 (by decide)
            exact wp_pure (run_move rfl) (by rw [ep]; exact LV.next hR HL3.out)
          refine Each.cons rfl (EV.keeps _) (StepOk.plain (g := (EV x)) rfl rfl rfl (fun a w hs hR hr pre => ?_)) ?_
          · have ep : a.eval (.tmp 1) = .pointer (some ⟨u1, 0, none⟩) := hr 1 (by decide)
            exact wp_pure (run_ldE rfl ep (XC.ofBox ((hR.block u1 HU4.out).trans HX4.out))) (EV.next hR HE4.out)
          refine Each.cons rfl (LV.keeps _) (StepOk.plain (g := (LV (kndX 2 x))) rfl rfl rfl (fun a w hs hR hr pre => ?_)) ?_
          · have h41 : EV x (a.eval (.tmp 41)) w := pre 1 (by decide)
            exact wp_fn (vs := #[a.eval (.tmp 41), .int .i64 2]) rfl Tryz.func33 (by kernel_rfl) (by kernel_rfl) (by simp only [List.map_toArray, List.map_cons, List.map_nil, eval_const]) (rv_kinds h41 (by omega))
          refine Each.cons rfl (Keeps.const _) (StepOk.plain (g := (fun v _ => v = .bool true)) rfl rfl rfl (fun a w hs hR hr pre => ?_)) ?_
          · have h40 : LV (kndX 2 x) (a.eval (.tmp 40)) w := pre 0 (by decide)
            have h42 : LV (kndX 2 x) (a.eval (.tmp 42)) w := pre 2 (by decide)
            exact wp_fn (vs := #[a.eval (.tmp 40), a.eval (.tmp 42)]) rfl Tryz.func32 (by kernel_rfl) (by kernel_rfl) (by simp only [List.map_toArray, List.map_cons, List.map_nil]) (rv_list h40 h42 (knd_cnt hc5))
          refine Each.cons rfl (Keeps.const _) (StepOk.plain (g := (fun v _ => v = .bool true)) rfl rfl rfl (fun a w hs hR hr pre => ?_)) ?_
          · have e43 : a.eval (.tmp 43) = .bool true := pre 3 (by decide)
            exact wp_pure (run_move rfl) e43
          refine Each.cons rfl (LV.keeps _) (StepOk.guarded 4 44 true (g := (LV (kndX 4 x))) rfl rfl rfl rfl (fun a w hs hR hr pre => ⟨pre 4 (by decide), ?_⟩)) ?_
          · have ep : a.eval (.tmp 4) = .slice A4 n4 c4 := hr 4 (by decide)
            exact wp_pure (run_move rfl) (by rw [ep]; exact LV.next hR HL4.out)
          refine Each.cons rfl (EV.keeps _) (StepOk.guarded 4 44 true (g := (EV x)) rfl rfl rfl rfl (fun a w hs hR hr pre => ⟨pre 4 (by decide), ?_⟩)) ?_
          · have ep : a.eval (.tmp 1) = .pointer (some ⟨u1, 0, none⟩) := hr 1 (by decide)
            exact wp_pure (run_ldE rfl ep (XC.ofBox ((hR.block u1 HU4.out).trans HX4.out))) (EV.next hR HE4.out)
          refine Each.cons rfl (LV.keeps _) (StepOk.guarded 4 44 true (g := (LV (kndX 4 x))) rfl rfl rfl rfl (fun a w hs hR hr pre => ⟨pre 4 (by decide), ?_⟩)) ?_
          · have h46 : EV x (a.eval (.tmp 46)) w := pre 6 (by decide)
            exact wp_fn (vs := #[a.eval (.tmp 46), .int .i64 4]) rfl Tryz.func33 (by kernel_rfl) (by kernel_rfl) (by simp only [List.map_toArray, List.map_cons, List.map_nil, eval_const]) (rv_kinds h46 (by omega))
          refine Each.cons rfl (Keeps.const _) (StepOk.guarded 4 44 true (g := (fun v _ => v = .bool true)) rfl rfl rfl rfl (fun a w hs hR hr pre => ⟨pre 4 (by decide), ?_⟩)) ?_
          · have h45 : LV (kndX 4 x) (a.eval (.tmp 45)) w := pre 5 (by decide)
            have h47 : LV (kndX 4 x) (a.eval (.tmp 47)) w := pre 7 (by decide)
            exact wp_fn (vs := #[a.eval (.tmp 45), a.eval (.tmp 47)]) rfl Tryz.func32 (by kernel_rfl) (by kernel_rfl) (by simp only [List.map_toArray, List.map_cons, List.map_nil]) (rv_list h45 h47 (knd_cnt hc5))
          refine Each.cons rfl (Keeps.const _) (StepOk.plain (g := (fun v _ => v = .bool true)) rfl rfl rfl (fun a w hs hR hr pre => ?_)) ?_
          · have e44 : a.eval (.tmp 44) = .bool true := pre 4 (by decide)
            have e48 : a.eval (.tmp 48) = .bool true := pre 8 (by decide)
            exact wp_pure (run_pick rfl true e44) (by simpa using e48)
          refine Each.cons rfl (Keeps.const _) (StepOk.plain (g := (fun v _ => v = .bool true)) rfl rfl rfl (fun a w hs hR hr pre => ?_)) ?_
          · have e49 : a.eval (.tmp 49) = .bool true := pre 9 (by decide)
            exact wp_pure (run_move rfl) e49
          refine Each.cons rfl (LV.keeps _) (StepOk.guarded 10 50 true (g := (LV (prtX x))) rfl rfl rfl rfl (fun a w hs hR hr pre => ⟨pre 10 (by decide), ?_⟩)) ?_
          · have ep : a.eval (.tmp 5) = .slice A5 n5 c5 := hr 5 (by decide)
            exact wp_pure (run_move rfl) (by rw [ep]; exact LV.next hR HL5.out)
          refine Each.cons rfl (EV.keeps _) (StepOk.guarded 10 50 true (g := (EV x)) rfl rfl rfl rfl (fun a w hs hR hr pre => ⟨pre 10 (by decide), ?_⟩)) ?_
          · have ep : a.eval (.tmp 1) = .pointer (some ⟨u1, 0, none⟩) := hr 1 (by decide)
            exact wp_pure (run_ldE rfl ep (XC.ofBox ((hR.block u1 HU4.out).trans HX4.out))) (EV.next hR HE4.out)
          refine Each.cons rfl (LV.keeps _) (StepOk.guarded 10 50 true (g := (LV (prtX x))) rfl rfl rfl rfl (fun a w hs hR hr pre => ⟨pre 10 (by decide), ?_⟩)) ?_
          · have h52 : EV x (a.eval (.tmp 52)) w := pre 12 (by decide)
            exact wp_fn (vs := #[a.eval (.tmp 52)]) rfl Tryz.func34 (by kernel_rfl) (by kernel_rfl) (by simp only [List.map_toArray, List.map_cons, List.map_nil]) (rv_parts h52 (by omega) hfit)
          refine Each.cons rfl (Keeps.const _) (StepOk.guarded 10 50 true (g := (fun v _ => v = .bool true)) rfl rfl rfl rfl (fun a w hs hR hr pre => ⟨pre 10 (by decide), ?_⟩)) ?_
          · have h51 : LV (prtX x) (a.eval (.tmp 51)) w := pre 11 (by decide)
            have h53 : LV (prtX x) (a.eval (.tmp 53)) w := pre 13 (by decide)
            exact wp_fn (vs := #[a.eval (.tmp 51), a.eval (.tmp 53)]) rfl Tryz.func32 (by kernel_rfl) (by kernel_rfl) (by simp only [List.map_toArray, List.map_cons, List.map_nil]) (rv_list h51 h53 (prt_cnt hfit hc5))
          refine Each.cons rfl (Keeps.const _) (StepOk.plain (g := (fun v _ => v = .bool true)) rfl rfl rfl (fun a w hs hR hr pre => ?_)) ?_
          · have e50 : a.eval (.tmp 50) = .bool true := pre 10 (by decide)
            have e54 : a.eval (.tmp 54) = .bool true := pre 14 (by decide)
            exact wp_pure (run_pick rfl true e50) (by simpa using e54)
          refine Each.cons rfl (Keeps.const _) (StepOk.plain (g := (fun v _ => v = .bool true)) rfl rfl rfl (fun a w hs hR hr pre => ?_)) ?_
          · have e55 : a.eval (.tmp 55) = .bool true := pre 15 (by decide)
            exact wp_pure (run_move rfl) e55
          refine Each.cons rfl (Keeps.const _) (StepOk.guarded 16 56 true (g := (fun v _ => v = .bool s)) rfl rfl rfl rfl (fun a w hs hR hr pre => ⟨pre 16 (by decide), ?_⟩)) ?_
          · have ep : a.eval (.tmp 6) = .bool s := hr 6 (by decide)
            exact wp_pure (run_move rfl) ep
          refine Each.cons rfl (EV.keeps _) (StepOk.guarded 16 56 true (g := (EV x)) rfl rfl rfl rfl (fun a w hs hR hr pre => ⟨pre 16 (by decide), ?_⟩)) ?_
          · have ep : a.eval (.tmp 1) = .pointer (some ⟨u1, 0, none⟩) := hr 1 (by decide)
            exact wp_pure (run_ldE rfl ep (XC.ofBox ((hR.block u1 HU4.out).trans HX4.out))) (EV.next hR HE4.out)
          refine Each.cons rfl (Keeps.const _) (StepOk.guarded 16 56 true (g := (fun v _ => v = .bool s)) rfl rfl rfl rfl (fun a w hs hR hr pre => ⟨pre 16 (by decide), ?_⟩)) ?_
          · have h58 : EV x (a.eval (.tmp 58)) w := pre 18 (by decide)
            exact wp_fn (vs := #[a.eval (.tmp 58)]) rfl Tryz.func35 (by kernel_rfl) (by kernel_rfl) (by simp only [List.map_toArray, List.map_cons, List.map_nil]) (rv_safe h58 (by omega) hs2)
          refine Each.cons rfl (Keeps.const _) (StepOk.guarded 16 56 true (g := (fun v _ => v = .bool true)) rfl rfl rfl rfl (fun a w hs hR hr pre => ⟨pre 16 (by decide), ?_⟩)) ?_
          · have e57 : a.eval (.tmp 57) = .bool s := pre 17 (by decide)
            have e59 : a.eval (.tmp 59) = .bool s := pre 19 (by decide)
            exact wp_pure (run_eqB rfl Tryz.underlying4 e57 e59) (by simp)
          refine Each.cons rfl (Keeps.const _) (StepOk.plain (g := (fun v _ => v = .bool true)) rfl rfl rfl (fun a w hs hR hr pre => ?_)) ?_
          · have e56 : a.eval (.tmp 56) = .bool true := pre 16 (by decide)
            have e60 : a.eval (.tmp 60) = .bool true := pre 20 (by decide)
            exact wp_pure (run_pick rfl true e56) (by simpa using e60)
          refine Each.cons rfl (Keeps.const _) (StepOk.plain (g := (fun v _ => v = .bool true)) rfl rfl rfl (fun a w hs hR hr pre => ?_)) ?_
          · have e61 : a.eval (.tmp 61) = .bool true := pre 21 (by decide)
            exact wp_pure (run_assign rfl) e61
          exact Each.nil
        · intro v w1 hB hG
          have e22 : v 22 = .bool true := hG 22 (by decide)
          clear hG
          simp only [puts, Act.put, List.setIfInBounds_toArray, List.set_cons_zero, List.set_cons_succ, Nat.reduceAdd, e22]
          have HB9 := Lib.hid (bt HB4.out hB)
          clear hB
          go_wp2_with fail
          go_ret
          exact ⟨rfl, HB9.out⟩
end Go.Proofs.YteckhaicodmakaaGreatDoor
