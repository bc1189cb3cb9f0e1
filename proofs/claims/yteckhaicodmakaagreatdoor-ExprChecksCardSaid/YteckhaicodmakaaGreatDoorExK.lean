/-
  The walk of ExprChecks.
-/
import Derived.Test.YteckhaicodmakaaGreatDoorExJ
namespace Go.Proofs.YteckhaicodmakaaGreatDoor
open Go.RowKit Go.Shelf
attribute [local go_sem] Oper.semAt_some

set_option maxRecDepth 100000 in
set_option maxHeartbeats 8000000 in
theorem checks_walk (h : Hd) (l : List Ex) (A : Option Addr) (cap : Nat) (w : World) (hX : XsAt w.heap.size w l A) (hcap : l.length ≤ cap) (hT : TbX w) :
    Calls Tryz.prog 3 #[XV h A l.length cap] w fun e w' => e = .returned (.bool true) ∧ Below w.heap.size w w' := by
  have hb0 := ba w (xbox h A l.length cap)
  have HX := Lib.hid (MapKept.heap_alloc w (xbox h A l.length cap)).1
  obtain ⟨⟨y0, y1, y2, y3, y4, y5, y6, y7⟩, _⟩ := cell8 HX.out
  have HE := Lib.hid (show EV (.mk h l) (XV h A l.length cap) (w.alloc (xbox h A l.length cap)) from ⟨A, cap, rfl, hcap, XsAt.next hX hb0⟩)
  have HB := Lib.hid hb0
  have HV := Lib.hid (fun w1 (hb : Below w.heap.size w w1) => lives_yes w1 (hT.kept hb))
  have HT := Lib.hid hT
  clear hX hT hb0
  obtain ⟨x, hx⟩ : ∃ x, Ex.mk h l = x := ⟨_, rfl⟩
  rw [hx] at HE
  clear hx
  cases hl : largeB x
  · obtain ⟨hsm, hc⟩ := large_no hl
    have HL := Lib.hid (rv_large HE.out hl)
    go_enter Tryz.func3, Tryz.ntmps3
    go_wp2_with fail
    refine HL.out.mono ?_
    rintro e w1 ⟨_, rfl, hb, rfl⟩
    have HB1 := Lib.hid (bt HB.out hb)
    have HE1 := Lib.hid (EV.next hb HE.out)
    have HX1 := Lib.hid ((hb.block w.heap.size (by rw [World.size_alloc]; omega)).trans HX.out)
    clear hb
    go_wp2_with fail
    refine (HV.out _ HB1.out).mono ?_
    rintro e w2 ⟨rfl, hb⟩
    have HB2 := Lib.hid (bt HB1.out hb)
    have HE2 := Lib.hid (EV.next hb HE1.out)
    have HX2 := Lib.hid ((hb.block w.heap.size (Array.getElem?_eq_some_iff.1 HX1.out).1).trans HX1.out)
    obtain ⟨⟨c0, c1, c2, c3, c4, c5, c6, c7⟩, _⟩ := cell8 HX2.out
    clear hb HB1 HE1 HX1 y0 y1 y2 y3 y4 y5 y6 y7
    go_wp2_with fail
    cases ho : okX x
    · have hchk : chkI x = 100 := by rw [chk_of, ho]; rfl
      have hsiz : sizI x = 0 := by rw [siz_of, ho]; rfl
      have hdep : depI x = 0 := by rw [dep_of, ho]; rfl
      have hsho : shoX x = [] := by rw [sho_of, ho]; rfl
      refine (rv_check HE2.out hsm (by omega) ho).mono ?_
      rintro e w3 ⟨_, rfl, hb, rfl⟩
      have HB3 := Lib.hid (bt HB2.out hb)
      have HE3 := Lib.hid (EV.next hb HE2.out)
      have HX3 := Lib.hid ((hb.block w.heap.size (Array.getElem?_eq_some_iff.1 HX2.out).1).trans HX2.out)
      clear hb c0 c1 c2 c3 c4 c5 c6 c7
      obtain ⟨⟨c0, c1, c2, c3, c4, c5, c6, c7⟩, _⟩ := cell8 HX3.out
      go_wp2_with fail
      refine (ev_check HE3.out hsm (by omega) (HT.out.kept HB3.out).t hchk).mono ?_
      rintro e w4 ⟨_, rfl, hb, rfl⟩
      have HB4 := Lib.hid (bt HB3.out hb)
      have HE4 := Lib.hid (EV.next hb HE3.out)
      have HX4 := Lib.hid ((hb.block w.heap.size (Array.getElem?_eq_some_iff.1 HX3.out).1).trans HX3.out)
      clear hb c0 c1 c2 c3 c4 c5 c6 c7
      obtain ⟨⟨c0, c1, c2, c3, c4, c5, c6, c7⟩, _⟩ := cell8 HX4.out
      go_wp2_with fail
      refine (ev_size HE4.out hsm (by omega) (HT.out.kept HB4.out).t hsiz).mono ?_
      rintro e w5 ⟨_, rfl, hb, rfl⟩
      have HB5 := Lib.hid (bt HB4.out hb)
      have HE5 := Lib.hid (EV.next hb HE4.out)
      have HX5 := Lib.hid ((hb.block w.heap.size (Array.getElem?_eq_some_iff.1 HX4.out).1).trans HX4.out)
      clear hb c0 c1 c2 c3 c4 c5 c6 c7
      obtain ⟨⟨c0, c1, c2, c3, c4, c5, c6, c7⟩, _⟩ := cell8 HX5.out
      go_wp2_with fail
      refine (ev_depth HE5.out hsm (by omega) (HT.out.kept HB5.out).t hdep).mono ?_
      rintro e w6 ⟨_, rfl, hb, rfl⟩
      have HB6 := Lib.hid (bt HB5.out hb)
      have HE6 := Lib.hid (EV.next hb HE5.out)
      have HX6 := Lib.hid ((hb.block w.heap.size (Array.getElem?_eq_some_iff.1 HX5.out).1).trans HX5.out)
      clear hb c0 c1 c2 c3 c4 c5 c6 c7
      obtain ⟨⟨c0, c1, c2, c3, c4, c5, c6, c7⟩, _⟩ := cell8 HX6.out
      go_wp2_with fail
      refine (ev_show HE6.out hsm (by omega) (HT.out.kept HB6.out) hsho).mono ?_
      rintro e w7 ⟨_, rfl, hb, rfl⟩
      have HB7 := Lib.hid (bt HB6.out hb)
      have HE7 := Lib.hid (EV.next hb HE6.out)
      have HX7 := Lib.hid ((hb.block w.heap.size (Array.getElem?_eq_some_iff.1 HX6.out).1).trans HX6.out)
      clear hb c0 c1 c2 c3 c4 c5 c6 c7
      obtain ⟨⟨c0, c1, c2, c3, c4, c5, c6, c7⟩, _⟩ := cell8 HX7.out
      go_wp2_with fail
      go_ret
      exact ⟨ret_bool (show (bstr []).toList.isEmpty = true by rw [bstr_toList]; rfl), HB7.out⟩
    · have hchk : chkI x = 0 := by rw [chk_of, ho]; rfl
      have hsiz : sizI x = cnt x := by rw [siz_of, ho]; rfl
      have hdep : depI x = depX x := by rw [dep_of, ho]; rfl
      have hsho : shoX x = shwX x := by rw [sho_of, ho]; rfl
      have hsz2 : sizN x = cnt x := by rw [sizN, if_pos ho]
      obtain ⟨hfit, hc5⟩ := ok_fit ho
      refine (rv_check HE2.out hsm (by omega) ho).mono ?_
      rintro e w3 ⟨_, rfl, hb, rfl⟩
      have HB1 := Lib.hid (bt HB2.out hb)
      have HE1 := Lib.hid (EV.next hb HE2.out)
      have HX1 := Lib.hid ((hb.block w.heap.size (Array.getElem?_eq_some_iff.1 HX2.out).1).trans HX2.out)
      have HT1 := Lib.hid (HT.out.kept (bt HB1.out (Below.drew (Below.refl w3.heap.size w3))))
      have HU1 := Lib.hid (Array.getElem?_eq_some_iff.1 HX1.out).1
      clear hb HB2 HE2 HX2 c0 c1 c2 c3 c4 c5 c6 c7 HL HV HE HB HX
      go_upto_region 7 with fail
      obtain ⟨u1, hu1⟩ : ∃ u, w.heap.size = u := ⟨_, rfl⟩
      rw [hu1] at HX1 HU1
      try rw [hu1]
      clear hu1
      refine wp_region_inv (n := 25) (ds := [some 29, some 30, some 31, some 32, some 33, some 34, some 35, some 36, some 37, some 38, some 39, some 40, some 41, some 42, some 43, some 44, some 45, some 46, some 47, some 48, some 49, some 50, some 51, some 52, some 2]) (need := [[], [0], [1], [1, 2], [3], [3, 4], [3], [3, 5, 6], [3, 5, 7], [3, 8], [7, 9], [10], [10, 11], [10], [10, 12, 13], [10, 12, 14], [10, 15], [14, 16], [17], [17, 18], [17], [17, 19, 20], [17, 19, 21], [17, 22], [0, 1, 2, 3, 4, 5, 6, 7, 8, 9, 10, 11, 12, 13, 14, 15, 16, 17, 18, 19, 20, 21, 22, 23]]) (R := Bel) (Gs := [
          (EV x),
          (fun v _ => v = .int .i64 0),
          (fun v _ => v = .bool true),
          (fun v _ => v = .bool true),
          (EV x),
          (fun v _ => v = .int .i64 (cnt x)),
          (EV x),
          (fun v _ => v = .int .i64 (cnt x)),
          (fun v _ => v = .bool true),
          (fun v _ => v = .bool true),
          (fun v _ => v = .bool true),
          (EV x),
          (fun v _ => v = .int .i64 (depX x)),
          (EV x),
          (fun v _ => v = .int .i64 (depX x)),
          (fun v _ => v = .bool true),
          (fun v _ => v = .bool true),
          (fun v _ => v = .bool true),
          (EV x),
          (fun v _ => v = .string (bstr (shwX x))),
          (EV x),
          (fun v _ => v = .string (bstr (shwX x))),
          (fun v _ => v = .bool true),
          (fun v _ => v = .bool true),
          (fun v _ => v = .bool true)])
        (by kernel_rfl) (by kernel_rfl) (by decide) (by kernel_rfl) (by kernel_rfl) (by kernel_rfl) (fun x => Below.refl _ x) (fun _ _ _ h k => bt h k) ?_ ?_
      · refine Each.cons rfl (EV.keeps _) (StepOk.plain (g := (EV x)) rfl rfl rfl (fun a w hs hR hr pre => ?_)) ?_
        · have ep : a.eval (.tmp 1) = .pointer (some ⟨u1, 0, none⟩) := hr 1 (by decide)
          exact wp_pure (run_ldE rfl ep (XC.ofBox ((hR.block u1 HU1.out).trans HX1.out))) (EV.next (bt (Below.drew (Below.refl _ _)) hR) HE1.out)
        refine Each.cons rfl (Keeps.const _) (StepOk.plain (g := (fun v _ => v = .int .i64 0)) rfl rfl rfl (fun a w hs hR hr pre => ?_)) ?_
        · have h29 : EV x (a.eval (.tmp 29)) w := pre 0 (by decide)
          exact wp_fn (vs := #[a.eval (.tmp 29)]) rfl Tryz.func10 (by kernel_rfl) (by kernel_rfl) (by simp only [List.map_toArray, List.map_cons, List.map_nil]) (ev_check h29 hsm (by omega) (HT1.out.kept hR).t hchk)
        refine Each.cons rfl (Keeps.const _) (StepOk.plain (g := (fun v _ => v = .bool true)) rfl rfl rfl (fun a w hs hR hr pre => ?_)) ?_
        · have e30 : a.eval (.tmp 30) = .int .i64 0 := pre 1 (by decide)
          exact wp_pure (run_eqI rfl e30 rfl) (by simp)
        refine Each.cons rfl (Keeps.const _) (StepOk.plain (g := (fun v _ => v = .bool true)) rfl rfl rfl (fun a w hs hR hr pre => ?_)) ?_
        · have e31 : a.eval (.tmp 31) = .bool true := pre 2 (by decide)
          exact wp_pure (run_move rfl) e31
        refine Each.cons rfl (EV.keeps _) (StepOk.guarded 3 32 true (g := (EV x)) rfl rfl rfl rfl (fun a w hs hR hr pre => ⟨pre 3 (by decide), ?_⟩)) ?_
        · have ep : a.eval (.tmp 1) = .pointer (some ⟨u1, 0, none⟩) := hr 1 (by decide)
          exact wp_pure (run_ldE rfl ep (XC.ofBox ((hR.block u1 HU1.out).trans HX1.out))) (EV.next (bt (Below.drew (Below.refl _ _)) hR) HE1.out)
        refine Each.cons rfl (Keeps.const _) (StepOk.guarded 3 32 true (g := (fun v _ => v = .int .i64 (cnt x))) rfl rfl rfl rfl (fun a w hs hR hr pre => ⟨pre 3 (by decide), ?_⟩)) ?_
        · have h33 : EV x (a.eval (.tmp 33)) w := pre 4 (by decide)
          exact wp_fn (vs := #[a.eval (.tmp 33)]) rfl Tryz.func11 (by kernel_rfl) (by kernel_rfl) (by simp only [List.map_toArray, List.map_cons, List.map_nil]) (ev_size h33 hsm (by omega) (HT1.out.kept hR).t hsiz)
        refine Each.cons rfl (EV.keeps _) (StepOk.guarded 3 32 true (g := (EV x)) rfl rfl rfl rfl (fun a w hs hR hr pre => ⟨pre 3 (by decide), ?_⟩)) ?_
        · have ep : a.eval (.tmp 1) = .pointer (some ⟨u1, 0, none⟩) := hr 1 (by decide)
          exact wp_pure (run_ldE rfl ep (XC.ofBox ((hR.block u1 HU1.out).trans HX1.out))) (EV.next (bt (Below.drew (Below.refl _ _)) hR) HE1.out)
        refine Each.cons rfl (Keeps.const _) (StepOk.guarded 3 32 true (g := (fun v _ => v = .int .i64 (cnt x))) rfl rfl rfl rfl (fun a w hs hR hr pre => ⟨pre 3 (by decide), ?_⟩)) ?_
        · have h35 : EV x (a.eval (.tmp 35)) w := pre 6 (by decide)
          exact wp_fn (vs := #[a.eval (.tmp 35)]) rfl Tryz.func14 (by kernel_rfl) (by kernel_rfl) (by simp only [List.map_toArray, List.map_cons, List.map_nil]) (rv_size h35 hsm (by omega) hsz2)
        refine Each.cons rfl (Keeps.const _) (StepOk.guarded 3 32 true (g := (fun v _ => v = .bool true)) rfl rfl rfl rfl (fun a w hs hR hr pre => ⟨pre 3 (by decide), ?_⟩)) ?_
        · have e34 : a.eval (.tmp 34) = .int .i64 (cnt x) := pre 5 (by decide)
          have e36 : a.eval (.tmp 36) = .int .i64 (cnt x) := pre 7 (by decide)
          exact wp_pure (run_eqI rfl e34 e36) (by simp)
        refine Each.cons rfl (Keeps.const _) (StepOk.plain (g := (fun v _ => v = .bool true)) rfl rfl rfl (fun a w hs hR hr pre => ?_)) ?_
        · have e32 : a.eval (.tmp 32) = .bool true := pre 3 (by decide)
          have e37 : a.eval (.tmp 37) = .bool true := pre 8 (by decide)
          exact wp_pure (run_pick rfl true e32) (by simpa using e37)
        refine Each.cons rfl (Keeps.const _) (StepOk.plain (g := (fun v _ => v = .bool true)) rfl rfl rfl (fun a w hs hR hr pre => ?_)) ?_
        · have e38 : a.eval (.tmp 38) = .bool true := pre 9 (by decide)
          exact wp_pure (run_move rfl) e38
        refine Each.cons rfl (EV.keeps _) (StepOk.guarded 10 39 true (g := (EV x)) rfl rfl rfl rfl (fun a w hs hR hr pre => ⟨pre 10 (by decide), ?_⟩)) ?_
        · have ep : a.eval (.tmp 1) = .pointer (some ⟨u1, 0, none⟩) := hr 1 (by decide)
          exact wp_pure (run_ldE rfl ep (XC.ofBox ((hR.block u1 HU1.out).trans HX1.out))) (EV.next (bt (Below.drew (Below.refl _ _)) hR) HE1.out)
        refine Each.cons rfl (Keeps.const _) (StepOk.guarded 10 39 true (g := (fun v _ => v = .int .i64 (depX x))) rfl rfl rfl rfl (fun a w hs hR hr pre => ⟨pre 10 (by decide), ?_⟩)) ?_
        · have h40 : EV x (a.eval (.tmp 40)) w := pre 11 (by decide)
          exact wp_fn (vs := #[a.eval (.tmp 40)]) rfl Tryz.func12 (by kernel_rfl) (by kernel_rfl) (by simp only [List.map_toArray, List.map_cons, List.map_nil]) (ev_depth h40 hsm (by omega) (HT1.out.kept hR).t hdep)
        refine Each.cons rfl (EV.keeps _) (StepOk.guarded 10 39 true (g := (EV x)) rfl rfl rfl rfl (fun a w hs hR hr pre => ⟨pre 10 (by decide), ?_⟩)) ?_
        · have ep : a.eval (.tmp 1) = .pointer (some ⟨u1, 0, none⟩) := hr 1 (by decide)
          exact wp_pure (run_ldE rfl ep (XC.ofBox ((hR.block u1 HU1.out).trans HX1.out))) (EV.next (bt (Below.drew (Below.refl _ _)) hR) HE1.out)
        refine Each.cons rfl (Keeps.const _) (StepOk.guarded 10 39 true (g := (fun v _ => v = .int .i64 (depX x))) rfl rfl rfl rfl (fun a w hs hR hr pre => ⟨pre 10 (by decide), ?_⟩)) ?_
        · have h42 : EV x (a.eval (.tmp 42)) w := pre 13 (by decide)
          exact wp_fn (vs := #[a.eval (.tmp 42)]) rfl Tryz.func15 (by kernel_rfl) (by kernel_rfl) (by simp only [List.map_toArray, List.map_cons, List.map_nil]) (rv_depth h42 (by omega) rfl)
        refine Each.cons rfl (Keeps.const _) (StepOk.guarded 10 39 true (g := (fun v _ => v = .bool true)) rfl rfl rfl rfl (fun a w hs hR hr pre => ⟨pre 10 (by decide), ?_⟩)) ?_
        · have e41 : a.eval (.tmp 41) = .int .i64 (depX x) := pre 12 (by decide)
          have e43 : a.eval (.tmp 43) = .int .i64 (depX x) := pre 14 (by decide)
          exact wp_pure (run_eqI rfl e41 e43) (by simp)
        refine Each.cons rfl (Keeps.const _) (StepOk.plain (g := (fun v _ => v = .bool true)) rfl rfl rfl (fun a w hs hR hr pre => ?_)) ?_
        · have e39 : a.eval (.tmp 39) = .bool true := pre 10 (by decide)
          have e44 : a.eval (.tmp 44) = .bool true := pre 15 (by decide)
          exact wp_pure (run_pick rfl true e39) (by simpa using e44)
        refine Each.cons rfl (Keeps.const _) (StepOk.plain (g := (fun v _ => v = .bool true)) rfl rfl rfl (fun a w hs hR hr pre => ?_)) ?_
        · have e45 : a.eval (.tmp 45) = .bool true := pre 16 (by decide)
          exact wp_pure (run_move rfl) e45
        refine Each.cons rfl (EV.keeps _) (StepOk.guarded 17 46 true (g := (EV x)) rfl rfl rfl rfl (fun a w hs hR hr pre => ⟨pre 17 (by decide), ?_⟩)) ?_
        · have ep : a.eval (.tmp 1) = .pointer (some ⟨u1, 0, none⟩) := hr 1 (by decide)
          exact wp_pure (run_ldE rfl ep (XC.ofBox ((hR.block u1 HU1.out).trans HX1.out))) (EV.next (bt (Below.drew (Below.refl _ _)) hR) HE1.out)
        refine Each.cons rfl (Keeps.const _) (StepOk.guarded 17 46 true (g := (fun v _ => v = .string (bstr (shwX x)))) rfl rfl rfl rfl (fun a w hs hR hr pre => ⟨pre 17 (by decide), ?_⟩)) ?_
        · have h47 : EV x (a.eval (.tmp 47)) w := pre 18 (by decide)
          exact wp_fn (vs := #[a.eval (.tmp 47)]) rfl Tryz.func13 (by kernel_rfl) (by kernel_rfl) (by simp only [List.map_toArray, List.map_cons, List.map_nil]) (ev_show h47 hsm (by omega) (HT1.out.kept hR) hsho)
        refine Each.cons rfl (EV.keeps _) (StepOk.guarded 17 46 true (g := (EV x)) rfl rfl rfl rfl (fun a w hs hR hr pre => ⟨pre 17 (by decide), ?_⟩)) ?_
        · have ep : a.eval (.tmp 1) = .pointer (some ⟨u1, 0, none⟩) := hr 1 (by decide)
          exact wp_pure (run_ldE rfl ep (XC.ofBox ((hR.block u1 HU1.out).trans HX1.out))) (EV.next (bt (Below.drew (Below.refl _ _)) hR) HE1.out)
        refine Each.cons rfl (Keeps.const _) (StepOk.guarded 17 46 true (g := (fun v _ => v = .string (bstr (shwX x)))) rfl rfl rfl rfl (fun a w hs hR hr pre => ⟨pre 17 (by decide), ?_⟩)) ?_
        · have h49 : EV x (a.eval (.tmp 49)) w := pre 20 (by decide)
          exact wp_fn (vs := #[a.eval (.tmp 49)]) rfl Tryz.func16 (by kernel_rfl) (by kernel_rfl) (by simp only [List.map_toArray, List.map_cons, List.map_nil]) (rv_show h49 hsm hc5 hfit rfl)
        refine Each.cons rfl (Keeps.const _) (StepOk.guarded 17 46 true (g := (fun v _ => v = .bool true)) rfl rfl rfl rfl (fun a w hs hR hr pre => ⟨pre 17 (by decide), ?_⟩)) ?_
        · have e48 : a.eval (.tmp 48) = .string (bstr (shwX x)) := pre 19 (by decide)
          have e50 : a.eval (.tmp 50) = .string (bstr (shwX x)) := pre 21 (by decide)
          exact wp_pure (run_eqS rfl e48 e50) (by simp)
        refine Each.cons rfl (Keeps.const _) (StepOk.plain (g := (fun v _ => v = .bool true)) rfl rfl rfl (fun a w hs hR hr pre => ?_)) ?_
        · have e46 : a.eval (.tmp 46) = .bool true := pre 17 (by decide)
          have e51 : a.eval (.tmp 51) = .bool true := pre 22 (by decide)
          exact wp_pure (run_pick rfl true e46) (by simpa using e51)
        refine Each.cons rfl (Keeps.const _) (StepOk.plain (g := (fun v _ => v = .bool true)) rfl rfl rfl (fun a w hs hR hr pre => ?_)) ?_
        · have e52 : a.eval (.tmp 52) = .bool true := pre 23 (by decide)
          exact wp_pure (run_assign rfl) e52
        exact Each.nil
      · intro v w1 hB hG
        have e24 : v 24 = .bool true := hG 24 (by decide)
        clear hG
        simp only [List.take_succ_cons, List.take_zero, puts, Act.put, List.setIfInBounds_toArray, List.set_cons_zero, List.set_cons_succ, Nat.reduceAdd, e24]
        refine wpAny_done (by kernel_rfl) ?_ _
        have HB9 := Lib.hid (bt HB1.out (bt (Below.drew (Below.refl _ _)) hB))
        clear hB
        go_wp2_with fail
        go_ret
        exact ⟨rfl, HB9.out⟩
  · have HL := Lib.hid (rv_large HE.out hl)
    go_enter Tryz.func3, Tryz.ntmps3
    go_wp2_with fail
    refine HL.out.mono ?_
    rintro e w1 ⟨_, rfl, hb, rfl⟩
    have HB1 := Lib.hid (bt HB.out hb)
    clear hb
    go_wp2_with fail
    refine (HV.out _ HB1.out).mono ?_
    rintro e w2 ⟨rfl, hb⟩
    have HB2 := Lib.hid (bt HB1.out hb)
    clear hb
    go_wp2_with fail
    go_ret
    exact ⟨rfl, HB2.out⟩
end Go.Proofs.YteckhaicodmakaaGreatDoor
