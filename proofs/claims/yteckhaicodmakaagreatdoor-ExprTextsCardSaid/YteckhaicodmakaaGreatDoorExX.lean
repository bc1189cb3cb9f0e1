/-
  The walk of ExprTexts.
-/
import Derived.Test.YteckhaicodmakaaGreatDoorExN
import Derived.Test.YteckhaicodmakaaGreatDoorExS
namespace Go.Proofs.YteckhaicodmakaaGreatDoor
open Go.RowKit Go.Shelf
attribute [local go_sem] Oper.semAt_some

mutual
theorem cnt_pln : ∀ x : Ex, cnt (plnX x) = cnt x
  | .mk h l => by rw [plnX, cnt_mk, cnt_mk, cntL_pln l]
theorem cntL_pln : ∀ l : List Ex, cntL (plnXs l) = cntL l
  | [] => by rw [plnXs]
  | x :: r => by rw [plnXs, cntL, cntL, cnt_pln x, cntL_pln r]
end
theorem ev_plain {x : Ex} {v : Value} {w : World} (h : EV x v w) (hc : cnt x ≤ 1000000) :
    Calls Tryz.prog 36 #[v] w fun e w' => ∃ u, e = .returned u ∧ Bel w w' ∧ EV (plnX x) u w' := by
  obtain ⟨hd, l⟩ := x
  obtain ⟨A, cap, rfl, hl, hx⟩ := h
  exact (plain_n 1000000 hd l hc (Nat.le_refl _) w A cap hx hl).mono fun _ _ h => EV.ofCopy h
set_option maxRecDepth 100000 in
set_option maxHeartbeats 8000000 in
theorem texts_walk (h : Hd) (l : List Ex) (A : Option Addr) (cap : Nat) (h' : Hd) (l' : List Ex) (A' : Option Addr) (cap' : Nat) (w : World) (hX : XsAt w.heap.size w l A) (hcap : l.length ≤ cap) (hX' : XsAt w.heap.size w l' A') (hcap' : l'.length ≤ cap') (hT : TbX w) :
    Calls Tryz.prog 6 #[XV h A l.length cap, XV h' A' l'.length cap'] w fun e w' => e = .returned (.bool true) ∧ Below w.heap.size w w' := by
  have hb6 := ba w (xbox h A l.length cap)
  have hb7 := ba (w.alloc (xbox h A l.length cap)) (xbox h' A' l'.length cap')
  have HXa0 := Lib.hid ((hb7.block w.heap.size (by simp)).trans (MapKept.heap_alloc w (xbox h A l.length cap)).1)
  have HXb0 := Lib.hid (show ((w.alloc (xbox h A l.length cap)).alloc (xbox h' A' l'.length cap')).heap[w.heap.size + 1]? = some (xbox h' A' l'.length cap') by
    have := (MapKept.heap_alloc (w.alloc (xbox h A l.length cap)) (xbox h' A' l'.length cap')).1
    rwa [World.size_alloc] at this)
  have HEa0 := Lib.hid (show EV (.mk h l) (XV h A l.length cap) _ from EV.next hb7 (EV.next hb6 ⟨A, cap, rfl, hcap, hX⟩))
  have HEb0 := Lib.hid (show EV (.mk h' l') (XV h' A' l'.length cap') _ from EV.next hb7 (EV.next hb6 ⟨A', cap', rfl, hcap', hX'⟩))
  have HB0 := Lib.hid (bt hb6 hb7)
  have HT := Lib.hid hT
  clear hX hX' hT hb6 hb7
  obtain ⟨a', ha'⟩ : ∃ x, Ex.mk h l = x := ⟨_, rfl⟩
  obtain ⟨b', hb'⟩ : ∃ x, Ex.mk h' l' = x := ⟨_, rfl⟩
  rw [ha'] at HEa0
  rw [hb'] at HEb0
  clear ha' hb'
  obtain ⟨⟨z0, z1, z2, z3, z4, z5, z6, z7⟩, _⟩ := cell8 HXa0.out
  have HV := Lib.hid (fun w1 (hb : Below w.heap.size w w1) => lives_yes w1 (HT.out.kept hb))
  have HL := Lib.hid (rv_large HEa0.out rfl)
  go_enter Tryz.func6, Tryz.ntmps6
  go_wp2_with fail
  refine HL.out.mono ?_
  rintro e w1 ⟨_, rfl, hb, rfl⟩
  have HB1 := Lib.hid (bt HB0.out hb)
  have HXa1 := Lib.hid ((hb.block w.heap.size (Array.getElem?_eq_some_iff.1 HXa0.out).1).trans HXa0.out)
  have HXb1 := Lib.hid ((hb.block (w.heap.size + 1) (Array.getElem?_eq_some_iff.1 HXb0.out).1).trans HXb0.out)
  have HEa1 := Lib.hid (EV.next hb HEa0.out)
  have HEb1 := Lib.hid (EV.next hb HEb0.out)
  clear hb z0 z1 z2 z3 z4 z5 z6 z7 HXa0 HXb0 HEa0 HEb0
  clear HL
  cases hla : largeB a'
  rotate_left 1
  · clear HXa1 HXb1 HEa1 HEb1
    go_wp2_with fail
    refine (HV.out _ HB1.out).mono ?_
    rintro e w9 ⟨rfl, hb⟩
    have HB9 := Lib.hid (bt HB1.out hb)
    clear hb
    go_wp2_with fail
    go_ret
    exact ⟨rfl, HB9.out⟩
  obtain ⟨hsa, hca⟩ := large_no hla
  clear hla
  obtain ⟨⟨z0, z1, z2, z3, z4, z5, z6, z7⟩, _⟩ := cell8 HXb1.out
  have HL := Lib.hid (rv_large HEb1.out rfl)
  go_wp2_with fail
  refine HL.out.mono ?_
  rintro e w2 ⟨_, rfl, hb, rfl⟩
  have HB2 := Lib.hid (bt HB1.out hb)
  have HXa2 := Lib.hid ((hb.block w.heap.size (Array.getElem?_eq_some_iff.1 HXa1.out).1).trans HXa1.out)
  have HXb2 := Lib.hid ((hb.block (w.heap.size + 1) (Array.getElem?_eq_some_iff.1 HXb1.out).1).trans HXb1.out)
  have HEa2 := Lib.hid (EV.next hb HEa1.out)
  have HEb2 := Lib.hid (EV.next hb HEb1.out)
  clear hb z0 z1 z2 z3 z4 z5 z6 z7 HXa1 HXb1 HEa1 HEb1
  clear HL
  cases hlb : largeB b'
  rotate_left 1
  · clear HXa2 HXb2 HEa2 HEb2
    go_wp2_with fail
    refine (HV.out _ HB2.out).mono ?_
    rintro e w9 ⟨rfl, hb⟩
    have HB9 := Lib.hid (bt HB2.out hb)
    clear hb
    go_wp2_with fail
    go_ret
    exact ⟨rfl, HB9.out⟩
  obtain ⟨hsb, hcb⟩ := large_no hlb
  clear hlb
  obtain ⟨⟨z0, z1, z2, z3, z4, z5, z6, z7⟩, _⟩ := cell8 HXa2.out
  have HL := Lib.hid (rv_check HEa2.out hsa (by omega) rfl)
  go_wp2_with fail
  refine HL.out.mono ?_
  rintro e w3 ⟨_, rfl, hb, rfl⟩
  have HB3 := Lib.hid (bt HB2.out hb)
  have HXa3 := Lib.hid ((hb.block w.heap.size (Array.getElem?_eq_some_iff.1 HXa2.out).1).trans HXa2.out)
  have HXb3 := Lib.hid ((hb.block (w.heap.size + 1) (Array.getElem?_eq_some_iff.1 HXb2.out).1).trans HXb2.out)
  have HEa3 := Lib.hid (EV.next hb HEa2.out)
  have HEb3 := Lib.hid (EV.next hb HEb2.out)
  clear hb z0 z1 z2 z3 z4 z5 z6 z7 HXa2 HXb2 HEa2 HEb2
  clear HL
  cases hoa : okX a'
  · clear HXa3 HXb3 HEa3 HEb3
    go_wp2_with fail
    refine (HV.out _ HB3.out).mono ?_
    rintro e w9 ⟨rfl, hb⟩
    have HB9 := Lib.hid (bt HB3.out hb)
    clear hb
    go_wp2_with fail
    go_ret
    exact ⟨rfl, HB9.out⟩
  obtain ⟨⟨z0, z1, z2, z3, z4, z5, z6, z7⟩, _⟩ := cell8 HXb3.out
  have HL := Lib.hid (rv_check HEb3.out hsb (by omega) rfl)
  go_wp2_with fail
  refine HL.out.mono ?_
  rintro e w4 ⟨_, rfl, hb, rfl⟩
  have HB4 := Lib.hid (bt HB3.out hb)
  have HXa4 := Lib.hid ((hb.block w.heap.size (Array.getElem?_eq_some_iff.1 HXa3.out).1).trans HXa3.out)
  have HXb4 := Lib.hid ((hb.block (w.heap.size + 1) (Array.getElem?_eq_some_iff.1 HXb3.out).1).trans HXb3.out)
  have HEa4 := Lib.hid (EV.next hb HEa3.out)
  have HEb4 := Lib.hid (EV.next hb HEb3.out)
  clear hb z0 z1 z2 z3 z4 z5 z6 z7 HXa3 HXb3 HEa3 HEb3
  clear HL
  cases hob : okX b'
  · clear HXa4 HXb4 HEa4 HEb4
    go_wp2_with fail
    refine (HV.out _ HB4.out).mono ?_
    rintro e w9 ⟨rfl, hb⟩
    have HB9 := Lib.hid (bt HB4.out hb)
    clear hb
    go_wp2_with fail
    go_ret
    exact ⟨rfl, HB9.out⟩
  have hsha : shoX a' = shwX a' := by rw [sho_of, hoa]; rfl
  have hshb : shoX b' = shwX b' := by rw [sho_of, hob]; rfl
  obtain ⟨hfa, _⟩ := ok_fit hoa
  obtain ⟨hfb, _⟩ := ok_fit hob
  have HT3 := Lib.hid (HT.out.kept (bt HB4.out (Below.drew (Below.refl w4.heap.size w4))))
  have HB3 := HB4
  go_upto_region 3 with fail
  obtain ⟨u3, hu3⟩ : ∃ u, w.heap.size + 1 = u := ⟨_, rfl⟩
  obtain ⟨u2, hu2⟩ : ∃ u, w.heap.size = u := ⟨_, rfl⟩
  have HX2 := HXa4
  have HX3 := HXb4
  have HE2 := HEa4
  have HE3 := HEb4
  rw [hu3] at HX3 ⊢
  rw [hu2] at HX2
  try rw [hu2]
  clear hu3 hu2 HXa4 HXb4 HEa4 HEb4
  have HU2 := Lib.hid (Array.getElem?_eq_some_iff.1 HX2.out).1
  have HU3 := Lib.hid (Array.getElem?_eq_some_iff.1 HX3.out).1
  refine wp_region_inv (n := 15) (ds := [some 22, some 23, some 24, some 25, some 26, some 27, some 28, some 29, some 30, some 31, some 32, some 33, some 34, some 35, some 4]) (need := [[], [0], [1], [1, 2], [1], [1, 3, 4], [1, 3, 5], [1], [1, 5, 7], [1], [1, 8, 9], [1, 8, 10], [1, 6, 11], [1, 12], [0, 1, 2, 3, 4, 5, 6, 7, 8, 9, 10, 11, 12, 13]]) (R := Bel) (Gs := [
      (fun v _ => v = .bool true),
      (fun v _ => v = .bool true),
      (EV a'),
      (fun v _ => v = .string (bstr (shwX a'))),
      (EV b'),
      (fun v _ => v = .string (bstr (shwX b'))),
      (fun v _ => v = .bool (sameX (plnX a') (plnX b'))),
      (EV a'),
      (EV (plnX a')),
      (EV b'),
      (EV (plnX b')),
      (fun v _ => v = .bool (sameX (plnX a') (plnX b'))),
      (fun v _ => v = .bool true),
      (fun v _ => v = .bool true),
      (fun v _ => v = .bool true)])
    (by kernel_rfl) (by kernel_rfl) (by decide) (by kernel_rfl) (by kernel_rfl) (by kernel_rfl) (fun x => Below.refl _ x) (fun _ _ _ h k => bt h k) ?_ ?_
  · refine Each.cons rfl (Keeps.const _) (StepOk.plain (g := (fun v _ => v = .bool true)) rfl rfl rfl (fun a w hs hR hr pre => ?_)) ?_
    · exact wp_fn (vs := #[]) rfl Tryz.func8 (by kernel_rfl) (by kernel_rfl) (by simp) ((lives_yes w (HT3.out.kept hR)).mono fun _ _ ⟨h1, h2⟩ => ⟨_, h1, h2, rfl⟩)
    refine Each.cons rfl (Keeps.const _) (StepOk.plain (g := (fun v _ => v = .bool true)) rfl rfl rfl (fun a w hs hR hr pre => ?_)) ?_
    · have e22 : a.eval (.tmp 22) = .bool true := pre 0 (by decide)
      exact wp_pure (run_move rfl) e22
    refine Each.cons rfl (EV.keeps _) (StepOk.guarded 1 23 true (g := (EV a')) rfl rfl rfl rfl (fun a w hs hR hr pre => ⟨pre 1 (by decide), ?_⟩)) ?_
    · have ep : a.eval (.tmp 2) = .pointer (some ⟨u2, 0, none⟩) := hr 2 (by decide)
      exact wp_pure (run_ldE rfl ep (XC.ofBox ((hR.block u2 HU2.out).trans HX2.out))) (EV.next (bt (Below.drew (Below.refl _ _)) hR) HE2.out)
    refine Each.cons rfl (Keeps.const _) (StepOk.guarded 1 23 true (g := (fun v _ => v = .string (bstr (shwX a')))) rfl rfl rfl rfl (fun a w hs hR hr pre => ⟨pre 1 (by decide), ?_⟩)) ?_
    · have h24 : EV a' (a.eval (.tmp 24)) w := pre 2 (by decide)
      exact wp_fn (vs := #[a.eval (.tmp 24)]) rfl Tryz.func13 (by kernel_rfl) (by kernel_rfl) (by simp only [List.map_toArray, List.map_cons, List.map_nil]) (ev_show h24 hsa (by omega) (HT3.out.kept hR) hsha)
    refine Each.cons rfl (EV.keeps _) (StepOk.guarded 1 23 true (g := (EV b')) rfl rfl rfl rfl (fun a w hs hR hr pre => ⟨pre 1 (by decide), ?_⟩)) ?_
    · have ep : a.eval (.tmp 3) = .pointer (some ⟨u3, 0, none⟩) := hr 3 (by decide)
      exact wp_pure (run_ldE rfl ep (XC.ofBox ((hR.block u3 HU3.out).trans HX3.out))) (EV.next (bt (Below.drew (Below.refl _ _)) hR) HE3.out)
    refine Each.cons rfl (Keeps.const _) (StepOk.guarded 1 23 true (g := (fun v _ => v = .string (bstr (shwX b')))) rfl rfl rfl rfl (fun a w hs hR hr pre => ⟨pre 1 (by decide), ?_⟩)) ?_
    · have h26 : EV b' (a.eval (.tmp 26)) w := pre 4 (by decide)
      exact wp_fn (vs := #[a.eval (.tmp 26)]) rfl Tryz.func13 (by kernel_rfl) (by kernel_rfl) (by simp only [List.map_toArray, List.map_cons, List.map_nil]) (ev_show h26 hsb (by omega) (HT3.out.kept hR) hshb)
    refine Each.cons rfl (Keeps.const _) (StepOk.guarded 1 23 true (g := (fun v _ => v = .bool (sameX (plnX a') (plnX b')))) rfl rfl rfl rfl (fun a w hs hR hr pre => ⟨pre 1 (by decide), ?_⟩)) ?_
    · have e25 : a.eval (.tmp 25) = .string (bstr (shwX a')) := pre 3 (by decide)
      have e27 : a.eval (.tmp 27) = .string (bstr (shwX b')) := pre 5 (by decide)
      exact wp_pure (run_eqS rfl e25 e27) (congrArg Value.bool (texts_plain hfa hfb))
    refine Each.cons rfl (EV.keeps _) (StepOk.guarded 1 23 true (g := (EV a')) rfl rfl rfl rfl (fun a w hs hR hr pre => ⟨pre 1 (by decide), ?_⟩)) ?_
    · have ep : a.eval (.tmp 2) = .pointer (some ⟨u2, 0, none⟩) := hr 2 (by decide)
      exact wp_pure (run_ldE rfl ep (XC.ofBox ((hR.block u2 HU2.out).trans HX2.out))) (EV.next (bt (Below.drew (Below.refl _ _)) hR) HE2.out)
    refine Each.cons rfl (EV.keeps _) (StepOk.guarded 1 23 true (g := (EV (plnX a'))) rfl rfl rfl rfl (fun a w hs hR hr pre => ⟨pre 1 (by decide), ?_⟩)) ?_
    · have h29 : EV a' (a.eval (.tmp 29)) w := pre 7 (by decide)
      exact wp_fn (vs := #[a.eval (.tmp 29)]) rfl Tryz.func36 (by kernel_rfl) (by kernel_rfl) (by simp only [List.map_toArray, List.map_cons, List.map_nil]) (ev_plain h29 (by omega))
    refine Each.cons rfl (EV.keeps _) (StepOk.guarded 1 23 true (g := (EV b')) rfl rfl rfl rfl (fun a w hs hR hr pre => ⟨pre 1 (by decide), ?_⟩)) ?_
    · have ep : a.eval (.tmp 3) = .pointer (some ⟨u3, 0, none⟩) := hr 3 (by decide)
      exact wp_pure (run_ldE rfl ep (XC.ofBox ((hR.block u3 HU3.out).trans HX3.out))) (EV.next (bt (Below.drew (Below.refl _ _)) hR) HE3.out)
    refine Each.cons rfl (EV.keeps _) (StepOk.guarded 1 23 true (g := (EV (plnX b'))) rfl rfl rfl rfl (fun a w hs hR hr pre => ⟨pre 1 (by decide), ?_⟩)) ?_
    · have h31 : EV b' (a.eval (.tmp 31)) w := pre 9 (by decide)
      exact wp_fn (vs := #[a.eval (.tmp 31)]) rfl Tryz.func36 (by kernel_rfl) (by kernel_rfl) (by simp only [List.map_toArray, List.map_cons, List.map_nil]) (ev_plain h31 (by omega))
    refine Each.cons rfl (Keeps.const _) (StepOk.guarded 1 23 true (g := (fun v _ => v = .bool (sameX (plnX a') (plnX b')))) rfl rfl rfl rfl (fun a w hs hR hr pre => ⟨pre 1 (by decide), ?_⟩)) ?_
    · have h30 : EV (plnX a') (a.eval (.tmp 30)) w := pre 8 (by decide)
      have h32 : EV (plnX b') (a.eval (.tmp 32)) w := pre 10 (by decide)
      exact wp_fn (vs := #[a.eval (.tmp 30), a.eval (.tmp 32)]) rfl Tryz.func17 (by kernel_rfl) (by kernel_rfl) (by simp only [List.map_toArray, List.map_cons, List.map_nil]) (rv_same h30 h32 (by rw [cnt_pln]; omega) (by rw [cnt_pln]; omega) rfl)
    refine Each.cons rfl (Keeps.const _) (StepOk.guarded 1 23 true (g := (fun v _ => v = .bool true)) rfl rfl rfl rfl (fun a w hs hR hr pre => ⟨pre 1 (by decide), ?_⟩)) ?_
    · have e28 : a.eval (.tmp 28) = .bool (sameX (plnX a') (plnX b')) := pre 6 (by decide)
      have e33 : a.eval (.tmp 33) = .bool (sameX (plnX a') (plnX b')) := pre 11 (by decide)
      exact wp_pure (run_eqB rfl Tryz.underlying4 e28 e33) (by simp)
    refine Each.cons rfl (Keeps.const _) (StepOk.plain (g := (fun v _ => v = .bool true)) rfl rfl rfl (fun a w hs hR hr pre => ?_)) ?_
    · have e23 : a.eval (.tmp 23) = .bool true := pre 1 (by decide)
      have e34 : a.eval (.tmp 34) = .bool true := pre 12 (by decide)
      exact wp_pure (run_pick rfl true e23) (by simpa using e34)
    refine Each.cons rfl (Keeps.const _) (StepOk.plain (g := (fun v _ => v = .bool true)) rfl rfl rfl (fun a w hs hR hr pre => ?_)) ?_
    · have e35 : a.eval (.tmp 35) = .bool true := pre 13 (by decide)
      exact wp_pure (run_assign rfl) e35
    exact Each.nil
  · intro v w1 hB hG
    have e14 : v 14 = .bool true := hG 14 (by decide)
    clear hG
    simp only [List.take_succ_cons, List.take_zero, puts, Act.put, List.setIfInBounds_toArray, List.set_cons_zero, List.set_cons_succ, Nat.reduceAdd, e14]
    refine wpAny_done (by kernel_rfl) ?_ _
    have HB9 := Lib.hid (bt HB3.out (bt (Below.drew (Below.refl _ _)) hB))
    clear hB
    go_wp2_with fail
    go_ret
    exact ⟨rfl, HB9.out⟩
end Go.Proofs.YteckhaicodmakaaGreatDoor
