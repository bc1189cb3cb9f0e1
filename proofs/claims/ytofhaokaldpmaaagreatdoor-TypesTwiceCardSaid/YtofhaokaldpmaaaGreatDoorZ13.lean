/-
  The walk of TypesMoves.
Expressions that come in, opened.
The walk of TypesMoved.
The walk of TypesFinds.
-/
import Derived.Test.YtofhaokaldpmaaaGreatDoorZ12
import Derived.Deep.Grids
import Derived.Deep.SlicePairs
import Derived.Deep.Strs
import Derived.ChangeSlices
import Derived.Lib.SmallJoins
import Derived.Deep.AppendLies
section
namespace Go.Proofs.YtofhaokaldpmaaaGreatDoor
open Go.RowKit Go.Shelf
attribute [local go_sem] Oper.semAt_some

/-- The places that an expression uses, in memory. -/
def UsV (x : Ex) (v : Value) (w : World) : Prop := ∃ A cap ys, v = .slice A ys.length cap ∧ InAt w A ys ∧ ys.Pairwise (fun a b => a < b) ∧ (∀ n, n ∈ ys ↔ n ∈ usesL x) ∧ ys.length ≤ 1000
theorem UsV.keeps (x : Ex) : Keeps Bel (UsV x) := fun _ _ _ hb ⟨A, cap, ys, e, h, h1, h2, h3⟩ => ⟨A, cap, ys, e, h.kept hb, h1, h2, h3⟩
theorem uses_len {x : Ex} {ys : List Int} (hs : ys.Pairwise (fun a b => a < b)) (hm : ∀ n, n ∈ ys ↔ n ∈ usesL x) : ys.length ≤ 1000 := by
  have hb : ∀ m ∈ ys, 0 ≤ m ∧ m < 32 := by
    intro m hmm
    have := (hm m).1 hmm
    unfold usesL at this
    split at this
    · rename_i hx
      obtain ⟨y, hy, rfl⟩ := List.mem_map.1 this
      exact (knd_at x (okX_fit hx) y hy).2
    · simp at this
  have := up_len ys 0 32 (by decide) hs hb
  omega
theorem UsV.of {x : Ex} {w w' : World} {e : Ending} (h : UsesE w x e w') : ∃ u, e = .returned u ∧ Bel w w' ∧ UsV x u w' := by
  obtain ⟨A, cap, ys, rfl, h1, h2, h3, h4⟩ := h
  exact ⟨_, rfl, h4, A, cap, ys, rfl, h1, h2, h3, uses_len h2 h3⟩
theorem rsame_us {x : Ex} {u v : Value} {w : World} (h : UsV x u w) (h' : UsV x v w) : Calls Tryz.prog 20 #[u, v] w fun e w' => ∃ z, e = .returned z ∧ Bel w w' ∧ z = .bool true := by
  obtain ⟨A, cap, ys, rfl, h1, h2, h3, h4⟩ := h
  obtain ⟨A', cap', ys', rfl, h1', h2', h3', h4'⟩ := h'
  obtain rfl := up_eq h2 h2' fun n => (h3 n).trans (h3' n).symm
  exact (rsame_any A A' ys.length cap cap' ys w rfl h1 h1' (by omega)).mono fun _ _ ⟨a, b⟩ => ⟨_, a, b, rfl⟩
set_option maxRecDepth 100000 in
set_option maxHeartbeats 8000000 in
theorem moves_walk (h : Hd) (l : List Ex) (A : Option Addr) (cap : Nat) (places : List Int) (Ap : Option Addr) (c : Nat) (w : World) (hX : XsAt w.heap.size w l A) (hcap : l.length ≤ cap) (hIn : InAt w Ap places) (hT : Tabs w) (hE : ErrT w) :
    Calls Tryz.prog 6 #[XV h A l.length cap, .slice Ap places.length c] w fun e w' => e = .returned (.bool true) ∧ Below w.heap.size w w' := by
  have hb0 := ba w (xbox h A l.length cap)
  have HBx := Lib.hid (show BxE (w.alloc (xbox h A l.length cap)) w.heap.size (.mk h l) from ⟨A, cap, (MapKept.heap_alloc w _).1, hcap, XsAt.next hX hb0⟩)
  have HM := Lib.hid ((show Lw w w from ⟨Below.refl _ _, hT, hE⟩).next hb0)
  have HLv := Lib.hid (fun W (h : Lw w W) => lives14_yes W h.T h.E)
  have HIn := Lib.hid (hIn.kept hb0)
  clear hIn
  obtain ⟨x, hx⟩ : ∃ x, Ex.mk h l = x := ⟨_, rfl⟩
  rw [hx] at HBx
  clear hX hT hE hb0 hx hcap
  go_enter Tryz.func6, Tryz.ntmps6
  go_upto_region 1 with fail
  generalize w.alloc (.cells #[.int .i64 h.k, .int .i64 h.n, .int .i64 h.vk, .int .i64 h.vn, .string h.vs, .string h.tab, .string h.col, .slice A l.length cap] 35) = W0 at HM HBx HIn ⊢
  obtain ⟨Ai, ci, hbi, hli, hsi⟩ := HBx.out
  have HVi := Lib.hid (show EV x (XV x.hd Ai x.kids.length ci) _ from ⟨Ai, ci, rfl, hli, hsi⟩)
  obtain ⟨⟨x0, x1, x2, x3, x4, x5, x6, x7⟩, _⟩ := cell8 hbi
  clear hbi hli hsi
  have HC := Lib.hid (rv_large HVi.out rfl)
  go_wp2_with fail
  refine HC.out.mono ?_
  rintro e w1 ⟨_, rfl, hb, rfl⟩
  replace HM := Lib.hid (HM.out.next hb)
  replace HBx := Lib.hid (HBx.out.kept hb)
  replace HIn := Lib.hid (HIn.out.kept hb)
  clear hb HVi HC x0 x1 x2 x3 x4 x5 x6 x7
  cases hla : largeB x
  rotate_left 1
  · go_wp2_with fail
    refine (HLv.out _ HM.out).mono ?_
    rintro e wl2 ⟨rfl, hb⟩
    have HB9 := Lib.hid (bt HM.out.bel hb)
    clear hb
    go_wp2_with fail
    go_ret
    exact ⟨rfl, HB9.out⟩
  have HSm := Lib.hid (large_no hla).1
  have HCn := Lib.hid (large_no hla).2
  clear hla
  by_cases hp : (100 : Int) < (places.length : Int)
  · go_wp2_with fail
    refine (HLv.out _ HM.out).mono ?_
    rintro e wl3 ⟨rfl, hb⟩
    have HB9 := Lib.hid (bt HM.out.bel hb)
    clear hb
    go_wp2_with fail
    go_ret
    exact ⟨rfl, HB9.out⟩
  obtain ⟨qb, hqb⟩ : ∃ q, whX (plM places) x = q := ⟨_, rfl⟩
  have hcy := whR_cnt (pl := plM places) HCn.out (by decide)
  rw [hqb] at hcy
  obtain ⟨y, hy⟩ : ∃ y, whR qb = y := ⟨_, rfl⟩
  rw [hy] at hcy
  have HCy := Lib.hid hcy
  have HQb := Lib.hid hqb
  obtain ⟨o, n⟩ := qb
  have HY := Lib.hid hy
  clear hcy hqb hy
  obtain ⟨Ai, ci, hbi, hli, hsi⟩ := HBx.out
  have HVi := Lib.hid (show EV x (XV x.hd Ai x.kids.length ci) _ from ⟨Ai, ci, rfl, hli, hsi⟩)
  obtain ⟨⟨x0, x1, x2, x3, x4, x5, x6, x7⟩, _⟩ := cell8 hbi
  clear hbi hli hsi
  have HC := Lib.hid (ev_move (c := c) HVi.out HSm.out (by have := HCn.out; omega) HM.out.T HM.out.E HIn.out HQb.out)
  go_wp2_with fail
  refine HC.out.mono ?_
  rintro e w4 ⟨u, rfl, hb, hEV⟩
  rw [HY.out] at hEV
  obtain ⟨Ay, cy, rfl, hbx⟩ := hEV.box
  have hb2 := bt hb (ba w4 (xbox y.hd Ay y.kids.length cy))
  replace HM := Lib.hid (HM.out.next hb2)
  replace HBx := Lib.hid (HBx.out.kept hb2)
  replace HIn := Lib.hid (HIn.out.kept hb2)
  have HY1 := Lib.hid hbx
  clear hb hb2 hEV hbx HVi HC x0 x1 x2 x3 x4 x5 x6 x7
  go_upto_region 4 with fail
  generalize w4.alloc (.cells #[.int .i64 y.hd.k, .int .i64 y.hd.n, .int .i64 y.hd.vk, .int .i64 y.hd.vn, .string y.hd.vs, .string y.hd.tab, .string y.hd.col, .slice Ay y.kids.length cy] 35) = W5 at HM HBx HIn HY1 ⊢
  generalize w4.heap.size = pHY1 at HY1 ⊢
  clear hp
  obtain ⟨Ai, ci, hbi, hli, hsi⟩ := HBx.out
  have HVi := Lib.hid (show EV x (XV x.hd Ai x.kids.length ci) _ from ⟨Ai, ci, rfl, hli, hsi⟩)
  obtain ⟨⟨x0, x1, x2, x3, x4, x5, x6, x7⟩, _⟩ := cell8 hbi
  clear hbi hli hsi
  have HC := Lib.hid (rv_move (c := c) HVi.out HSm.out (by have := HCn.out; omega) HIn.out HQb.out)
  go_wp2_with fail
  refine HC.out.mono ?_
  rintro e w6 ⟨u, rfl, hb, hEV⟩
  rw [HY.out] at hEV
  obtain ⟨Ay, cy, rfl, hbx⟩ := hEV.box
  have hb2 := bt hb (ba w6 (xbox y.hd Ay y.kids.length cy))
  replace HM := Lib.hid (HM.out.next hb2)
  replace HBx := Lib.hid (HBx.out.kept hb2)
  replace HIn := Lib.hid (HIn.out.kept hb2)
  replace HY1 := Lib.hid (HY1.out.kept hb2)
  have HY2 := Lib.hid hbx
  clear hb hb2 hEV hbx HVi HC x0 x1 x2 x3 x4 x5 x6 x7
  go_upto_region 5 with fail
  generalize w6.alloc (.cells #[.int .i64 y.hd.k, .int .i64 y.hd.n, .int .i64 y.hd.vk, .int .i64 y.hd.vn, .string y.hd.vs, .string y.hd.tab, .string y.hd.col, .slice Ay y.kids.length cy] 35) = W7 at HM HBx HIn HY1 HY2 ⊢
  generalize w6.heap.size = pHY2 at HY2 ⊢
  obtain ⟨A2, c2, hb2, hl2, hs2⟩ := HBx.out
  have HU2 := Lib.hid (Array.getElem?_eq_some_iff.1 hb2).1
  have HX2 := Lib.hid hb2
  have HE2 := Lib.hid (show EV x (XV x.hd A2 x.kids.length c2) W7 from ⟨A2, c2, rfl, hl2, hs2⟩)
  clear hb2 hl2 hs2
  obtain ⟨A5, c5, hb5, hl5, hs5⟩ := HY1.out
  have HU5 := Lib.hid (Array.getElem?_eq_some_iff.1 hb5).1
  have HX5 := Lib.hid hb5
  have HE5 := Lib.hid (show EV y (XV y.hd A5 y.kids.length c5) W7 from ⟨A5, c5, rfl, hl5, hs5⟩)
  clear hb5 hl5 hs5
  obtain ⟨A7, c7, hb7, hl7, hs7⟩ := HY2.out
  have HU7 := Lib.hid (Array.getElem?_eq_some_iff.1 hb7).1
  have HX7 := Lib.hid hb7
  have HE7 := Lib.hid (show EV y (XV y.hd A7 y.kids.length c7) W7 from ⟨A7, c7, rfl, hl7, hs7⟩)
  clear hb7 hl7 hs7
  obtain ⟨u2, hu2⟩ : ∃ u, w.heap.size = u := ⟨_, rfl⟩
  rw [hu2] at HX2 HU2 HBx
  try rw [hu2]
  have HU := Lib.hid hu2
  clear hu2
  refine wp_region_inv (n := 19) (ds := [some 29, some 30, some 31, some 32, some 33, some 34, some 35, some 36, some 37, some 38, some 39, some 40, some 41, some 42, some 43, some 44, some 45, some 46, some 4]) (need := [[], [0], [1], [1], [1, 2, 3], [1, 4], [1, 5], [6], [6], [6, 7, 8], [6, 9], [9, 10], [11], [11, 12], [11], [11, 13, 14], [11, 13, 15], [11, 16], [0, 1, 2, 3, 4, 5, 6, 7, 8, 9, 10, 11, 12, 13, 14, 15, 16, 17]]) (R := Bel) (Gs := [
      (fun v _ => v = .bool true),
      (fun v _ => v = .bool true),
      (fun v _ => v = .int .i64 n),
      (fun v _ => v = .int .i64 n),
      (fun v _ => v = .bool true),
      (fun v _ => v = .bool true),
      (fun v _ => v = .bool true),
      (EV y),
      (EV y),
      (fun v _ => v = .bool true),
      (fun v _ => v = .bool true),
      (fun v _ => v = .bool true),
      (EV x),
      (UsV x),
      (EV x),
      (UsV x),
      (fun v _ => v = .bool true),
      (fun v _ => v = .bool true),
      (fun v _ => v = .bool true)])
    (by kernel_rfl) (by kernel_rfl) (by decide) (by kernel_rfl) (by kernel_rfl) (by kernel_rfl) (fun x => Below.refl _ x) (fun _ _ _ h k => bt h k) ?_ ?_
  · refine Each.cons rfl (Keeps.const _) (StepOk.plain (g := (fun v _ => v = .bool true)) rfl rfl rfl (fun a w hs hR hr pre => ?_)) ?_
    · exact wp_fn (vs := #[]) rfl Tryz.func9 (by kernel_rfl) (by kernel_rfl) (by simp) ((HLv.out _ (HM.out.next (bt (Below.drew (Below.refl _ _)) hR))).mono fun _ _ ⟨h1, h2⟩ => ⟨_, h1, h2, rfl⟩)
    refine Each.cons rfl (Keeps.const _) (StepOk.plain (g := (fun v _ => v = .bool true)) rfl rfl rfl (fun a w hs hR hr pre => ?_)) ?_
    · have e29 : a.eval (.tmp 29) = .bool true := pre 0 (by decide)
      exact wp_pure (run_move rfl) e29
    refine Each.cons rfl (Keeps.const _) (StepOk.guarded 1 30 true (g := (fun v _ => v = .int .i64 n)) rfl rfl rfl rfl (fun a w hs hR hr pre => ⟨pre 1 (by decide), ?_⟩)) ?_
    · have ep : a.eval (.tmp 6) = .int .i64 n := hr 6 (by decide)
      exact wp_pure (run_move rfl) ep
    refine Each.cons rfl (Keeps.const _) (StepOk.guarded 1 30 true (g := (fun v _ => v = .int .i64 n)) rfl rfl rfl rfl (fun a w hs hR hr pre => ⟨pre 1 (by decide), ?_⟩)) ?_
    · have ep : a.eval (.tmp 8) = .int .i64 n := hr 8 (by decide)
      exact wp_pure (run_move rfl) ep
    refine Each.cons rfl (Keeps.const _) (StepOk.guarded 1 30 true (g := (fun v _ => v = .bool true)) rfl rfl rfl rfl (fun a w hs hR hr pre => ⟨pre 1 (by decide), ?_⟩)) ?_
    · have e31 : a.eval (.tmp 31) = .int .i64 n := pre 2 (by decide)
      have e32 : a.eval (.tmp 32) = .int .i64 n := pre 3 (by decide)
      exact wp_pure (run_eqI rfl e31 e32) (by simp)
    refine Each.cons rfl (Keeps.const _) (StepOk.plain (g := (fun v _ => v = .bool true)) rfl rfl rfl (fun a w hs hR hr pre => ?_)) ?_
    · have e30 : a.eval (.tmp 30) = .bool true := pre 1 (by decide)
      have e33 : a.eval (.tmp 33) = .bool true := pre 4 (by decide)
      exact wp_pure (run_pick rfl true e30) (by simpa using e33)
    refine Each.cons rfl (Keeps.const _) (StepOk.plain (g := (fun v _ => v = .bool true)) rfl rfl rfl (fun a w hs hR hr pre => ?_)) ?_
    · have e34 : a.eval (.tmp 34) = .bool true := pre 5 (by decide)
      exact wp_pure (run_move rfl) e34
    refine Each.cons rfl (EV.keeps _) (StepOk.guarded 6 35 true (g := (EV y)) rfl rfl rfl rfl (fun a w hs hR hr pre => ⟨pre 6 (by decide), ?_⟩)) ?_
    · have ep : a.eval (.tmp 5) = .pointer (some ⟨pHY1, 0, none⟩) := hr 5 (by decide)
      exact wp_pure (run_ldE rfl ep (XC.ofBox ((hR.block pHY1 HU5.out).trans HX5.out))) (EV.next (bt (Below.drew (Below.refl _ _)) hR) HE5.out)
    refine Each.cons rfl (EV.keeps _) (StepOk.guarded 6 35 true (g := (EV y)) rfl rfl rfl rfl (fun a w hs hR hr pre => ⟨pre 6 (by decide), ?_⟩)) ?_
    · have ep : a.eval (.tmp 7) = .pointer (some ⟨pHY2, 0, none⟩) := hr 7 (by decide)
      exact wp_pure (run_ldE rfl ep (XC.ofBox ((hR.block pHY2 HU7.out).trans HX7.out))) (EV.next (bt (Below.drew (Below.refl _ _)) hR) HE7.out)
    refine Each.cons rfl (Keeps.const _) (StepOk.guarded 6 35 true (g := (fun v _ => v = .bool true)) rfl rfl rfl rfl (fun a w hs hR hr pre => ⟨pre 6 (by decide), ?_⟩)) ?_
    · have h36 : EV y (a.eval (.tmp 36)) w := pre 7 (by decide)
      have h37 : EV y (a.eval (.tmp 37)) w := pre 8 (by decide)
      exact wp_fn (vs := #[a.eval (.tmp 36), a.eval (.tmp 37)]) rfl Tryz.func17 (by kernel_rfl) (by kernel_rfl) (by simp only [List.map_toArray, List.map_cons, List.map_nil]) (rv_same h36 h37 (by have := HCy.out; omega) (by have := HCy.out; omega) (same_self _))
    refine Each.cons rfl (Keeps.const _) (StepOk.plain (g := (fun v _ => v = .bool true)) rfl rfl rfl (fun a w hs hR hr pre => ?_)) ?_
    · have e35 : a.eval (.tmp 35) = .bool true := pre 6 (by decide)
      have e38 : a.eval (.tmp 38) = .bool true := pre 9 (by decide)
      exact wp_pure (run_pick rfl true e35) (by simpa using e38)
    refine Each.cons rfl (Keeps.const _) (StepOk.plain (g := (fun v _ => v = .bool true)) rfl rfl rfl (fun a w hs hR hr pre => ?_)) ?_
    · have e39 : a.eval (.tmp 39) = .bool true := pre 10 (by decide)
      exact wp_pure (run_move rfl) e39
    refine Each.cons rfl (EV.keeps _) (StepOk.guarded 11 40 true (g := (EV x)) rfl rfl rfl rfl (fun a w hs hR hr pre => ⟨pre 11 (by decide), ?_⟩)) ?_
    · have ep : a.eval (.tmp 2) = .pointer (some ⟨u2, 0, none⟩) := hr 2 (by decide)
      exact wp_pure (run_ldE rfl ep (XC.ofBox ((hR.block u2 HU2.out).trans HX2.out))) (EV.next (bt (Below.drew (Below.refl _ _)) hR) HE2.out)
    refine Each.cons rfl (UsV.keeps _) (StepOk.guarded 11 40 true (g := (UsV x)) rfl rfl rfl rfl (fun a w hs hR hr pre => ⟨pre 11 (by decide), ?_⟩)) ?_
    · have h41 : EV x (a.eval (.tmp 41)) w := pre 12 (by decide)
      exact wp_fn (vs := #[a.eval (.tmp 41)]) rfl Tryz.func21 (by kernel_rfl) (by kernel_rfl) (by simp only [List.map_toArray, List.map_cons, List.map_nil]) ((ev_uses h41 HSm.out (by have := HCn.out; omega) (HM.out.next (bt (Below.drew (Below.refl _ _)) hR)).T).mono fun _ _ h => UsV.of h)
    refine Each.cons rfl (EV.keeps _) (StepOk.guarded 11 40 true (g := (EV x)) rfl rfl rfl rfl (fun a w hs hR hr pre => ⟨pre 11 (by decide), ?_⟩)) ?_
    · have ep : a.eval (.tmp 2) = .pointer (some ⟨u2, 0, none⟩) := hr 2 (by decide)
      exact wp_pure (run_ldE rfl ep (XC.ofBox ((hR.block u2 HU2.out).trans HX2.out))) (EV.next (bt (Below.drew (Below.refl _ _)) hR) HE2.out)
    refine Each.cons rfl (UsV.keeps _) (StepOk.guarded 11 40 true (g := (UsV x)) rfl rfl rfl rfl (fun a w hs hR hr pre => ⟨pre 11 (by decide), ?_⟩)) ?_
    · have h43 : EV x (a.eval (.tmp 43)) w := pre 14 (by decide)
      exact wp_fn (vs := #[a.eval (.tmp 43)]) rfl Tryz.func22 (by kernel_rfl) (by kernel_rfl) (by simp only [List.map_toArray, List.map_cons, List.map_nil]) ((rv_uses h43 HSm.out (by have := HCn.out; omega)).mono fun _ _ h => UsV.of h)
    refine Each.cons rfl (Keeps.const _) (StepOk.guarded 11 40 true (g := (fun v _ => v = .bool true)) rfl rfl rfl rfl (fun a w hs hR hr pre => ⟨pre 11 (by decide), ?_⟩)) ?_
    · have h42 : UsV x (a.eval (.tmp 42)) w := pre 13 (by decide)
      have h44 : UsV x (a.eval (.tmp 44)) w := pre 15 (by decide)
      exact wp_fn (vs := #[a.eval (.tmp 42), a.eval (.tmp 44)]) rfl Tryz.func20 (by kernel_rfl) (by kernel_rfl) (by simp only [List.map_toArray, List.map_cons, List.map_nil]) (rsame_us h42 h44)
    refine Each.cons rfl (Keeps.const _) (StepOk.plain (g := (fun v _ => v = .bool true)) rfl rfl rfl (fun a w hs hR hr pre => ?_)) ?_
    · have e40 : a.eval (.tmp 40) = .bool true := pre 11 (by decide)
      have e45 : a.eval (.tmp 45) = .bool true := pre 16 (by decide)
      exact wp_pure (run_pick rfl true e40) (by simpa using e45)
    refine Each.cons rfl (Keeps.const _) (StepOk.plain (g := (fun v _ => v = .bool true)) rfl rfl rfl (fun a w hs hR hr pre => ?_)) ?_
    · have e46 : a.eval (.tmp 46) = .bool true := pre 17 (by decide)
      exact wp_pure (run_assign rfl) e46
    exact Each.nil
  · intro v w1 hB hG
    have e18 : v 18 = .bool true := hG 18 (by decide)
    clear hG
    simp only [List.take_succ_cons, List.take_zero, puts, Act.put, List.setIfInBounds_toArray, List.set_cons_zero, List.set_cons_succ, Nat.reduceAdd, e18]
    refine wpAny_done (by kernel_rfl) ?_ _
    have HB9 := Lib.hid (bt HM.out.bel (bt (Below.drew (Below.refl _ _)) hB))
    clear hB
    go_wp2_with fail
    go_ret
    exact ⟨rfl, HB9.out⟩
end Go.Proofs.YtofhaokaldpmaaaGreatDoor
end
section
namespace Go.Proofs.YtofhaokaldpmaaaGreatDoor
section
open Go.ChangeShapes Go.WideShapes Go.ChangeAt Go.RowKit Go.Joins Go.Deep

theorem XsB.each {B : Nat → Prop} {w : World} {g : Nat} (hg : B g) : ∀ {l : List Ex} {o : Nat}, (∀ i h l', l[i]? = some (.mk h l') → ∃ A' cap, XC w g (o + i * 8) h A' l'.length cap ∧ l'.length ≤ cap ∧ XsB B w l' A') → XsB B w l (some ⟨g, o, none⟩)
  | [], o, _ => by rw [XsB]; trivial
  | .mk h l :: r, o, H => by
    rw [XsB]
    obtain ⟨A', cap, hc, hl, hx⟩ := H 0 h l rfl
    refine ⟨g, o, rfl, hg, ⟨A', cap, by simpa using hc, hl, hx⟩, XsB.each hg fun i h' l' hi => ?_⟩
    obtain ⟨A2, cap2, hc2, hl2, hx2⟩ := H (i + 1) h' l' (by simpa using hi)
    exact ⟨A2, cap2, by rw [show o + 8 + i * 8 = o + (i + 1) * 8 by omega]; exact hc2, hl2, hx2⟩
theorem spotX {W : World} {a : Addr} {v : Value} (h : W.cell? (a.add 0) = some v) : a = ⟨a.block, a.off, none⟩ := by
  obtain ⟨b, o, s⟩ := a
  have : s = none := by simpa [Addr.add] using World.cell?_spot h
  subst this; rfl
theorem plainX (b o i : Nat) : (⟨b, o, none⟩ : Addr).add i = ⟨b, o + i, none⟩ := by unfold Addr.add; split <;> simp_all
instance : Inhabited Ex := ⟨.mk ⟨0, 0, 0, 0, ⟨#[]⟩, ⟨#[]⟩, ⟨#[]⟩⟩ []⟩
section
variable {H : Type} {enc : TypeId × Value → H}
theorem cExpr : Tryz.prog.cellsOf 35 = 8 := by kernel_rfl
theorem cExprs : Tryz.prog.cellsOf 33 = 1 := by kernel_rfl
theorem cIntX : Tryz.prog.cellsOf 3 = 1 := by kernel_rfl
theorem cStrX : Tryz.prog.cellsOf 9 = 1 := by kernel_rfl
theorem cValX : Tryz.prog.cellsOf 32 = 3 := by kernel_rfl
set_option maxRecDepth 100000 in
theorem val_cells {W : World} {fuel : Nat} {v0 v1 v2 : Value} {x : DataW H × List MemPlace} (h : DataW.trod enc Tryz.prog W 0 (fun _ => true) true fuel 32 [v0, v1, v2] = some x) :
    ∃ (k n : Int) (s : ByteArray), v0 = .int .i64 k ∧ v1 = .int .i64 n ∧ v2 = .string s := by
  obtain ⟨y0, y1, y2, n', _, _, g0, g1, g2⟩ := trod_struct3 Tryz.underlying32 h
  simp [cIntX, cStrX] at g0 g1 g2
  obtain ⟨k, q0, _, _⟩ := DataW.trod_int Tryz.underlying3 g0
  obtain ⟨n, q1, _, _⟩ := DataW.trod_int Tryz.underlying3 g1
  obtain ⟨s, q2, _⟩ := DataW.trod_string Tryz.underlying9 g2
  simp at q0 q1 q2
  exact ⟨k, n, s, q0, q1, q2⟩
def CellsEx (W : World) (cs : List Value) (h : Hd) (l : List Ex) : Prop :=
  ∃ A cap, cs = [.int .i64 h.k, .int .i64 h.n, .int .i64 h.vk, .int .i64 h.vn, .string h.vs, .string h.tab, .string h.col, .slice A l.length cap] ∧ l.length ≤ cap ∧ XsAt W.heap.size W l A
set_option maxRecDepth 100000 in
theorem ex_cells {W : World} : ∀ (fuel : Nat) (cs : List Value) (x : DataW H × List MemPlace), DataW.trod enc Tryz.prog W 0 (fun _ => true) true fuel 35 cs = some x → ∃ h l, CellsEx W cs h l := by
  intro fuel
  induction fuel using Nat.strongRecOn with
  | _ fuel ih =>
    intro cs x h
    obtain ⟨xs, n, rfl, _, hlen, hxl, hf⟩ := DataW.trod_struct Tryz.underlying35 h
    rw [cExpr] at hlen
    match cs, hlen, hf with
    | [c0, c1, c2, c3, c4, c5, c6, c7], _, hf =>
      have hget : ∀ i, i < 6 → ∃ y, xs[i]? = some y := fun i hi => ⟨_, List.getElem?_eq_getElem (by rw [hxl]; exact hi)⟩
      obtain ⟨z0, e0⟩ := hget 0 (by omega)
      obtain ⟨z1, e1⟩ := hget 1 (by omega)
      obtain ⟨z2, e2⟩ := hget 2 (by omega)
      obtain ⟨z3, e3⟩ := hget 3 (by omega)
      obtain ⟨z4, e4⟩ := hget 4 (by omega)
      obtain ⟨z5, e5⟩ := hget 5 (by omega)
      have g0 := (hf 0 _ rfl).trans e0
      have g1 := (hf 1 _ rfl).trans e1
      have g2 := (hf 2 _ rfl).trans e2
      have g3 := (hf 3 _ rfl).trans e3
      have g4 := (hf 4 _ rfl).trans e4
      have g5 := (hf 5 _ rfl).trans e5
      clear hf hget e0 e1 e2 e3 e4 e5
      simp [cIntX, cStrX, cValX, cExprs] at g0 g1 g2 g3 g4 g5
      obtain ⟨k, q0, _, _⟩ := DataW.trod_int Tryz.underlying3 g0
      obtain ⟨n0, q1, _, _⟩ := DataW.trod_int Tryz.underlying3 g1
      obtain ⟨vk, vn, vs, rfl, rfl, rfl⟩ := val_cells g2
      obtain ⟨tab, q3, _⟩ := DataW.trod_string Tryz.underlying9 g3
      obtain ⟨col, q4, _⟩ := DataW.trod_string Tryz.underlying9 g4
      simp at q0 q1 q3 q4
      subst q0 q1 q3 q4
      rcases DataW.trod_slice Tryz.underlying33 g5 with ⟨hcs, _⟩ | ⟨a, len, cap, elems, rest, n', hn', hcs, _, _, hl, hm, hel, hx, _, _⟩
      · simp at hcs
        subst hcs
        exact ⟨⟨k, n0, vk, vn, vs, tab, col⟩, [], none, 0, rfl, Nat.le_refl _, by rw [XsAt, XsB]; trivial⟩
      · simp at hcs
        subst hcs
        have each : ∀ i, i < len → ∃ e : Ex, ∃ A' cap', W.cell? (a.add (i * 8)) = some (.int .i64 e.hd.k) ∧ W.cell? (a.add (i * 8 + 1)) = some (.int .i64 e.hd.n) ∧ W.cell? (a.add (i * 8 + 2)) = some (.int .i64 e.hd.vk) ∧ W.cell? (a.add (i * 8 + 3)) = some (.int .i64 e.hd.vn) ∧
            W.cell? (a.add (i * 8 + 4)) = some (.string e.hd.vs) ∧ W.cell? (a.add (i * 8 + 5)) = some (.string e.hd.tab) ∧ W.cell? (a.add (i * 8 + 6)) = some (.string e.hd.col) ∧ W.cell? (a.add (i * 8 + 7)) = some (.slice A' e.kids.length cap') ∧ e.kids.length ≤ cap' ∧ XsAt W.heap.size W e.kids A' := by
          intro i hi
          have h1 := hx i hi
          obtain ⟨z, hz⟩ : ∃ z, elems[i]? = some z := ⟨_, List.getElem?_eq_getElem (by rw [hel]; exact hi)⟩
          rw [hz, cExpr] at h1
          obtain ⟨cs', h2, h3⟩ := Option.bind_eq_some_iff.1 h1
          obtain ⟨_, _, hcell⟩ := World.cells?_some h2
          obtain ⟨h', l', A', cap', rfl, hl', hx'⟩ := ih n' (by omega) cs' z h3
          have e0 := hcell 0 (by omega)
          have e1 := hcell 1 (by omega)
          have e2 := hcell 2 (by omega)
          have e3 := hcell 3 (by omega)
          have e4 := hcell 4 (by omega)
          have e5 := hcell 5 (by omega)
          have e6 := hcell 6 (by omega)
          have e7 := hcell 7 (by omega)
          rw [add_add] at e0 e1 e2 e3 e4 e5 e6 e7
          exact ⟨.mk h' l', A', cap', by simpa [Ex.hd] using e0, by simpa [Ex.hd] using e1, by simpa [Ex.hd] using e2, by simpa [Ex.hd] using e3, by simpa [Ex.hd] using e4, by simpa [Ex.hd] using e5, by simpa [Ex.hd] using e6, by simpa [Ex.kids] using e7, hl', hx'⟩
        obtain ⟨f, hf⟩ := choose_lt each
        refine ⟨⟨k, n0, vk, vn, vs, tab, col⟩, (List.range len).map f, some a, cap, by simp, by simpa using hl, ?_⟩
        rcases Nat.eq_zero_or_pos len with h0 | h0
        · subst h0
          rw [List.range_zero, List.map_nil, XsAt, XsB]; trivial
        · obtain ⟨A0, cap0, hc0, _⟩ := hf 0 h0
          have ha := spotX (by simpa using hc0)
          have hlt := World.block_lt_of_cell? W _ hc0
          generalize a.block = b at ha
          generalize a.off = o at ha
          subst ha
          rw [plainX] at hlt
          refine XsB.each (B := fun k => k < W.heap.size) hlt fun i h' l' hi => ?_
          rw [List.getElem?_map] at hi
          obtain ⟨j, hj, hje⟩ := Option.map_eq_some_iff.1 hi
          obtain ⟨hjl, hjj⟩ := List.getElem?_eq_some_iff.1 hj
          simp at hjj hjl
          subst hjj
          obtain ⟨A', cap', q0, q1, q2, q3, q4, q5, q6, q7, hl', hx'⟩ := hf i hjl
          rw [hje] at q0 q1 q2 q3 q4 q5 q6 q7 hl' hx'
          simp only [plainX, ← Nat.add_assoc] at q0 q1 q2 q3 q4 q5 q6 q7
          exact ⟨A', cap', ⟨q0, q1, q2, q3, q4, q5, q6, q7⟩, hl', hx'⟩
theorem array8 {α : Type} {a : Array α} (h : a.size = 8) : ∃ c0 c1 c2 c3 c4 c5 c6 c7, a = #[c0, c1, c2, c3, c4, c5, c6, c7] := by
  obtain ⟨l⟩ := a
  match l, h with
  | [c0, c1, c2, c3, c4, c5, c6, c7], _ => exact ⟨c0, c1, c2, c3, c4, c5, c6, c7, rfl⟩
set_option maxRecDepth 100000 in
theorem open_ex {W : World} {base : Nat} {v : Value} {d : DataW H} {p : List MemPlace} (hval : Value.okWide Tryz.prog W .any base 35 v) (h : DataW.Trod enc Tryz.prog W 0 (fun _ => true) true 35 v d p) :
    ∃ h l A cap, v = XV h A l.length cap ∧ l.length ≤ cap ∧ XsAt W.heap.size W l A := by
  obtain ⟨cs, rfl, hsz⟩ := okWide_struct Tryz.underlying35 hval
  obtain ⟨c0, c1, c2, c3, c4, c5, c6, c7, rfl⟩ := array8 (hsz.trans cExpr)
  obtain ⟨fuel, hf⟩ := h
  obtain ⟨h, l, A, cap, e, hl, hx⟩ := ex_cells fuel _ _ (by simpa [Value.cells] using hf)
  simp only [List.cons.injEq, and_true] at e
  obtain ⟨rfl, rfl, rfl, rfl, rfl, rfl, rfl, rfl⟩ := e
  exact ⟨h, l, A, cap, rfl, hl, hx⟩
set_option maxRecDepth 100000 in
theorem exs_cells {W : World} {fuel : Nat} {cs : List Value} {x : DataW H × List MemPlace} (h : DataW.trod enc Tryz.prog W 0 (fun _ => true) true fuel 33 cs = some x) :
    ∃ (l : List Ex) (A : Option Addr) (cap : Nat), cs = [.slice A l.length cap] ∧ l.length ≤ cap ∧ cap ≤ maxLen ∧ XsAt W.heap.size W l A := by
  rcases DataW.trod_slice Tryz.underlying33 h with ⟨hcs, _⟩ | ⟨a, len, cap, elems, rest, n', hn', hcs, _, _, hl, hm, hel, hx, _, _⟩
  · exact ⟨[], none, 0, hcs, Nat.le_refl _, Nat.zero_le _, by rw [XsAt, XsB]; trivial⟩
  · have each : ∀ i, i < len → ∃ e : Ex, ∃ A' cap', W.cell? (a.add (i * 8)) = some (.int .i64 e.hd.k) ∧ W.cell? (a.add (i * 8 + 1)) = some (.int .i64 e.hd.n) ∧ W.cell? (a.add (i * 8 + 2)) = some (.int .i64 e.hd.vk) ∧ W.cell? (a.add (i * 8 + 3)) = some (.int .i64 e.hd.vn) ∧
        W.cell? (a.add (i * 8 + 4)) = some (.string e.hd.vs) ∧ W.cell? (a.add (i * 8 + 5)) = some (.string e.hd.tab) ∧ W.cell? (a.add (i * 8 + 6)) = some (.string e.hd.col) ∧ W.cell? (a.add (i * 8 + 7)) = some (.slice A' e.kids.length cap') ∧ e.kids.length ≤ cap' ∧ XsAt W.heap.size W e.kids A' := by
      intro i hi
      have h1 := hx i hi
      obtain ⟨z, hz⟩ : ∃ z, elems[i]? = some z := ⟨_, List.getElem?_eq_getElem (by rw [hel]; exact hi)⟩
      rw [hz, cExpr] at h1
      obtain ⟨cs', h2, h3⟩ := Option.bind_eq_some_iff.1 h1
      obtain ⟨_, _, hcell⟩ := World.cells?_some h2
      obtain ⟨h', l', A', cap', rfl, hl', hx'⟩ := ex_cells n' cs' z h3
      have e0 := hcell 0 (by omega)
      have e1 := hcell 1 (by omega)
      have e2 := hcell 2 (by omega)
      have e3 := hcell 3 (by omega)
      have e4 := hcell 4 (by omega)
      have e5 := hcell 5 (by omega)
      have e6 := hcell 6 (by omega)
      have e7 := hcell 7 (by omega)
      rw [add_add] at e0 e1 e2 e3 e4 e5 e6 e7
      exact ⟨.mk h' l', A', cap', by simpa [Ex.hd] using e0, by simpa [Ex.hd] using e1, by simpa [Ex.hd] using e2, by simpa [Ex.hd] using e3, by simpa [Ex.hd] using e4, by simpa [Ex.hd] using e5, by simpa [Ex.hd] using e6, by simpa [Ex.kids] using e7, hl', hx'⟩
    obtain ⟨f, hf⟩ := choose_lt each
    refine ⟨(List.range len).map f, some a, cap, by simpa using hcs, by simpa using hl, hm, ?_⟩
    rcases Nat.eq_zero_or_pos len with h0 | h0
    · subst h0
      rw [List.range_zero, List.map_nil, XsAt, XsB]; trivial
    · obtain ⟨A0, cap0, hc0, _⟩ := hf 0 h0
      have ha := spotX (by simpa using hc0)
      have hlt := World.block_lt_of_cell? W _ hc0
      generalize a.block = b at ha
      generalize a.off = o at ha
      subst ha
      rw [plainX] at hlt
      refine XsB.each (B := fun k => k < W.heap.size) hlt fun i h' l' hi => ?_
      rw [List.getElem?_map] at hi
      obtain ⟨j, hj, hje⟩ := Option.map_eq_some_iff.1 hi
      obtain ⟨hjl, hjj⟩ := List.getElem?_eq_some_iff.1 hj
      simp at hjj hjl
      subst hjj
      obtain ⟨A', cap', q0, q1, q2, q3, q4, q5, q6, q7, hl', hx'⟩ := hf i hjl
      rw [hje] at q0 q1 q2 q3 q4 q5 q6 q7 hl' hx'
      simp only [plainX, ← Nat.add_assoc] at q0 q1 q2 q3 q4 q5 q6 q7
      exact ⟨A', cap', ⟨q0, q1, q2, q3, q4, q5, q6, q7⟩, hl', hx'⟩
set_option maxRecDepth 100000 in
theorem open_exs {W : World} {base : Nat} {v : Value} {d : DataW H} {p : List MemPlace} (hval : Value.okWide Tryz.prog W .any base 33 v) (h : DataW.Trod enc Tryz.prog W 0 (fun _ => true) true 33 v d p) :
    ∃ (l : List Ex) (A : Option Addr) (cap : Nat), v = .slice A l.length cap ∧ l.length ≤ cap ∧ cap ≤ maxLen ∧ XsAt W.heap.size W l A := by
  obtain ⟨a, len, cap, rfl⟩ := okWide_slice Tryz.underlying33 hval
  obtain ⟨fuel, hf⟩ := h
  obtain ⟨l, A, c, e, rest⟩ := exs_cells hf
  refine ⟨l, A, c, ?_, rest⟩
  simpa [Value.cells] using e
end
end
end Go.Proofs.YtofhaokaldpmaaaGreatDoor
end
section
namespace Go.Proofs.YtofhaokaldpmaaaGreatDoor
open Go.RowKit Go.Shelf
attribute [local go_sem] Oper.semAt_some

abbrev zCo : Co := ⟨⟨#[]⟩, ⟨#[]⟩, 0⟩
/-- Columns, cell by cell. -/
def coC (l : List Co) : List Value := l.flatMap fun c => [.string c.tab, .string c.nm, .int .i64 c.ty]
theorem coC_len (l : List Co) : (coC l).length = l.length * 3 := by
  induction l with
  | nil => rfl
  | cons c r ih => simp only [coC, List.flatMap_cons, List.length_append] at ih ⊢; simp [ih]; omega
theorem coC_app (a b : List Co) : coC (a ++ b) = coC a ++ coC b := by simp [coC]
theorem coC_get : ∀ (l : List Co) (i : Nat) (c : Co), l[i]? = some c → (coC l)[i * 3]? = some (.string c.tab) ∧ (coC l)[i * 3 + 1]? = some (.string c.nm) ∧ (coC l)[i * 3 + 2]? = some (.int .i64 c.ty)
  | [], _, _, h => by simp at h
  | x :: r, 0, c, h => by
    obtain rfl : x = c := by simpa using h
    exact ⟨rfl, rfl, rfl⟩
  | x :: r, i + 1, c, h => by
    have ih := coC_get r i c (by simpa using h)
    have e : coC (x :: r) = [.string x.tab, .string x.nm, .int .i64 x.ty] ++ coC r := rfl
    have sh : ∀ j, (coC (x :: r))[(i + 1) * 3 + j]? = (coC r)[i * 3 + j]? := fun j => by
      rw [e, List.getElem?_append_right (by simp; omega)]
      congr 1
      simp only [List.length_cons, List.length_nil]; omega
    exact ⟨(sh 0).trans ih.1, (sh 1).trans ih.2.1, (sh 2).trans ih.2.2⟩
theorem coC_one {l : List Co} {u : Value} (h : u ∈ coC l) : u.oneCell' = true := by
  obtain ⟨c, _, hu⟩ := List.mem_flatMap.1 h
  simp only [List.mem_cons, List.not_mem_nil, or_false] at hu
  rcases hu with rfl | rfl | rfl <;> rfl
theorem made_cos (n : Nat) : madeCells #[.string ⟨#[]⟩, .string ⟨#[]⟩, .int .i64 0] (n * 3) = (coC (List.replicate n zCo)).toArray := by
  apply Array.ext'
  apply List.ext_getElem?
  intro o
  by_cases ho : o < n * 3
  · obtain ⟨a, b, c⟩ := coC_get (List.replicate n zCo) (o / 3) zCo (by rw [List.getElem?_replicate, if_pos (by omega)])
    have e1 : (madeCells #[.string ⟨#[]⟩, .string ⟨#[]⟩, .int .i64 0] (n * 3)).toList[o]? = some (#[Value.string ⟨#[]⟩, Value.string ⟨#[]⟩, Value.int .i64 0][o % 3]!) := by
      simp [madeCells, ho]
    rw [e1]
    show _ = (coC _)[o]?
    have hm : o % 3 = 0 ∨ o % 3 = 1 ∨ o % 3 = 2 := by omega
    rcases hm with hm | hm | hm
    · rw [hm, show o = o / 3 * 3 by omega, a]; rfl
    · rw [hm, show o = o / 3 * 3 + 1 by omega, b]; rfl
    · rw [hm, show o = o / 3 * 3 + 2 by omega, c]; rfl
  · rw [List.getElem?_eq_none (by simp [size_madeCells]; omega), List.getElem?_eq_none]
    show (coC _).length ≤ o
    rw [coC_len]; simp; omega
theorem info_colT : (Tryz.prog.info? 57).map (fun i => (i.zero, i.size, i.bytes)) = some (some (.agg #[.string ⟨#[]⟩, .string ⟨#[]⟩, .int .i64 0]), 3, 40) := by kernel_rfl
theorem make_cos (n : Nat) (hn : n ≤ 64) (w : World) : (Instr.makeSlice 22 (.int .i64 n) (.int .i64 n)).run Tryz.prog w =
    .ok (.slice (some ⟨w.heap.size, 0, none⟩) n n) (w.alloc (.cells (coC (List.replicate n zCo)).toArray 57)) := by
  obtain ⟨i0, hi, hz0, hz1, hz2⟩ := info_parts info_colT
  have h := run_make (P := Tryz.prog) w 22 57 i0 _ Tryz.underlying22 hi hz0 .i64 .i64 n n (by omega) (Int.le_refl _) (by rw [hz2]; omega) (by omega)
  rw [hz1] at h
  simp only [Int.toNat_natCast] at h
  have e : madeCells (Value.agg #[.string ⟨#[]⟩, .string ⟨#[]⟩, .int .i64 0]).cells (n * 3) = (coC (List.replicate n zCo)).toArray := made_cos n
  rw [e] at h
  exact h
/-- Columns of the call's own. -/
def CoOwn (W : World) (base : Nat) (v : Value) (l : List Co) : Prop := W.ownsRow base 57 3 v l.length (coC l)
theorem CoOwn.kept {W W' : World} {base : Nat} {v : Value} {l : List Co} (h : CoOwn W base v l) (hb : Bel W W') : CoOwn W' base v l :=
  ⟨h.1, by
    rcases h.2 with hn | ⟨g, cap, cur, hv, hb1, hg, hc, hm, hsz, ht⟩
    · exact .inl hn
    · exact .inr ⟨g, cap, cur, hv, hb1, (hb.block g (Array.getElem?_eq_some_iff.1 hg).1).trans hg, hc, hm, hsz, ht⟩⟩
theorem CoOwn.at {W : World} {base : Nat} {v : Value} {l : List Co} (h : CoOwn W base v l) : ∃ A cap, v = .slice A l.length cap ∧ l.length ≤ cap ∧ cap ≤ 9223372036854775807 ∧ CoAt W A l := by
  rcases h.2 with ⟨rfl, h0⟩ | ⟨g, cap, cur, hv, hb1, hg, hc, hm, hsz, ht⟩
  · obtain rfl : l = [] := List.eq_nil_of_length_eq_zero h0
    exact ⟨none, 0, rfl, Nat.le_refl _, by decide, .inl rfl⟩
  · refine ⟨_, cap, hv, hc, by unfold maxLen at hm; omega, .inr ⟨g, 0, rfl, (Array.getElem?_eq_some_iff.1 hg).1, fun i u hu => ?_⟩⟩
    have hi := (List.getElem?_eq_some_iff.1 hu).1
    have cell : ∀ j x, j < l.length * 3 → (coC l)[j]? = some x → W.cell? ⟨g, j, none⟩ = some x := fun j x hj hx => by
      simp only [World.cell?, hg]
      rw [← Array.getElem?_toList, ← hx, ← ht, List.getElem?_take_of_lt hj]
      simp
    obtain ⟨a, b, c⟩ := coC_get l i u hu
    rw [Nat.zero_add]
    exact ⟨cell _ _ (by omega) a, cell _ _ (by omega) b, cell _ _ (by omega) c⟩
theorem CoOwn.made (W : World) (n : Nat) (hn : n ≤ 64) : CoOwn (W.alloc (.cells (coC (List.replicate n zCo)).toArray 57)) W.heap.size (.slice (some ⟨W.heap.size, 0, none⟩) n n) (List.replicate n zCo) := by
  refine ⟨coC_len _, .inr ⟨W.heap.size, n, _, by rw [List.length_replicate], Nat.le_refl _, (MapKept.heap_alloc W _).1, by rw [List.length_replicate]; exact Nat.le_refl _, by unfold maxLen; omega, ?_, ?_⟩⟩
  · rw [List.size_toArray, coC_len, List.length_replicate]
  · rw [List.take_of_length_le (by rw [coC_len]; exact Nat.le_refl _)]
theorem InAt.grown {W W' : World} {base : Nat} {v : Value} {xs : List Int} {row : Option Nat} (h : W.ownsRow base 3 1 v xs.length (xs.map (Value.int .i64))) (hg : W.grownBy W' row) (hr : ∀ k, row = some k → k < base) : ∃ A cap, v = .slice A xs.length cap ∧ InAt W' A xs := by
  obtain ⟨A, cap, e, _, _⟩ := inAt_own (W := W') (base := base) (v := v) (xs := xs) ⟨h.1, by
    rcases h.2 with hn | ⟨g, cap, cur, hv, hb1, hgg, hc, hm, hsz, ht⟩
    · exact .inl hn
    · exact .inr ⟨g, cap, cur, hv, hb1, (hg.block g (Array.getElem?_eq_some_iff.1 hgg).1 (fun e => by have := hr g e.symm; omega)).trans hgg, hc, hm, hsz, ht⟩⟩
  exact ⟨A, cap, e, by assumption⟩
theorem CoAt.news {W : World} {ad : Addr} {l : List Co} (h : CoAt W (some ad) l) (j : Nat) (u : Value) (hj : (coC l)[j]? = some u) : W.cell? (ad.add j) = some u := by
  rcases h with rfl | ⟨b, off, e, _, hc⟩
  · simp [coC] at hj
  · obtain rfl := Option.some.inj e
    have hjl : j < l.length * 3 := by rw [← coC_len]; exact (List.getElem?_eq_some_iff.1 hj).1
    obtain ⟨c, hcx⟩ : ∃ c, l[j / 3]? = some c := ⟨_, List.getElem?_eq_getElem (by omega)⟩
    obtain ⟨a, b', c'⟩ := coC_get l (j / 3) c hcx
    obtain ⟨d0, d1, d2⟩ := hc (j / 3) c hcx
    rw [plainX]
    have hm : j % 3 = 0 ∨ j % 3 = 1 ∨ j % 3 = 2 := by omega
    rcases hm with hm | hm | hm
    · rw [show j = j / 3 * 3 by omega] at hj ⊢
      rw [a] at hj; obtain rfl := Option.some.inj hj
      exact d0
    · rw [show j = j / 3 * 3 + 1 by omega] at hj ⊢
      rw [b'] at hj; obtain rfl := Option.some.inj hj
      rw [← Nat.add_assoc]; exact d1
    · rw [show j = j / 3 * 3 + 2 by omega] at hj ⊢
      rw [c'] at hj; obtain rfl := Option.some.inj hj
      rw [← Nat.add_assoc]; exact d2
set_option maxRecDepth 100000 in
set_option maxHeartbeats 8000000 in
theorem moved_walk (h : Hd) (l : List Ex) (A : Option Addr) (cap : Nat) (cols : List Co) (Ac : Option Addr) (c : Nat) (by_ : Int) (w : World) (hX : XsAt w.heap.size w l A) (hcap : l.length ≤ cap) (hCo : CoAt w Ac cols) (hlc : cols.length ≤ c) (hc : c ≤ 9223372036854775807) (hnc : Ac = none → c = 0) (hT : Tabs w) (hE : ErrT w) :
    Calls Tryz.prog 7 #[XV h A l.length cap, .slice Ac cols.length c, .int .i64 by_] w fun e w' => e = .returned (.bool true) ∧ Below w.heap.size w w' := by
  have hb0 := ba w (xbox h A l.length cap)
  have HBx := Lib.hid (show BxE (w.alloc (xbox h A l.length cap)) w.heap.size (.mk h l) from ⟨A, cap, (MapKept.heap_alloc w _).1, hcap, XsAt.next hX hb0⟩)
  have HM := Lib.hid ((show Lw w w from ⟨Below.refl _ _, hT, hE⟩).next hb0)
  have HLv := Lib.hid (fun W (h : Lw w W) => lives14_yes W h.T h.E)
  have HT0 := Lib.hid hT
  have HE0 := Lib.hid hE
  have HCo := Lib.hid (hCo.kept hb0)
  have HLc := Lib.hid hlc
  have HCc := Lib.hid hc
  obtain ⟨q, hq⟩ : ∃ q, decide (60 < cols.length) = q := ⟨_, rfl⟩
  have HLa := Lib.hid (fun W => large14_any Ac cols.length c W hq)
  have HQ0 := Lib.hid hq
  clear hCo hlc hc hq
  obtain ⟨i0, hi, hz0, hz1, hz2⟩ := info_parts info_colT
  obtain ⟨i1, hi1, hy0, hy1, hy2⟩ := info_parts info_intT
  obtain ⟨x, hx⟩ : ∃ x, Ex.mk h l = x := ⟨_, rfl⟩
  rw [hx] at HBx
  clear hX hT hE hb0 hx hcap
  go_enter Tryz.func7, Tryz.ntmps7
  go_upto_region 1 with fail
  generalize w.alloc (.cells #[.int .i64 h.k, .int .i64 h.n, .int .i64 h.vk, .int .i64 h.vn, .string h.vs, .string h.tab, .string h.col, .slice A l.length cap] 35) = W0 at HM HBx HCo ⊢
  go_wp2_with fail
  refine (HLa.out _).mono ?_
  rintro e w1 ⟨rfl, rfl⟩
  cases q
  rotate_left 1
  · go_wp2_with fail
    refine (HLv.out _ HM.out).mono ?_
    rintro e wl1 ⟨rfl, hb⟩
    have HB9 := Lib.hid (bt HM.out.bel hb)
    clear hb
    go_wp2_with fail
    go_ret
    exact ⟨rfl, HB9.out⟩
  obtain ⟨Ai, ci, hbi, hli, hsi⟩ := HBx.out
  have HVi := Lib.hid (show EV x (XV x.hd Ai x.kids.length ci) _ from ⟨Ai, ci, rfl, hli, hsi⟩)
  obtain ⟨⟨x0, x1, x2, x3, x4, x5, x6, x7⟩, _⟩ := cell8 hbi
  clear hbi hli hsi
  have HC := Lib.hid (rv_large HVi.out rfl)
  go_wp2_with fail
  refine HC.out.mono ?_
  rintro e w2 ⟨_, rfl, hb, rfl⟩
  replace HM := Lib.hid (HM.out.next hb)
  replace HBx := Lib.hid (HBx.out.kept hb)
  replace HCo := Lib.hid (HCo.out.kept hb)
  clear hb HVi HC x0 x1 x2 x3 x4 x5 x6 x7
  cases hla : largeB x
  rotate_left 1
  · go_wp2_with fail
    refine (HLv.out _ HM.out).mono ?_
    rintro e wl3 ⟨rfl, hb⟩
    have HB9 := Lib.hid (bt HM.out.bel hb)
    clear hb
    go_wp2_with fail
    go_ret
    exact ⟨rfl, HB9.out⟩
  have HSm := Lib.hid (large_no hla).1
  have HCn := Lib.hid (large_no hla).2
  clear hla
  by_cases hneg : by_ < 0
  · go_wp2_with fail
    refine (HLv.out _ HM.out).mono ?_
    rintro e wl4 ⟨rfl, hb⟩
    have HB9 := Lib.hid (bt HM.out.bel hb)
    clear hb
    go_wp2_with fail
    go_ret
    exact ⟨rfl, HB9.out⟩
  by_cases hbig : 20 < by_
  · go_wp2_with fail
    refine (HLv.out _ HM.out).mono ?_
    rintro e wl5 ⟨rfl, hb⟩
    have HB9 := Lib.hid (bt HM.out.bel hb)
    clear hb
    go_wp2_with fail
    go_ret
    exact ⟨rfl, HB9.out⟩
  obtain ⟨k, rfl⟩ : ∃ k : Nat, by_ = (k : Int) := ⟨by_.toNat, by omega⟩
  have hk : k ≤ 20 := by omega
  have hcl : cols.length ≤ 60 := by have := of_decide_eq_false HQ0.out; omega
  have HK := Lib.hid hk
  have HCl := Lib.hid hcl
  have hmk := make_cos k (by omega)
  have hn0 : ¬ (k : Int) < 0 := by omega
  clear hcl
  obtain ⟨W1, hW1⟩ : ∃ W : World, W = w2 := ⟨_, rfl⟩
  have HMo := Lib.hid (CoOwn.made w2 k (by omega))
  have HMb := Lib.hid (ba w2 (.cells (coC (List.replicate k zCo)).toArray 57))
  go_upto_region 5 with fail
  generalize w2.alloc (.cells (coC (List.replicate k zCo)).toArray 57) = W2 at HMo HMb ⊢
  obtain ⟨pm, hpm⟩ : ∃ p, w2.heap.size = p := ⟨_, rfl⟩
  rw [hpm] at HMo HMb ⊢
  have HPm := Lib.hid hpm
  clear hpm hmk
  go_wp2_with fail
  go_loopw [9, 7] (fun i v W => ∃ j : Nat, j ≤ cols.length ∧ i = .int .i64 j ∧ Hid (Iown W2 W v (plcs k j))) (fun i _ _ => cols.length - (intOf i).toNat)
  case atStart => exact ⟨0, Nat.zero_le _, rfl, Lib.hid ⟨World.ownsRow_nil _ _ _ _, Below.refl _ _⟩⟩
  case round =>
    obtain ⟨j, hjl, rfl, HW⟩ := hrel
    by_cases hlt : j < cols.length
    · have hjI : (j : Int) < (cols.length : Int) := by omega
      have hcl := HCl.out
      have hwr : IntKind.i64.wrap ((j : Int) + (k : Int)) = (j : Int) + (k : Int) := by rw [IntKind.wrap_i64]; omega
      go_wp2_with (at_builtin; refine wpList_append_own _ rfl _ _ 42 rfl W2.heap.size 3 i1 (.int .i64 0) 1 8 Tryz.underlying42 hi1 hy0 hy1 hy2 rfl (by decide) _ _ _ rfl (HW.out.own.alloc _) ⟨wr.heap.size, 0, none⟩ 1 1 [.int .i64 ((j : Int) + (k : Int))] rfl rfl ?c1 ?c2 ?c3 ?c4 ?c5 ?_)
      case c1 =>
        intro j u hj
        match j, hj with
        | 0, hj => simp at hj; subst hj; simp [Addr.add]
      case c2 => intro u hu; simp at hu; subst hu; rfl
      case c3 => have := HCl.out; have := plcs_len k j; unfold maxLen; omega
      case c4 => have := HCl.out; have := plcs_len k j; omega
      case c5 => have := HW.out.bel.size; simp; omega
      intro v' w5 hown' hg5 _
      have H5 := Lib.hid (show Iown W2 w5 v' (plcs k (j + 1)) from ⟨by rw [← plcs_app, List.length_append, List.map_append]; exact hown', (bt HW.out.bel (ba wr _)).grown hg5 (by have := HW.out.bel.size; simp; omega) (fun k hk => (HW.out.own.lt k hk).1)⟩)
      clear hown' hg5
      go_wp2_with fail
      go_roundw
      case rel => exact ⟨j + 1, by omega, by go_num, H5⟩
      case measure => simp [intOf]; omega
    · obtain rfl : j = cols.length := by omega
      clear hlt hjl
      have hbW := HMb.out.trans (HW.out.bel.mono (by have := HMb.out.size; have := (HMo.out.lt pm rfl).2; omega))
      have HM2 := Lib.hid (fun kk (e : (Value.slice (some ⟨pm, 0, none⟩) k k).ownBlock = some kk) => (HMo.out.lt kk e).2)
      replace HMo := Lib.hid (HMo.out.kept (W' := wr) HW.out.bel)
      obtain ⟨vm, hvm⟩ : ∃ v, Value.slice (some ⟨pm, 0, none⟩) k k = v := ⟨_, rfl⟩
      rw [hvm] at HMo HM2 ⊢
      have HWb := Lib.hid hbW
      clear hbW hvm
      have HC9 := Lib.hid (show CoAt wr Ac cols by have hb := HWb.out; rw [← HPm.out] at hb; exact HCo.out.kept hb)
      go_upto_region 9 with fail
      cases Ac with
      | none =>
        have hnil : cols = [] := (HCo.out).elim id (fun ⟨_, _, e, _⟩ => by cases e)
        subst hnil
        obtain rfl : c = 0 := hnc rfl
        obtain ⟨Ap, cp, rfl, _, hin⟩ := inAt_own HW.out.own
        go_upto_region 10 with (at_builtin; refine wpList_append_own_none rfl _ _ 22 rfl pm 57 i0 3 Tryz.underlying22 hi _ _ _ rfl HMo.out rfl ?_)
        have HMr := Lib.hid (show CoOwn wr pm vm (List.replicate k zCo ++ []) by rw [List.append_nil]; exact HMo.out)
        have HIn := Lib.hid hin
        have hb5 := HWb.out
        rw [← HPm.out] at hb5
        replace HM := Lib.hid (HM.out.next hb5)
        replace HBx := Lib.hid (HBx.out.kept hb5)
        replace HCo := Lib.hid (HCo.out.kept hb5)
        clear hb5 hin
        obtain ⟨more, hmore⟩ : ∃ m, List.replicate k zCo ++ ([] : List Co) = m := ⟨_, rfl⟩
        rw [hmore] at HMr
        have HMm := Lib.hid hmore
        clear hmore
        obtain ⟨Am, cm, rfl, hml, hmc, hCm⟩ := HMr.out.at
        have HCm := Lib.hid hCm
        clear hml hmc hCm HMr HC9 HWb HM2 HMo HW HMb
        obtain ⟨qb, hqb⟩ : ∃ q, whX (plM (plcs k ([] : List Co).length)) x = q := ⟨_, rfl⟩
        have hcy := whR_cnt (pl := plM (plcs k ([] : List Co).length)) HCn.out (by decide)
        rw [hqb] at hcy
        obtain ⟨y, hy⟩ : ∃ y, whR qb = y := ⟨_, rfl⟩
        rw [hy] at hcy
        have HCy := Lib.hid hcy
        have HQb := Lib.hid hqb
        obtain ⟨o, n⟩ := qb
        have HY := Lib.hid hy
        clear hcy hqb hy
        obtain ⟨Ai, ci, hbi, hli, hsi⟩ := HBx.out
        have HVi := Lib.hid (show EV x (XV x.hd Ai x.kids.length ci) _ from ⟨Ai, ci, rfl, hli, hsi⟩)
        obtain ⟨⟨x0, x1, x2, x3, x4, x5, x6, x7⟩, _⟩ := cell8 hbi
        clear hbi hli hsi
        have HC := Lib.hid (ev_move (c := cp) HVi.out HSm.out (by have := HCn.out; omega) HM.out.T HM.out.E HIn.out HQb.out)
        go_wp2_with fail
        refine HC.out.mono ?_
        rintro e w6 ⟨u, rfl, hb, hEV⟩
        rw [HY.out] at hEV
        obtain ⟨Ay, cy, rfl, hbx⟩ := hEV.box
        have hb2 := bt hb (ba w6 (xbox y.hd Ay y.kids.length cy))
        replace HM := Lib.hid (HM.out.next hb2)
        replace HBx := Lib.hid (HBx.out.kept hb2)
        replace HCo := Lib.hid (HCo.out.kept hb2)
        replace HIn := Lib.hid (HIn.out.kept hb2)
        replace HCm := Lib.hid (HCm.out.kept hb2)
        have HY1 := Lib.hid hbx
        clear hb hb2 hEV hbx HVi HC x0 x1 x2 x3 x4 x5 x6 x7
        go_upto_region 11 with fail
        generalize w6.alloc (.cells #[.int .i64 y.hd.k, .int .i64 y.hd.n, .int .i64 y.hd.vk, .int .i64 y.hd.vn, .string y.hd.vs, .string y.hd.tab, .string y.hd.col, .slice Ay y.kids.length cy] 35) = W7 at HM HBx HCo HIn HCm HY1 ⊢
        generalize w6.heap.size = pHY1 at HY1 ⊢
        go_wp2_with fail
        refine (HLv.out _ HM.out).mono ?_
        rintro e wl8 ⟨rfl, hb⟩
        replace HM := Lib.hid (HM.out.next hb)
        replace HBx := Lib.hid (HBx.out.kept hb)
        replace HCo := Lib.hid (HCo.out.kept hb)
        replace HIn := Lib.hid (HIn.out.kept hb)
        replace HCm := Lib.hid (HCm.out.kept hb)
        replace HY1 := Lib.hid (HY1.out.kept hb)
        clear hb
        rcases wh_cases HQb.out with ⟨_, rfl | rfl⟩ | ⟨rfl, rfl, hxo, hpo⟩
        · go_wp2_with fail
          refine (HLv.out _ HM.out).mono ?_
          rintro e wl9 ⟨rfl, hb⟩
          have HB9 := Lib.hid (bt HM.out.bel hb)
          clear hb
          go_wp2_with fail
          go_ret
          exact ⟨rfl, HB9.out⟩
        · go_wp2_with fail
          refine (HLv.out _ HM.out).mono ?_
          rintro e wl10 ⟨rfl, hb⟩
          have HB9 := Lib.hid (bt HM.out.bel hb)
          clear hb
          go_wp2_with fail
          go_ret
          exact ⟨rfl, HB9.out⟩
        have HSy := Lib.hid (show AllSm y by have e : rbX (plM (plcs k ([] : List Co).length)) x = y := HY.out; rw [← e]; exact allSm_rb x HSm.out)
        obtain ⟨⟨t, tn⟩, hqt⟩ : ∃ q, typA ([] : List Co) x = q := ⟨_, rfl⟩
        have HQt := Lib.hid hqt
        have HQu := Lib.hid (show typA more y = (t, tn) by rw [← HMm.out]; have e : rbX (plM (plcs k ([] : List Co).length)) x = y := HY.out; rw [← e, typ_moved hxo hpo]; exact hqt)
        clear hqt hxo hpo
        obtain ⟨Ai, ci, hbi, hli, hsi⟩ := HBx.out
        have HVi := Lib.hid (show EV x (XV x.hd Ai x.kids.length ci) _ from ⟨Ai, ci, rfl, hli, hsi⟩)
        obtain ⟨⟨x0, x1, x2, x3, x4, x5, x6, x7⟩, _⟩ := cell8 hbi
        clear hbi hli hsi
        have HC := Lib.hid (ev_type (c := 0) HVi.out HSm.out (by have := HCn.out; omega) HM.out.T HM.out.E HCo.out HQt.out)
        go_wp2_with fail
        refine HC.out.mono ?_
        rintro e w11 ⟨_, rfl, hb, rfl⟩
        replace HM := Lib.hid (HM.out.next hb)
        replace HBx := Lib.hid (HBx.out.kept hb)
        replace HCo := Lib.hid (HCo.out.kept hb)
        replace HIn := Lib.hid (HIn.out.kept hb)
        replace HCm := Lib.hid (HCm.out.kept hb)
        replace HY1 := Lib.hid (HY1.out.kept hb)
        clear hb HVi HC x0 x1 x2 x3 x4 x5 x6 x7
        obtain ⟨Ai, ci, hbi, hli, hsi⟩ := HY1.out
        have HVi := Lib.hid (show EV y (XV y.hd Ai y.kids.length ci) _ from ⟨Ai, ci, rfl, hli, hsi⟩)
        obtain ⟨⟨x0, x1, x2, x3, x4, x5, x6, x7⟩, _⟩ := cell8 hbi
        clear hbi hli hsi
        have HC := Lib.hid (ev_type (c := cm) HVi.out HSy.out (by have := HCy.out; omega) HM.out.T HM.out.E HCm.out HQu.out)
        go_wp2_with fail
        refine HC.out.mono ?_
        rintro e w12 ⟨_, rfl, hb, rfl⟩
        replace HM := Lib.hid (HM.out.next hb)
        replace HBx := Lib.hid (HBx.out.kept hb)
        replace HCo := Lib.hid (HCo.out.kept hb)
        replace HIn := Lib.hid (HIn.out.kept hb)
        replace HCm := Lib.hid (HCm.out.kept hb)
        replace HY1 := Lib.hid (HY1.out.kept hb)
        clear hb HVi HC x0 x1 x2 x3 x4 x5 x6 x7
        have HB9 := Lib.hid HM.out.bel
        go_wp2_with fail
        go_ret
        exact ⟨rfl, HB9.out⟩
      | some ad =>
        go_wp2_with (at_builtin; refine wpList_append_own _ rfl _ _ 22 rfl pm 57 i0 _ 3 40 Tryz.underlying22 hi hz0 hz1 hz2 rfl (by decide) _ _ _ rfl HMo.out ad cols.length c (coC cols) rfl (coC_len _) (CoAt.news HC9.out) (fun u hu => coC_one hu) ?c3 ?c4 ?c5 ?_)
        case c3 => have := HCl.out; have := HK.out; rw [List.length_replicate]; unfold maxLen; omega
        case c4 => have := HCl.out; have := HK.out; rw [List.length_replicate]; omega
        case c5 => have := HWb.out.size; have := HPm.out; omega
        intro v' w5 hown' hg5 _
        have HMr := Lib.hid (show CoOwn w5 pm v' (List.replicate k zCo ++ cols) by unfold CoOwn; rw [List.length_append, List.length_replicate, coC_app]; exact hown')
        have hb5 := HWb.out.grown hg5 (by have := HWb.out.size; have := HPm.out; omega) (fun kk hk => (HMo.out.lt kk hk).1)
        obtain ⟨Ap, cp, rfl, hin⟩ := InAt.grown HW.out.own hg5 (fun kk hk => HM2.out kk hk)
        have HIn := Lib.hid hin
        rw [← HPm.out] at hb5
        replace HM := Lib.hid (HM.out.next hb5)
        replace HBx := Lib.hid (HBx.out.kept hb5)
        replace HCo := Lib.hid (HCo.out.kept hb5)
        clear hb5 hin hown' hg5
        obtain ⟨more, hmore⟩ : ∃ m, List.replicate k zCo ++ cols = m := ⟨_, rfl⟩
        rw [hmore] at HMr
        have HMm := Lib.hid hmore
        clear hmore
        obtain ⟨Am, cm, rfl, hml, hmc, hCm⟩ := HMr.out.at
        have HCm := Lib.hid hCm
        clear hml hmc hCm HMr HC9 HWb HM2 HMo HW HMb
        obtain ⟨qb, hqb⟩ : ∃ q, whX (plM (plcs k cols.length)) x = q := ⟨_, rfl⟩
        have hcy := whR_cnt (pl := plM (plcs k cols.length)) HCn.out (by decide)
        rw [hqb] at hcy
        obtain ⟨y, hy⟩ : ∃ y, whR qb = y := ⟨_, rfl⟩
        rw [hy] at hcy
        have HCy := Lib.hid hcy
        have HQb := Lib.hid hqb
        obtain ⟨o, n⟩ := qb
        have HY := Lib.hid hy
        clear hcy hqb hy
        obtain ⟨Ai, ci, hbi, hli, hsi⟩ := HBx.out
        have HVi := Lib.hid (show EV x (XV x.hd Ai x.kids.length ci) _ from ⟨Ai, ci, rfl, hli, hsi⟩)
        obtain ⟨⟨x0, x1, x2, x3, x4, x5, x6, x7⟩, _⟩ := cell8 hbi
        clear hbi hli hsi
        have HC := Lib.hid (ev_move (c := cp) HVi.out HSm.out (by have := HCn.out; omega) HM.out.T HM.out.E HIn.out HQb.out)
        go_wp2_with fail
        refine HC.out.mono ?_
        rintro e w13 ⟨u, rfl, hb, hEV⟩
        rw [HY.out] at hEV
        obtain ⟨Ay, cy, rfl, hbx⟩ := hEV.box
        have hb2 := bt hb (ba w13 (xbox y.hd Ay y.kids.length cy))
        replace HM := Lib.hid (HM.out.next hb2)
        replace HBx := Lib.hid (HBx.out.kept hb2)
        replace HCo := Lib.hid (HCo.out.kept hb2)
        replace HIn := Lib.hid (HIn.out.kept hb2)
        replace HCm := Lib.hid (HCm.out.kept hb2)
        have HY1 := Lib.hid hbx
        clear hb hb2 hEV hbx HVi HC x0 x1 x2 x3 x4 x5 x6 x7
        go_upto_region 11 with fail
        generalize w13.alloc (.cells #[.int .i64 y.hd.k, .int .i64 y.hd.n, .int .i64 y.hd.vk, .int .i64 y.hd.vn, .string y.hd.vs, .string y.hd.tab, .string y.hd.col, .slice Ay y.kids.length cy] 35) = W14 at HM HBx HCo HIn HCm HY1 ⊢
        generalize w13.heap.size = pHY1 at HY1 ⊢
        go_wp2_with fail
        refine (HLv.out _ HM.out).mono ?_
        rintro e wl15 ⟨rfl, hb⟩
        replace HM := Lib.hid (HM.out.next hb)
        replace HBx := Lib.hid (HBx.out.kept hb)
        replace HCo := Lib.hid (HCo.out.kept hb)
        replace HIn := Lib.hid (HIn.out.kept hb)
        replace HCm := Lib.hid (HCm.out.kept hb)
        replace HY1 := Lib.hid (HY1.out.kept hb)
        clear hb
        rcases wh_cases HQb.out with ⟨_, rfl | rfl⟩ | ⟨rfl, rfl, hxo, hpo⟩
        · go_wp2_with fail
          refine (HLv.out _ HM.out).mono ?_
          rintro e wl16 ⟨rfl, hb⟩
          have HB9 := Lib.hid (bt HM.out.bel hb)
          clear hb
          go_wp2_with fail
          go_ret
          exact ⟨rfl, HB9.out⟩
        · go_wp2_with fail
          refine (HLv.out _ HM.out).mono ?_
          rintro e wl17 ⟨rfl, hb⟩
          have HB9 := Lib.hid (bt HM.out.bel hb)
          clear hb
          go_wp2_with fail
          go_ret
          exact ⟨rfl, HB9.out⟩
        have HSy := Lib.hid (show AllSm y by have e : rbX (plM (plcs k cols.length)) x = y := HY.out; rw [← e]; exact allSm_rb x HSm.out)
        obtain ⟨⟨t, tn⟩, hqt⟩ : ∃ q, typA cols x = q := ⟨_, rfl⟩
        have HQt := Lib.hid hqt
        have HQu := Lib.hid (show typA more y = (t, tn) by rw [← HMm.out]; have e : rbX (plM (plcs k cols.length)) x = y := HY.out; rw [← e, typ_moved hxo hpo]; exact hqt)
        clear hqt hxo hpo
        obtain ⟨Ai, ci, hbi, hli, hsi⟩ := HBx.out
        have HVi := Lib.hid (show EV x (XV x.hd Ai x.kids.length ci) _ from ⟨Ai, ci, rfl, hli, hsi⟩)
        obtain ⟨⟨x0, x1, x2, x3, x4, x5, x6, x7⟩, _⟩ := cell8 hbi
        clear hbi hli hsi
        have HC := Lib.hid (ev_type (c := c) HVi.out HSm.out (by have := HCn.out; omega) HM.out.T HM.out.E HCo.out HQt.out)
        go_wp2_with fail
        refine HC.out.mono ?_
        rintro e w18 ⟨_, rfl, hb, rfl⟩
        replace HM := Lib.hid (HM.out.next hb)
        replace HBx := Lib.hid (HBx.out.kept hb)
        replace HCo := Lib.hid (HCo.out.kept hb)
        replace HIn := Lib.hid (HIn.out.kept hb)
        replace HCm := Lib.hid (HCm.out.kept hb)
        replace HY1 := Lib.hid (HY1.out.kept hb)
        clear hb HVi HC x0 x1 x2 x3 x4 x5 x6 x7
        obtain ⟨Ai, ci, hbi, hli, hsi⟩ := HY1.out
        have HVi := Lib.hid (show EV y (XV y.hd Ai y.kids.length ci) _ from ⟨Ai, ci, rfl, hli, hsi⟩)
        obtain ⟨⟨x0, x1, x2, x3, x4, x5, x6, x7⟩, _⟩ := cell8 hbi
        clear hbi hli hsi
        have HC := Lib.hid (ev_type (c := cm) HVi.out HSy.out (by have := HCy.out; omega) HM.out.T HM.out.E HCm.out HQu.out)
        go_wp2_with fail
        refine HC.out.mono ?_
        rintro e w19 ⟨_, rfl, hb, rfl⟩
        replace HM := Lib.hid (HM.out.next hb)
        replace HBx := Lib.hid (HBx.out.kept hb)
        replace HCo := Lib.hid (HCo.out.kept hb)
        replace HIn := Lib.hid (HIn.out.kept hb)
        replace HCm := Lib.hid (HCm.out.kept hb)
        replace HY1 := Lib.hid (HY1.out.kept hb)
        clear hb HVi HC x0 x1 x2 x3 x4 x5 x6 x7
        have HB9 := Lib.hid HM.out.bel
        go_wp2_with fail
        go_ret
        exact ⟨rfl, HB9.out⟩
end Go.Proofs.YtofhaokaldpmaaaGreatDoor
end
section
namespace Go.Proofs.YtofhaokaldpmaaaGreatDoor
open Go.RowKit Go.Shelf
attribute [local go_sem] Oper.semAt_some

set_option maxRecDepth 100000 in
set_option maxHeartbeats 8000000 in
theorem finds_walk (cols : List Co) (A : Option Addr) (c : Nat) (tab col : ByteArray) (w : World) (hCo : CoAt w A cols) (hlc : cols.length ≤ c) (hc : c ≤ 9223372036854775807) (hT : Tabs w) (hE : ErrT w) :
    Calls Tryz.prog 3 #[.slice A cols.length c, .string tab, .string col] w fun e w' => e = .returned (.bool true) ∧ Below w.heap.size w w' := by
  have HLv := Lib.hid (fun W (hb : Below w.heap.size w W) => lives14_yes W (hT.kept hb) (hE.kept hb))
  have HR := Lib.hid (Below.refl w.heap.size w)
  obtain ⟨o, ho⟩ : ∃ o, findX tab col cols = o := ⟨_, rfl⟩
  have HF := Lib.hid (Find_any tab col A c cols w hCo hlc hc hE)
  have HRf := Lib.hid (fun W (hb : Below w.heap.size w W) => refFind_any tab col A c cols W (hCo.kept hb) (by omega))
  rw [ho] at HF HRf
  clear hCo hlc hc hT hE ho
  by_cases hL : decide (60 < cols.length) = true
  · have HLa := Lib.hid (fun W => large14_any A cols.length c W hL)
    clear hL HF HRf
    go_enter Tryz.func3, Tryz.ntmps3
    go_wp2_with fail
    refine (HLa.out _).mono ?_
    rintro e w1 ⟨rfl, rfl⟩
    go_wp2_with fail
    refine (HLv.out _ HR.out).mono ?_
    rintro e w2 ⟨rfl, hb⟩
    have HB := Lib.hid hb
    clear hb
    go_wp2_with fail
    go_ret
    exact ⟨rfl, HB.out⟩
  · have HLa := Lib.hid (fun W => large14_any A cols.length c W (show decide (60 < cols.length) = false by simpa using hL))
    clear hL
    by_cases ht : (500 : Int) < (tab.size : Int)
    · clear HF HRf
      go_enter Tryz.func3, Tryz.ntmps3
      go_wp2_with fail
      refine (HLa.out _).mono ?_
      rintro e w1 ⟨rfl, rfl⟩
      go_wp2_with fail
      refine (HLv.out _ HR.out).mono ?_
      rintro e w2 ⟨rfl, hb⟩
      have HB := Lib.hid hb
      clear hb
      go_wp2_with fail
      go_ret
      exact ⟨rfl, HB.out⟩
    · by_cases hk : (500 : Int) < (col.size : Int)
      · clear HF HRf
        go_enter Tryz.func3, Tryz.ntmps3
        go_wp2_with fail
        refine (HLa.out _).mono ?_
        rintro e w1 ⟨rfl, rfl⟩
        go_wp2_with fail
        refine (HLv.out _ HR.out).mono ?_
        rintro e w2 ⟨rfl, hb⟩
        have HB := Lib.hid hb
        clear hb
        go_wp2_with fail
        go_ret
        exact ⟨rfl, HB.out⟩
      · cases o
        all_goals
          unfold FnV at HF
          unfold rfnV at HRf
          simp only at HF HRf
          go_enter Tryz.func3, Tryz.ntmps3
          go_wp2_with fail
          refine (HLa.out _).mono ?_
          rintro e w1 ⟨rfl, rfl⟩
          go_wp2_with fail
          refine HF.out.mono ?_
          rintro e w2 ⟨rfl, hb⟩
          have HB := Lib.hid hb
          clear hb
          go_wp2_with fail
          refine (HRf.out _ HB.out).mono ?_
          rintro e w3 ⟨rfl, rfl⟩
          go_wp2_with fail
          refine (HLv.out _ HB.out).mono ?_
          rintro e w4 ⟨rfl, hb⟩
          have HB4 := Lib.hid (bt HB.out hb)
          clear hb
          go_wp2_with fail
          go_ret
          exact ⟨rfl, HB4.out⟩
end Go.Proofs.YtofhaokaldpmaaaGreatDoor
end
