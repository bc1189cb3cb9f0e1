/-
  The examples of the laws (lives): Eval, Holds, Errs, Fold and Row of fixed expressions.
-/
import Derived.Test.YtpokpiphnggfpaaGreatDoorZ14
section
namespace Go.Proofs.YtpokpiphnggfpaaGreatDoor
open Go.RowKit Go.Shelf
attribute [local go_sem] Oper.semAt_some

abbrev xc1 : Obj := xbox hdC1 none 0 0
abbrev rbox : Obj := .cells #[.int .i64 0, .int .i64 0, .string ⟨#[]⟩, .int .i64 2, .int .i64 (-7), .string ⟨#[]⟩] 28
/-- What the examples know as they go on. -/
structure Lv (w W : World) (uc ur : Nat) (bs : List (Nat × Int × Int)) (es : List (Nat × Ex)) : Prop where
  bel : Below w.heap.size w W
  tab : TabV W
  tabs : Tabs W
  c : W.heap[uc]? = some xc1
  r : W.heap[ur]? = some rbox
  b : ∀ p ∈ bs, W.heap[p.1]? = some (vbox p.2.1 p.2.2 ⟨#[]⟩)
  x : ∀ p ∈ es, ∃ A cap, W.heap[p.1]? = some (xbox p.2.hd A p.2.kids.length cap) ∧ EV p.2 (XV p.2.hd A p.2.kids.length cap) W
section
variable {w W W' : World} {uc ur : Nat} {bs : List (Nat × Int × Int)} {es : List (Nat × Ex)}
theorem blk_kept {u : Nat} {o : Obj} (h : W.heap[u]? = some o) (hb : Below W.heap.size W W') : W'.heap[u]? = some o := (hb.block u (Array.getElem?_eq_some_iff.1 h).1).trans h
theorem Lv.next2 (H : Lv w W uc ur bs es) (hb : Below W.heap.size W W') : Lv w W' uc ur bs es :=
  ⟨bt H.bel hb, H.tab.kept hb, H.tabs.kept hb, blk_kept H.c hb, blk_kept H.r hb, fun p hp => blk_kept (H.b p hp) hb, fun p hp => by
    obtain ⟨A, cap, h1, h2⟩ := H.x p hp
    exact ⟨A, cap, blk_kept h1 hb, EV.next hb h2⟩⟩
theorem Lv.box (H : Lv w W uc ur bs es) {u : Nat} {k n : Int} (h : W.heap[u]? = some (vbox k n ⟨#[]⟩)) : Lv w W uc ur ((u, k, n) :: bs) es :=
  ⟨H.bel, H.tab, H.tabs, H.c, H.r, fun p hp => by
    rcases List.mem_cons.1 hp with rfl | hp
    · exact h
    · exact H.b p hp, H.x⟩
theorem Lv.ebox (H : Lv w W uc ur bs es) {u : Nat} {x : Ex} {A : Option Addr} {cap : Nat} (h : W.heap[u]? = some (xbox x.hd A x.kids.length cap)) (hx : EV x (XV x.hd A x.kids.length cap) W) : Lv w W uc ur bs ((u, x) :: es) :=
  ⟨H.bel, H.tab, H.tabs, H.c, H.r, H.b, fun p hp => by
    rcases List.mem_cons.1 hp with rfl | hp
    · exact ⟨A, cap, h, hx⟩
    · exact H.x p hp⟩
theorem Lv.get2 (H : Lv w W uc ur bs es) {u : Nat} {n : Int} {a b : Ex} (hp : (u, oE n a b) ∈ es) : ∃ A cap, W.heap[u]? = some (xbox (hdO n) A 2 cap) ∧ EV (oE n a b) (XV (hdO n) A 2 cap) W := H.x _ hp
theorem Lv.cLt (H : Lv w W uc ur bs es) : uc < W.heap.size := (Array.getElem?_eq_some_iff.1 H.c).1
theorem Lv.row (H : Lv w W uc ur bs es) : RowAt W (some ⟨ur, 0, none⟩) rL := by
  have h := H.r
  refine .inr ⟨ur, 0, rfl, (Array.getElem?_eq_some_iff.1 h).1, fun i v hv => ?_⟩
  match i, hv with
  | 0, hv => obtain rfl := Option.some.inj hv; simp only [World.cell?, h]; exact ⟨rfl, rfl, rfl⟩
  | 1, hv => obtain rfl := Option.some.inj hv; simp only [World.cell?, h]; exact ⟨rfl, rfl, rfl⟩
  | i + 2, hv => simp at hv
/-- A box of a value of one's own. -/
def BoxP (B : Nat) (v : Value) (w : World) : Prop := ∃ u k n s, v = .pointer (some ⟨u, 0, none⟩) ∧ B ≤ u ∧ w.heap[u]? = some (vbox k n s)
theorem keepBox {B : Nat} : Keeps Bel (BoxP B) := fun _ _ _ hb ⟨u, k, n, s, e, hu, h⟩ => ⟨u, k, n, s, e, hu, blk_kept h hb⟩
end
theorem Three.set3 {p q r : Va} {v : Value} {w : World} {u : Nat} {k n : Int} {s : ByteArray} (h : Three p q r v w) (hu : w.heap[u]? = some (vbox k n s)) (k' n' : Int) (s' : ByteArray) : Three p q r v (put3 w u k' n' s') := by
  obtain ⟨g, e, h⟩ := h
  refine ⟨g, e, ?_⟩
  rcases h with h | ⟨b, off, hA, hlt, hc⟩
  · cases h
  · simp only [Option.some.injEq, Addr.mk.injEq] at hA
    obtain ⟨rfl, rfl, _⟩ := hA
    have hg : g ≠ u := fun e => by
      subst e
      have h7 := (hc 1 q rfl).1
      simp only [World.cell?, hu] at h7
      rw [Array.getElem?_eq_none (by simp)] at h7
      cases h7
    have hk : (put3 w u k' n' s').heap[g]? = w.heap[g]? := put3_other hg _ _ _
    refine .inr ⟨g, 0, rfl, by rw [put3_size]; exact hlt, fun i v hv => ?_⟩
    obtain ⟨h0, h1, h2⟩ := hc i v hv
    exact ⟨(World.cell?_of_block hk).trans h0, (World.cell?_of_block hk).trans h1, (World.cell?_of_block hk).trans h2⟩
theorem row_cell1 {w : World} {g : Nat} {x y : Va} (h : RowAt w (some ⟨g, 0, none⟩) [x, y]) : w.cell? ⟨g, 0 + 3 + 1, none⟩ = some (.int .i64 y.n) := by
  obtain ⟨b, off, hA, _, _, h1, _⟩ := h.at (i := 1) (by simp)
  simp only [Option.some.injEq, Addr.mk.injEq] at hA
  obtain ⟨rfl, rfl, _⟩ := hA
  exact h1
theorem run_eqVV {o : Oper} {a : Act} {w : World} {x y : Operand} (ho : o.op = .binOp .eql 28 x y 28) (hx : a.eval x = VV 1 0 ⟨#[]⟩) (hy : a.eval y = VV 1 0 ⟨#[]⟩) : (execOp a.eval o).run Tryz.prog w = .ok (.value (.bool true)) w := by
  unfold execOp
  simp only [ho, hx, hy]
  rw [Sem.run_bind]
  simp [eqGuard, falses_eq w]
theorem smA (n : Int) : AllSm (.mk (hdA n) []) := by
  simp only [AllSm, AllSmL, and_true]
  exact ⟨zS _, zS _, zS _⟩
set_option maxRecDepth 100000 in
set_option maxHeartbeats 8000000 in
theorem lives16_yes (wI : World) (hV : TabV wI) (hT : Tabs wI) : Calls Tryz.prog 5 #[] wI fun e w' => e = .returned (.bool true) ∧ Below wI.heap.size wI w' := by
  have HT := Lib.hid hT
  have HV := Lib.hid hV
  clear hT hV
  go_enter Tryz.func5, Tryz.ntmps5
  go_wp2_with fail
  refine (refInt_any (-7) _).mono ?_
  rintro e w2 ⟨rfl, hb⟩
  have HX1 := Lib.hid (blk_kept (MapKept.heap_alloc wI xc1).1 hb)
  have HB1 := Lib.hid (bt (ba wI xc1) hb)
  clear hb
  go_upto_region 3 with fail
  have HM := Lib.hid (show Lv wI (w2.alloc rbox) wI.heap.size w2.heap.size [] [] from ⟨bt HB1.out (ba w2 rbox), HV.out.kept (bt HB1.out (ba w2 rbox)), HT.out.kept (bt HB1.out (ba w2 rbox)), blk_kept HX1.out (ba w2 rbox), (MapKept.heap_alloc w2 rbox).1, (fun _ h => by cases h), (fun _ h => by cases h)⟩)
  clear HX1 HB1 HT HV
  generalize w2.alloc (.cells #[.int .i64 0, .int .i64 0, .string ⟨#[]⟩, .int .i64 2, .int .i64 (-7), .string ⟨#[]⟩] 28) = W at HM ⊢
  generalize w2.heap.size = ur at HM ⊢
  have hK : ∀ k, k < 10 → KeepF (gAt [
      own1 0 (EV cE),
      own1 1 (EV (nE 2)),
      own1 2 (EV (oE 13 cE (nE 2))),
      own1 3 (fun v _ => v = .slice (some ⟨ur, 0, none⟩) 2 2),
      own1 4 (fun v _ => v = .tuple #[VV 2 (-3) ⟨#[]⟩, .int .i64 0]),
      own1 5 (fun v _ => v = .tuple #[VV 2 (-3) ⟨#[]⟩, .int .i64 0]),
      own1 6 (fun v _ => v = VV 2 (-3) ⟨#[]⟩),
      own1 7 (fun v _ => v = .int .i64 0),
      own1 8 (BoxP W.heap.size),
      (fun f w => ∃ u, f 8 = .pointer (some ⟨u, 0, none⟩) ∧ W.heap.size ≤ u ∧ w.heap[u]? = some (vbox 2 (-3) ⟨#[]⟩))] k) := fun k hk => match k, hk with
    | 0, _ => KeepF.own1 (EV.keeps _)
    | 1, _ => KeepF.own1 (EV.keeps _)
    | 2, _ => KeepF.own1 (EV.keeps _)
    | 3, _ => KeepF.own1 (Keeps.const _)
    | 4, _ => KeepF.own1 (Keeps.const _)
    | 5, _ => KeepF.own1 (Keeps.const _)
    | 6, _ => KeepF.own1 (Keeps.const _)
    | 7, _ => KeepF.own1 (Keeps.const _)
    | 8, _ => KeepF.own1 keepBox
    | 9, _ => (fun f w w' hb ⟨u, e, hu, h⟩ => ⟨u, e, hu, (hb.block u (Array.getElem?_eq_some_iff.1 h).1).trans h⟩)
    | k + 10, h => absurd h (by omega)
  refine wp_region_inv2 (n := 10) (ds := [some 28, some 29, some 30, some 31, some 32, some 27, some 33, some 34, some 3, none, some 4]) (need := [[], [], [0, 1], [], [2, 3], [4], [5], [5], [], [0, 1, 2, 3, 4, 5, 6, 8], [0, 1, 2, 3, 4, 5, 6, 7, 8, 9]]) (B := W.heap.size) (Gs := [
      own1 0 (EV cE),
      own1 1 (EV (nE 2)),
      own1 2 (EV (oE 13 cE (nE 2))),
      own1 3 (fun v _ => v = .slice (some ⟨ur, 0, none⟩) 2 2),
      own1 4 (fun v _ => v = .tuple #[VV 2 (-3) ⟨#[]⟩, .int .i64 0]),
      own1 5 (fun v _ => v = .tuple #[VV 2 (-3) ⟨#[]⟩, .int .i64 0]),
      own1 6 (fun v _ => v = VV 2 (-3) ⟨#[]⟩),
      own1 7 (fun v _ => v = .int .i64 0),
      own1 8 (BoxP W.heap.size),
      (fun f w => ∃ u, f 8 = .pointer (some ⟨u, 0, none⟩) ∧ W.heap.size ≤ u ∧ w.heap[u]? = some (vbox 2 (-3) ⟨#[]⟩))])
    (by kernel_rfl) (by kernel_rfl) (by decide) (by kernel_rfl) (by kernel_rfl) (by kernel_rfl) (fun k hk => match k, hk with
      | 0, _ => Loc.own1 (k := 0) (g := (EV cE))
      | 1, _ => Loc.own1 (k := 1) (g := (EV (nE 2)))
      | 2, _ => Loc.own1 (k := 2) (g := (EV (oE 13 cE (nE 2))))
      | 3, _ => Loc.own1 (k := 3) (g := (fun v _ => v = .slice (some ⟨ur, 0, none⟩) 2 2))
      | 4, _ => Loc.own1 (k := 4) (g := (fun v _ => v = .tuple #[VV 2 (-3) ⟨#[]⟩, .int .i64 0]))
      | 5, _ => Loc.own1 (k := 5) (g := (fun v _ => v = .tuple #[VV 2 (-3) ⟨#[]⟩, .int .i64 0]))
      | 6, _ => Loc.own1 (k := 6) (g := (fun v _ => v = VV 2 (-3) ⟨#[]⟩))
      | 7, _ => Loc.own1 (k := 7) (g := (fun v _ => v = .int .i64 0))
      | 8, _ => Loc.own1 (k := 8) (g := (BoxP W.heap.size))
      | 9, _ => (fun f f' w h ⟨u, e, hu, hb⟩ => ⟨u, by rw [← h 8 (.inr (by decide))]; exact e, hu, hb⟩)
      | k + 10, h => absurd h (by omega)) ?_ ?_
  · refine Each2.cons rfl (StepOk2.plain (g := (EV cE)) rfl rfl rfl rfl (of_decide_eq_true (by kernel_rfl)) (Nat.le_refl _) hK (fun a w hs hR hr pre => ?_)) ?_
    · have ep : a.eval (.tmp 1) = .pointer (some ⟨wI.heap.size, 0, none⟩) := hr 1 (by decide)
      exact wp_pure (run_ldE rfl ep (XC.ofBox ((hR.block wI.heap.size HM.out.cLt).trans HM.out.c))) (EV.leaf _ _)
    refine Each2.cons rfl (StepOk2.plain (g := (EV (nE 2))) rfl rfl rfl rfl (of_decide_eq_true (by kernel_rfl)) (Nat.le_refl _) hK (fun a w hs hR hr pre => ?_)) ?_
    · exact wp_fn (vs := #[.int .i64 2]) rfl Tryz.func14 (by kernel_rfl) (by kernel_rfl) (by simp only [List.map_toArray, List.map_cons, List.map_nil, eval_const]) (num_ev _ _)
    refine Each2.cons rfl (StepOk2.plain (g := (EV (oE 13 cE (nE 2)))) rfl rfl rfl rfl (of_decide_eq_true (by kernel_rfl)) (Nat.le_refl _) hK (fun a w hs hR hr pre => ?_)) ?_
    · have h28 : EV cE (a.eval (.tmp 28)) w := pre 0 (by decide)
      have h29 : EV (nE 2) (a.eval (.tmp 29)) w := pre 1 (by decide)
      exact wp_fn (vs := #[.int .i64 13, a.eval (.tmp 28), a.eval (.tmp 29)]) rfl Tryz.func13 (by kernel_rfl) (by kernel_rfl) (by simp only [List.map_toArray, List.map_cons, List.map_nil, eval_const]) (op_ev h28 h29)
    refine Each2.cons rfl (StepOk2.plain (g := (fun v _ => v = .slice (some ⟨ur, 0, none⟩) 2 2)) rfl rfl rfl rfl (of_decide_eq_true (by kernel_rfl)) (Nat.le_refl _) hK (fun a w hs hR hr pre => ?_)) ?_
    · have ep : a.eval (.tmp 2) = .slice (some ⟨ur, 0, none⟩) 2 2 := hr 2 (by decide)
      exact wp_pure (run_move rfl) ep
    refine Each2.cons rfl (StepOk2.plain (g := (fun v _ => v = .tuple #[VV 2 (-3) ⟨#[]⟩, .int .i64 0])) rfl rfl rfl rfl (of_decide_eq_true (by kernel_rfl)) (Nat.le_refl _) hK (fun a w hs hR hr pre => ?_)) ?_
    · have h30 : EV (oE 13 cE (nE 2)) (a.eval (.tmp 30)) w := pre 2 (by decide)
      have e31 : a.eval (.tmp 31) = .slice (some ⟨ur, 0, none⟩) 2 2 := pre 3 (by decide)
      exact wp_fn (vs := #[a.eval (.tmp 30), .slice (some ⟨ur, 0, none⟩) 2 2]) rfl Tryz.func12 (by kernel_rfl) (by kernel_rfl) (by simp only [List.map_toArray, List.map_cons, List.map_nil, e31]) (rv_eval h30 (smO smC (smN _)) (by decide) (HM.out.next2 (bt (Below.drew (Below.refl _ _)) hR)).row (HM.out.next2 (bt (Below.drew (Below.refl _ _)) hR)).tab (HM.out.next2 (bt (Below.drew (Below.refl _ _)) hR)).tabs evDiv)
    refine Each2.cons rfl (StepOk2.plain (g := (fun v _ => v = .tuple #[VV 2 (-3) ⟨#[]⟩, .int .i64 0])) rfl rfl rfl rfl (of_decide_eq_true (by kernel_rfl)) (Nat.le_refl _) hK (fun a w hs hR hr pre => ?_)) ?_
    · have e32 : a.eval (.tmp 32) = .tuple #[VV 2 (-3) ⟨#[]⟩, .int .i64 0] := pre 4 (by decide)
      exact wp_pure (run_move rfl) e32
    refine Each2.cons rfl (StepOk2.plain (g := (fun v _ => v = VV 2 (-3) ⟨#[]⟩)) rfl rfl rfl rfl (of_decide_eq_true (by kernel_rfl)) (Nat.le_refl _) hK (fun a w hs hR hr pre => ?_)) ?_
    · have e27 : a.eval (.tmp 27) = .tuple #[VV 2 (-3) ⟨#[]⟩, .int .i64 0] := pre 5 (by decide)
      exact wp_pure (run_ext0 rfl e27) rfl
    refine Each2.cons rfl (StepOk2.plain (g := (fun v _ => v = .int .i64 0)) rfl rfl rfl rfl (of_decide_eq_true (by kernel_rfl)) (Nat.le_refl _) hK (fun a w hs hR hr pre => ?_)) ?_
    · have e27 : a.eval (.tmp 27) = .tuple #[VV 2 (-3) ⟨#[]⟩, .int .i64 0] := pre 5 (by decide)
      exact wp_pure (run_ext1 rfl e27) rfl
    refine Each2.cons rfl (StepOk2.plain (g := (BoxP W.heap.size)) rfl rfl rfl rfl (of_decide_eq_true (by kernel_rfl)) (Nat.le_refl _) hK (fun a w hs hR hr pre => ?_)) ?_
    · exact wp_made (run_alloc3 rfl) ⟨w.heap.size, 0, 0, ⟨#[]⟩, rfl, hR.size, (MapKept.heap_alloc w _).1⟩
    refine Each2.cons rfl (StepOk2.store rfl rfl (fun a w hs hR hr pre => ?_)) ?_
    · obtain ⟨u, k0, n0, s0, e3, hu, hbx⟩ : ∃ u k n s, a.eval (.tmp 3) = .pointer (some ⟨u, 0, none⟩) ∧ W.heap.size ≤ u ∧ w.heap[u]? = some (vbox k n s) := pre 8 (by decide)
      have ev : a.eval (.tmp 33) = VV 2 (-3) ⟨#[]⟩ := pre 6 (by decide)
      refine ⟨_, run_st3 rfl e3 ev (bx_of hbx), below_set3 (Below.refl _ _) hu, fun k hk hne h => ?_, ⟨u, e3, hu, put3_heap hbx _ _ _⟩⟩
      exact (match k, hk, hne, h with
        | 0, _, _, h => EV.put3 (show EV cE (slotAt _ a 0) w from h) hbx _ _ _
        | 1, _, _, h => EV.put3 (show EV (nE 2) (slotAt _ a 1) w from h) hbx _ _ _
        | 2, _, _, h => EV.put3 (show EV (oE 13 cE (nE 2)) (slotAt _ a 2) w from h) hbx _ _ _
        | 3, _, _, h => h
        | 4, _, _, h => h
        | 5, _, _, h => h
        | 6, _, _, h => h
        | 7, _, _, h => h
        | 8, _, _, _ => ⟨u, _, _, _, e3, hu, put3_heap hbx _ _ _⟩
        | 9, _, h, _ => absurd rfl h
        | k + 10, h, _, _ => absurd h (by omega))
    exact Each2.nil
  · intro v w3 hB hu hG
    obtain ⟨ua, ea, hua, hba⟩ : ∃ u, v 8 = .pointer (some ⟨u, 0, none⟩) ∧ W.heap.size ≤ u ∧ w3.heap[u]? = some (vbox 2 (-3) ⟨#[]⟩) := hG 9 (by decide)
    have ec : v 7 = .int .i64 0 := hG 7 (by decide)
    simp only [List.take_succ_cons, List.take_zero, puts, Act.put, List.setIfInBounds_toArray, List.set_cons_zero, List.set_cons_succ, Nat.reduceAdd, ea, ec]
    have HM1 := Lib.hid ((HM.out.next2 (bt (Below.drew (Below.refl _ _)) hB)).box (u := ua) hba)
    clear hG hu hB hK hba hua ea ec HM
    refine wpAny_next (i := 10) (fuel := 0) (by kernel_rfl) rfl rfl ?_
    unfold Oper.wp
    rw [run_assign rfl]
    simp only [Act.put, List.setIfInBounds_toArray, List.set_cons_zero, List.set_cons_succ, Oper.upon]
    refine wpAny_done (by kernel_rfl) ?_ _
    have HM := HM1
    clear HM1
    skip
    go_upto_region 4 with fail
    have hK : ∀ k, k < 10 → KeepF (gAt [
        own1 0 (EV cE),
        own1 1 (EV (nE 2)),
        own1 2 (EV (oE 14 cE (nE 2))),
        own1 3 (fun v _ => v = .slice (some ⟨ur, 0, none⟩) 2 2),
        own1 4 (fun v _ => v = .tuple #[VV 2 (-1) ⟨#[]⟩, .int .i64 0]),
        own1 5 (fun v _ => v = .tuple #[VV 2 (-1) ⟨#[]⟩, .int .i64 0]),
        own1 6 (fun v _ => v = VV 2 (-1) ⟨#[]⟩),
        own1 7 (fun v _ => v = .int .i64 0),
        own1 8 (BoxP w3.heap.size),
        (fun f w => ∃ u, f 8 = .pointer (some ⟨u, 0, none⟩) ∧ w3.heap.size ≤ u ∧ w.heap[u]? = some (vbox 2 (-1) ⟨#[]⟩))] k) := fun k hk => match k, hk with
      | 0, _ => KeepF.own1 (EV.keeps _)
      | 1, _ => KeepF.own1 (EV.keeps _)
      | 2, _ => KeepF.own1 (EV.keeps _)
      | 3, _ => KeepF.own1 (Keeps.const _)
      | 4, _ => KeepF.own1 (Keeps.const _)
      | 5, _ => KeepF.own1 (Keeps.const _)
      | 6, _ => KeepF.own1 (Keeps.const _)
      | 7, _ => KeepF.own1 (Keeps.const _)
      | 8, _ => KeepF.own1 keepBox
      | 9, _ => (fun f w w' hb ⟨u, e, hu, h⟩ => ⟨u, e, hu, (hb.block u (Array.getElem?_eq_some_iff.1 h).1).trans h⟩)
      | k + 10, h => absurd h (by omega)
    refine wp_region_inv2 (n := 10) (ds := [some 36, some 37, some 38, some 39, some 40, some 35, some 41, some 42, some 5, none, some 6]) (need := [[], [], [0, 1], [], [2, 3], [4], [5], [5], [], [0, 1, 2, 3, 4, 5, 6, 8], [0, 1, 2, 3, 4, 5, 6, 7, 8, 9]]) (B := w3.heap.size) (Gs := [
        own1 0 (EV cE),
        own1 1 (EV (nE 2)),
        own1 2 (EV (oE 14 cE (nE 2))),
        own1 3 (fun v _ => v = .slice (some ⟨ur, 0, none⟩) 2 2),
        own1 4 (fun v _ => v = .tuple #[VV 2 (-1) ⟨#[]⟩, .int .i64 0]),
        own1 5 (fun v _ => v = .tuple #[VV 2 (-1) ⟨#[]⟩, .int .i64 0]),
        own1 6 (fun v _ => v = VV 2 (-1) ⟨#[]⟩),
        own1 7 (fun v _ => v = .int .i64 0),
        own1 8 (BoxP w3.heap.size),
        (fun f w => ∃ u, f 8 = .pointer (some ⟨u, 0, none⟩) ∧ w3.heap.size ≤ u ∧ w.heap[u]? = some (vbox 2 (-1) ⟨#[]⟩))])
      (by kernel_rfl) (by kernel_rfl) (by decide) (by kernel_rfl) (by kernel_rfl) (by kernel_rfl) (fun k hk => match k, hk with
        | 0, _ => Loc.own1 (k := 0) (g := (EV cE))
        | 1, _ => Loc.own1 (k := 1) (g := (EV (nE 2)))
        | 2, _ => Loc.own1 (k := 2) (g := (EV (oE 14 cE (nE 2))))
        | 3, _ => Loc.own1 (k := 3) (g := (fun v _ => v = .slice (some ⟨ur, 0, none⟩) 2 2))
        | 4, _ => Loc.own1 (k := 4) (g := (fun v _ => v = .tuple #[VV 2 (-1) ⟨#[]⟩, .int .i64 0]))
        | 5, _ => Loc.own1 (k := 5) (g := (fun v _ => v = .tuple #[VV 2 (-1) ⟨#[]⟩, .int .i64 0]))
        | 6, _ => Loc.own1 (k := 6) (g := (fun v _ => v = VV 2 (-1) ⟨#[]⟩))
        | 7, _ => Loc.own1 (k := 7) (g := (fun v _ => v = .int .i64 0))
        | 8, _ => Loc.own1 (k := 8) (g := (BoxP w3.heap.size))
        | 9, _ => (fun f f' w h ⟨u, e, hu, hb⟩ => ⟨u, by rw [← h 8 (.inr (by decide))]; exact e, hu, hb⟩)
        | k + 10, h => absurd h (by omega)) ?_ ?_
    · refine Each2.cons rfl (StepOk2.plain (g := (EV cE)) rfl rfl rfl rfl (of_decide_eq_true (by kernel_rfl)) (Nat.le_refl _) hK (fun a w hs hR hr pre => ?_)) ?_
      · have ep : a.eval (.tmp 1) = .pointer (some ⟨wI.heap.size, 0, none⟩) := hr 1 (by decide)
        exact wp_pure (run_ldE rfl ep (XC.ofBox ((hR.block wI.heap.size HM.out.cLt).trans HM.out.c))) (EV.leaf _ _)
      refine Each2.cons rfl (StepOk2.plain (g := (EV (nE 2))) rfl rfl rfl rfl (of_decide_eq_true (by kernel_rfl)) (Nat.le_refl _) hK (fun a w hs hR hr pre => ?_)) ?_
      · exact wp_fn (vs := #[.int .i64 2]) rfl Tryz.func14 (by kernel_rfl) (by kernel_rfl) (by simp only [List.map_toArray, List.map_cons, List.map_nil, eval_const]) (num_ev _ _)
      refine Each2.cons rfl (StepOk2.plain (g := (EV (oE 14 cE (nE 2)))) rfl rfl rfl rfl (of_decide_eq_true (by kernel_rfl)) (Nat.le_refl _) hK (fun a w hs hR hr pre => ?_)) ?_
      · have h36 : EV cE (a.eval (.tmp 36)) w := pre 0 (by decide)
        have h37 : EV (nE 2) (a.eval (.tmp 37)) w := pre 1 (by decide)
        exact wp_fn (vs := #[.int .i64 14, a.eval (.tmp 36), a.eval (.tmp 37)]) rfl Tryz.func13 (by kernel_rfl) (by kernel_rfl) (by simp only [List.map_toArray, List.map_cons, List.map_nil, eval_const]) (op_ev h36 h37)
      refine Each2.cons rfl (StepOk2.plain (g := (fun v _ => v = .slice (some ⟨ur, 0, none⟩) 2 2)) rfl rfl rfl rfl (of_decide_eq_true (by kernel_rfl)) (Nat.le_refl _) hK (fun a w hs hR hr pre => ?_)) ?_
      · have ep : a.eval (.tmp 2) = .slice (some ⟨ur, 0, none⟩) 2 2 := hr 2 (by decide)
        exact wp_pure (run_move rfl) ep
      refine Each2.cons rfl (StepOk2.plain (g := (fun v _ => v = .tuple #[VV 2 (-1) ⟨#[]⟩, .int .i64 0])) rfl rfl rfl rfl (of_decide_eq_true (by kernel_rfl)) (Nat.le_refl _) hK (fun a w hs hR hr pre => ?_)) ?_
      · have h38 : EV (oE 14 cE (nE 2)) (a.eval (.tmp 38)) w := pre 2 (by decide)
        have e39 : a.eval (.tmp 39) = .slice (some ⟨ur, 0, none⟩) 2 2 := pre 3 (by decide)
        exact wp_fn (vs := #[a.eval (.tmp 38), .slice (some ⟨ur, 0, none⟩) 2 2]) rfl Tryz.func12 (by kernel_rfl) (by kernel_rfl) (by simp only [List.map_toArray, List.map_cons, List.map_nil, e39]) (rv_eval h38 (smO smC (smN _)) (by decide) (HM.out.next2 (bt (Below.drew (Below.refl _ _)) hR)).row (HM.out.next2 (bt (Below.drew (Below.refl _ _)) hR)).tab (HM.out.next2 (bt (Below.drew (Below.refl _ _)) hR)).tabs evMod)
      refine Each2.cons rfl (StepOk2.plain (g := (fun v _ => v = .tuple #[VV 2 (-1) ⟨#[]⟩, .int .i64 0])) rfl rfl rfl rfl (of_decide_eq_true (by kernel_rfl)) (Nat.le_refl _) hK (fun a w hs hR hr pre => ?_)) ?_
      · have e40 : a.eval (.tmp 40) = .tuple #[VV 2 (-1) ⟨#[]⟩, .int .i64 0] := pre 4 (by decide)
        exact wp_pure (run_move rfl) e40
      refine Each2.cons rfl (StepOk2.plain (g := (fun v _ => v = VV 2 (-1) ⟨#[]⟩)) rfl rfl rfl rfl (of_decide_eq_true (by kernel_rfl)) (Nat.le_refl _) hK (fun a w hs hR hr pre => ?_)) ?_
      · have e35 : a.eval (.tmp 35) = .tuple #[VV 2 (-1) ⟨#[]⟩, .int .i64 0] := pre 5 (by decide)
        exact wp_pure (run_ext0 rfl e35) rfl
      refine Each2.cons rfl (StepOk2.plain (g := (fun v _ => v = .int .i64 0)) rfl rfl rfl rfl (of_decide_eq_true (by kernel_rfl)) (Nat.le_refl _) hK (fun a w hs hR hr pre => ?_)) ?_
      · have e35 : a.eval (.tmp 35) = .tuple #[VV 2 (-1) ⟨#[]⟩, .int .i64 0] := pre 5 (by decide)
        exact wp_pure (run_ext1 rfl e35) rfl
      refine Each2.cons rfl (StepOk2.plain (g := (BoxP w3.heap.size)) rfl rfl rfl rfl (of_decide_eq_true (by kernel_rfl)) (Nat.le_refl _) hK (fun a w hs hR hr pre => ?_)) ?_
      · exact wp_made (run_alloc3 rfl) ⟨w.heap.size, 0, 0, ⟨#[]⟩, rfl, hR.size, (MapKept.heap_alloc w _).1⟩
      refine Each2.cons rfl (StepOk2.store rfl rfl (fun a w hs hR hr pre => ?_)) ?_
      · obtain ⟨u, k0, n0, s0, e5, hu, hbx⟩ : ∃ u k n s, a.eval (.tmp 5) = .pointer (some ⟨u, 0, none⟩) ∧ w3.heap.size ≤ u ∧ w.heap[u]? = some (vbox k n s) := pre 8 (by decide)
        have ev : a.eval (.tmp 41) = VV 2 (-1) ⟨#[]⟩ := pre 6 (by decide)
        refine ⟨_, run_st3 rfl e5 ev (bx_of hbx), below_set3 (Below.refl _ _) hu, fun k hk hne h => ?_, ⟨u, e5, hu, put3_heap hbx _ _ _⟩⟩
        exact (match k, hk, hne, h with
          | 0, _, _, h => EV.put3 (show EV cE (slotAt _ a 0) w from h) hbx _ _ _
          | 1, _, _, h => EV.put3 (show EV (nE 2) (slotAt _ a 1) w from h) hbx _ _ _
          | 2, _, _, h => EV.put3 (show EV (oE 14 cE (nE 2)) (slotAt _ a 2) w from h) hbx _ _ _
          | 3, _, _, h => h
          | 4, _, _, h => h
          | 5, _, _, h => h
          | 6, _, _, h => h
          | 7, _, _, h => h
          | 8, _, _, _ => ⟨u, _, _, _, e5, hu, put3_heap hbx _ _ _⟩
          | 9, _, h, _ => absurd rfl h
          | k + 10, h, _, _ => absurd h (by omega))
      exact Each2.nil
    · intro v w4 hB hu hG
      obtain ⟨ub, ea, hua, hba⟩ : ∃ u, v 8 = .pointer (some ⟨u, 0, none⟩) ∧ w3.heap.size ≤ u ∧ w4.heap[u]? = some (vbox 2 (-1) ⟨#[]⟩) := hG 9 (by decide)
      have ec : v 7 = .int .i64 0 := hG 7 (by decide)
      simp only [List.take_succ_cons, List.take_zero, puts, Act.put, List.setIfInBounds_toArray, List.set_cons_zero, List.set_cons_succ, Nat.reduceAdd, ea, ec]
      have HM1 := Lib.hid ((HM.out.next2 (bt (Below.drew (Below.refl _ _)) hB)).box (u := ub) hba)
      clear hG hu hB hK hba hua ea ec HM
      refine wpAny_next (i := 10) (fuel := 0) (by kernel_rfl) rfl rfl ?_
      unfold Oper.wp
      rw [run_assign rfl]
      simp only [Act.put, List.setIfInBounds_toArray, List.set_cons_zero, List.set_cons_succ, Oper.upon]
      refine wpAny_done (by kernel_rfl) ?_ _
      have HM := HM1
      clear HM1
      skip
      go_upto_region 5 with fail
      have hK : ∀ k, k < 10 → KeepF (gAt [
          own1 0 (EV cE),
          own1 1 (EV (nE 0)),
          own1 2 (EV (oE 13 cE (nE 0))),
          own1 3 (fun v _ => v = .slice (some ⟨ur, 0, none⟩) 2 2),
          own1 4 (fun v _ => v = .tuple #[VV 0 (0) ⟨#[]⟩, .int .i64 160]),
          own1 5 (fun v _ => v = .tuple #[VV 0 (0) ⟨#[]⟩, .int .i64 160]),
          own1 6 (fun v _ => v = VV 0 (0) ⟨#[]⟩),
          own1 7 (fun v _ => v = .int .i64 160),
          own1 8 (BoxP w4.heap.size),
          (fun f w => ∃ u, f 8 = .pointer (some ⟨u, 0, none⟩) ∧ w4.heap.size ≤ u ∧ w.heap[u]? = some (vbox 0 (0) ⟨#[]⟩))] k) := fun k hk => match k, hk with
        | 0, _ => KeepF.own1 (EV.keeps _)
        | 1, _ => KeepF.own1 (EV.keeps _)
        | 2, _ => KeepF.own1 (EV.keeps _)
        | 3, _ => KeepF.own1 (Keeps.const _)
        | 4, _ => KeepF.own1 (Keeps.const _)
        | 5, _ => KeepF.own1 (Keeps.const _)
        | 6, _ => KeepF.own1 (Keeps.const _)
        | 7, _ => KeepF.own1 (Keeps.const _)
        | 8, _ => KeepF.own1 keepBox
        | 9, _ => (fun f w w' hb ⟨u, e, hu, h⟩ => ⟨u, e, hu, (hb.block u (Array.getElem?_eq_some_iff.1 h).1).trans h⟩)
        | k + 10, h => absurd h (by omega)
      refine wp_region_inv2 (n := 10) (ds := [some 44, some 45, some 46, some 47, some 48, some 43, some 49, some 50, some 7, none, some 8]) (need := [[], [], [0, 1], [], [2, 3], [4], [5], [5], [], [0, 1, 2, 3, 4, 5, 6, 8], [0, 1, 2, 3, 4, 5, 6, 7, 8, 9]]) (B := w4.heap.size) (Gs := [
          own1 0 (EV cE),
          own1 1 (EV (nE 0)),
          own1 2 (EV (oE 13 cE (nE 0))),
          own1 3 (fun v _ => v = .slice (some ⟨ur, 0, none⟩) 2 2),
          own1 4 (fun v _ => v = .tuple #[VV 0 (0) ⟨#[]⟩, .int .i64 160]),
          own1 5 (fun v _ => v = .tuple #[VV 0 (0) ⟨#[]⟩, .int .i64 160]),
          own1 6 (fun v _ => v = VV 0 (0) ⟨#[]⟩),
          own1 7 (fun v _ => v = .int .i64 160),
          own1 8 (BoxP w4.heap.size),
          (fun f w => ∃ u, f 8 = .pointer (some ⟨u, 0, none⟩) ∧ w4.heap.size ≤ u ∧ w.heap[u]? = some (vbox 0 (0) ⟨#[]⟩))])
        (by kernel_rfl) (by kernel_rfl) (by decide) (by kernel_rfl) (by kernel_rfl) (by kernel_rfl) (fun k hk => match k, hk with
          | 0, _ => Loc.own1 (k := 0) (g := (EV cE))
          | 1, _ => Loc.own1 (k := 1) (g := (EV (nE 0)))
          | 2, _ => Loc.own1 (k := 2) (g := (EV (oE 13 cE (nE 0))))
          | 3, _ => Loc.own1 (k := 3) (g := (fun v _ => v = .slice (some ⟨ur, 0, none⟩) 2 2))
          | 4, _ => Loc.own1 (k := 4) (g := (fun v _ => v = .tuple #[VV 0 (0) ⟨#[]⟩, .int .i64 160]))
          | 5, _ => Loc.own1 (k := 5) (g := (fun v _ => v = .tuple #[VV 0 (0) ⟨#[]⟩, .int .i64 160]))
          | 6, _ => Loc.own1 (k := 6) (g := (fun v _ => v = VV 0 (0) ⟨#[]⟩))
          | 7, _ => Loc.own1 (k := 7) (g := (fun v _ => v = .int .i64 160))
          | 8, _ => Loc.own1 (k := 8) (g := (BoxP w4.heap.size))
          | 9, _ => (fun f f' w h ⟨u, e, hu, hb⟩ => ⟨u, by rw [← h 8 (.inr (by decide))]; exact e, hu, hb⟩)
          | k + 10, h => absurd h (by omega)) ?_ ?_
      · refine Each2.cons rfl (StepOk2.plain (g := (EV cE)) rfl rfl rfl rfl (of_decide_eq_true (by kernel_rfl)) (Nat.le_refl _) hK (fun a w hs hR hr pre => ?_)) ?_
        · have ep : a.eval (.tmp 1) = .pointer (some ⟨wI.heap.size, 0, none⟩) := hr 1 (by decide)
          exact wp_pure (run_ldE rfl ep (XC.ofBox ((hR.block wI.heap.size HM.out.cLt).trans HM.out.c))) (EV.leaf _ _)
        refine Each2.cons rfl (StepOk2.plain (g := (EV (nE 0))) rfl rfl rfl rfl (of_decide_eq_true (by kernel_rfl)) (Nat.le_refl _) hK (fun a w hs hR hr pre => ?_)) ?_
        · exact wp_fn (vs := #[.int .i64 0]) rfl Tryz.func14 (by kernel_rfl) (by kernel_rfl) (by simp only [List.map_toArray, List.map_cons, List.map_nil, eval_const]) (num_ev _ _)
        refine Each2.cons rfl (StepOk2.plain (g := (EV (oE 13 cE (nE 0)))) rfl rfl rfl rfl (of_decide_eq_true (by kernel_rfl)) (Nat.le_refl _) hK (fun a w hs hR hr pre => ?_)) ?_
        · have h44 : EV cE (a.eval (.tmp 44)) w := pre 0 (by decide)
          have h45 : EV (nE 0) (a.eval (.tmp 45)) w := pre 1 (by decide)
          exact wp_fn (vs := #[.int .i64 13, a.eval (.tmp 44), a.eval (.tmp 45)]) rfl Tryz.func13 (by kernel_rfl) (by kernel_rfl) (by simp only [List.map_toArray, List.map_cons, List.map_nil, eval_const]) (op_ev h44 h45)
        refine Each2.cons rfl (StepOk2.plain (g := (fun v _ => v = .slice (some ⟨ur, 0, none⟩) 2 2)) rfl rfl rfl rfl (of_decide_eq_true (by kernel_rfl)) (Nat.le_refl _) hK (fun a w hs hR hr pre => ?_)) ?_
        · have ep : a.eval (.tmp 2) = .slice (some ⟨ur, 0, none⟩) 2 2 := hr 2 (by decide)
          exact wp_pure (run_move rfl) ep
        refine Each2.cons rfl (StepOk2.plain (g := (fun v _ => v = .tuple #[VV 0 (0) ⟨#[]⟩, .int .i64 160])) rfl rfl rfl rfl (of_decide_eq_true (by kernel_rfl)) (Nat.le_refl _) hK (fun a w hs hR hr pre => ?_)) ?_
        · have h46 : EV (oE 13 cE (nE 0)) (a.eval (.tmp 46)) w := pre 2 (by decide)
          have e47 : a.eval (.tmp 47) = .slice (some ⟨ur, 0, none⟩) 2 2 := pre 3 (by decide)
          exact wp_fn (vs := #[a.eval (.tmp 46), .slice (some ⟨ur, 0, none⟩) 2 2]) rfl Tryz.func12 (by kernel_rfl) (by kernel_rfl) (by simp only [List.map_toArray, List.map_cons, List.map_nil, e47]) (rv_eval h46 (smO smC (smN _)) (by decide) (HM.out.next2 (bt (Below.drew (Below.refl _ _)) hR)).row (HM.out.next2 (bt (Below.drew (Below.refl _ _)) hR)).tab (HM.out.next2 (bt (Below.drew (Below.refl _ _)) hR)).tabs evZero)
        refine Each2.cons rfl (StepOk2.plain (g := (fun v _ => v = .tuple #[VV 0 (0) ⟨#[]⟩, .int .i64 160])) rfl rfl rfl rfl (of_decide_eq_true (by kernel_rfl)) (Nat.le_refl _) hK (fun a w hs hR hr pre => ?_)) ?_
        · have e48 : a.eval (.tmp 48) = .tuple #[VV 0 (0) ⟨#[]⟩, .int .i64 160] := pre 4 (by decide)
          exact wp_pure (run_move rfl) e48
        refine Each2.cons rfl (StepOk2.plain (g := (fun v _ => v = VV 0 (0) ⟨#[]⟩)) rfl rfl rfl rfl (of_decide_eq_true (by kernel_rfl)) (Nat.le_refl _) hK (fun a w hs hR hr pre => ?_)) ?_
        · have e43 : a.eval (.tmp 43) = .tuple #[VV 0 (0) ⟨#[]⟩, .int .i64 160] := pre 5 (by decide)
          exact wp_pure (run_ext0 rfl e43) rfl
        refine Each2.cons rfl (StepOk2.plain (g := (fun v _ => v = .int .i64 160)) rfl rfl rfl rfl (of_decide_eq_true (by kernel_rfl)) (Nat.le_refl _) hK (fun a w hs hR hr pre => ?_)) ?_
        · have e43 : a.eval (.tmp 43) = .tuple #[VV 0 (0) ⟨#[]⟩, .int .i64 160] := pre 5 (by decide)
          exact wp_pure (run_ext1 rfl e43) rfl
        refine Each2.cons rfl (StepOk2.plain (g := (BoxP w4.heap.size)) rfl rfl rfl rfl (of_decide_eq_true (by kernel_rfl)) (Nat.le_refl _) hK (fun a w hs hR hr pre => ?_)) ?_
        · exact wp_made (run_alloc3 rfl) ⟨w.heap.size, 0, 0, ⟨#[]⟩, rfl, hR.size, (MapKept.heap_alloc w _).1⟩
        refine Each2.cons rfl (StepOk2.store rfl rfl (fun a w hs hR hr pre => ?_)) ?_
        · obtain ⟨u, k0, n0, s0, e7, hu, hbx⟩ : ∃ u k n s, a.eval (.tmp 7) = .pointer (some ⟨u, 0, none⟩) ∧ w4.heap.size ≤ u ∧ w.heap[u]? = some (vbox k n s) := pre 8 (by decide)
          have ev : a.eval (.tmp 49) = VV 0 (0) ⟨#[]⟩ := pre 6 (by decide)
          refine ⟨_, run_st3 rfl e7 ev (bx_of hbx), below_set3 (Below.refl _ _) hu, fun k hk hne h => ?_, ⟨u, e7, hu, put3_heap hbx _ _ _⟩⟩
          exact (match k, hk, hne, h with
            | 0, _, _, h => EV.put3 (show EV cE (slotAt _ a 0) w from h) hbx _ _ _
            | 1, _, _, h => EV.put3 (show EV (nE 0) (slotAt _ a 1) w from h) hbx _ _ _
            | 2, _, _, h => EV.put3 (show EV (oE 13 cE (nE 0)) (slotAt _ a 2) w from h) hbx _ _ _
            | 3, _, _, h => h
            | 4, _, _, h => h
            | 5, _, _, h => h
            | 6, _, _, h => h
            | 7, _, _, h => h
            | 8, _, _, _ => ⟨u, _, _, _, e7, hu, put3_heap hbx _ _ _⟩
            | 9, _, h, _ => absurd rfl h
            | k + 10, h, _, _ => absurd h (by omega))
        exact Each2.nil
      · intro v w5 hB hu hG
        obtain ⟨ug, ea, hua, hba⟩ : ∃ u, v 8 = .pointer (some ⟨u, 0, none⟩) ∧ w4.heap.size ≤ u ∧ w5.heap[u]? = some (vbox 0 (0) ⟨#[]⟩) := hG 9 (by decide)
        have ec : v 7 = .int .i64 160 := hG 7 (by decide)
        simp only [List.take_succ_cons, List.take_zero, puts, Act.put, List.setIfInBounds_toArray, List.set_cons_zero, List.set_cons_succ, Nat.reduceAdd, ea, ec]
        have HM1 := Lib.hid ((HM.out.next2 (bt (Below.drew (Below.refl _ _)) hB)).box (u := ug) hba)
        clear hG hu hB hK hba hua ea ec HM
        refine wpAny_next (i := 10) (fuel := 0) (by kernel_rfl) rfl rfl ?_
        unfold Oper.wp
        rw [run_assign rfl]
        simp only [Act.put, List.setIfInBounds_toArray, List.set_cons_zero, List.set_cons_succ, Oper.upon]
        refine wpAny_done (by kernel_rfl) ?_ _
        have HM := HM1
        clear HM1
        skip
        skip
        go_wp2_with fail
        refine (num_any 1 _).mono ?_
        rintro e v1 ⟨rfl, hb⟩
        have HM := Lib.hid (HM.out.next2 hb)
        clear hb
        go_wp2_with fail
        refine (num_any 0 _).mono ?_
        rintro e v2 ⟨rfl, hb⟩
        have HM := Lib.hid (HM.out.next2 hb)
        clear hb
        go_wp2_with fail
        refine (op_ev (n := 13) (EV.leaf _ _) (EV.leaf _ _)).mono ?_
        rintro e v3 ⟨z, rfl, hb, Ad, cd, hz, _, hx⟩
        have HEd := Lib.hid (show EV (oE 13 (nE 1) (nE 0)) (XV (hdO 13) Ad 2 cd) v3 from ⟨Ad, cd, rfl, ‹_›, hx⟩)
        obtain rfl : z = XV (hdO 13) Ad 2 cd := hz
        have HM := Lib.hid (HM.out.next2 hb)
        clear hb hx
        go_wp2_with fail
        refine (num_any 1 _).mono ?_
        rintro e v4 ⟨rfl, hb⟩
        have HM := Lib.hid (HM.out.next2 hb)
        have HEd := Lib.hid (EV.next hb HEd.out)
        clear hb
        go_wp2_with fail
        refine (op_ev (n := 4) HEd.out (EV.leaf _ _)).mono ?_
        rintro e v5 ⟨z, rfl, hb, Ae, ce, hz, _, hx⟩
        have HEe := Lib.hid (show EV badE (XV (hdO 4) Ae 2 ce) v5 from ⟨Ae, ce, rfl, ‹_›, hx⟩)
        obtain rfl : z = XV (hdO 4) Ae 2 ce := hz
        have HM := Lib.hid (HM.out.next2 hb)
        clear hb hx
        clear HEd
        go_upto_region 7 with fail
        have HM := Lib.hid ((HM.out.next2 (ba v5 (xbox (hdO 4) Ae 2 ce))).ebox (u := v5.heap.size) (x := badE) (MapKept.heap_alloc v5 _).1 (EV.next (ba v5 (xbox (hdO 4) Ae 2 ce)) HEe.out))
        clear HEe
        generalize v5.heap.size = ubad at HM ⊢
        generalize v5.alloc (.cells #[.int .i64 3, .int .i64 4, .int .i64 0, .int .i64 0, .string ⟨#[]⟩, .string ⟨#[]⟩, .string ⟨#[]⟩, .slice Ae 2 ce] 30) = v6 at HM ⊢
        go_wp2_with fail
        refine (num_any 2 _).mono ?_
        rintro e v7 ⟨rfl, hb⟩
        have HM := Lib.hid (HM.out.next2 hb)
        clear hb
        go_wp2_with fail
        refine (num_any 1 _).mono ?_
        rintro e v8 ⟨rfl, hb⟩
        have HM := Lib.hid (HM.out.next2 hb)
        clear hb
        go_wp2_with fail
        refine (op_ev (n := 6) (EV.leaf _ _) (EV.leaf _ _)).mono ?_
        rintro e v9 ⟨z, rfl, hb, Af, cf, hz, _, hx⟩
        have HEf := Lib.hid (show EV noE (XV (hdO 6) Af 2 cf) v9 from ⟨Af, cf, rfl, ‹_›, hx⟩)
        obtain rfl : z = XV (hdO 6) Af 2 cf := hz
        have HM := Lib.hid (HM.out.next2 hb)
        clear hb hx
        go_upto_region 8 with fail
        have HM := Lib.hid ((HM.out.next2 (ba v9 (xbox (hdO 6) Af 2 cf))).ebox (u := v9.heap.size) (x := noE) (MapKept.heap_alloc v9 _).1 (EV.next (ba v9 (xbox (hdO 6) Af 2 cf)) HEf.out))
        clear HEf
        generalize v9.heap.size = uno at HM ⊢
        generalize v9.alloc (.cells #[.int .i64 3, .int .i64 6, .int .i64 0, .int .i64 0, .string ⟨#[]⟩, .string ⟨#[]⟩, .string ⟨#[]⟩, .slice Af 2 cf] 30) = v10 at HM ⊢
        obtain ⟨Ap, cp, hp, hep⟩ := HM.out.get2 (u := uno) (n := 6) (a := nE 2) (b := nE 1) (by simp)
        obtain ⟨⟨p0, p1, p2, p3, p4, p5, p6, p7⟩, _⟩ := cell8 hp
        have HEp := Lib.hid hep
        clear hp hep
        obtain ⟨Aq, cq, hq, heq⟩ := HM.out.get2 (u := ubad) (n := 4) (a := oE 13 (nE 1) (nE 0)) (b := nE 1) (by simp)
        obtain ⟨⟨q0, q1, q2, q3, q4, q5, q6, q7⟩, _⟩ := cell8 hq
        have HEq := Lib.hid heq
        clear hq heq
        go_wp2_with fail
        refine (op_ev (n := 2) HEp.out HEq.out).mono ?_
        rintro e v11 ⟨z, rfl, hb, Ag, cg, hz, _, hx⟩
        have HEg := Lib.hid (show EV (oE 2 noE badE) (XV (hdO 2) Ag 2 cg) v11 from ⟨Ag, cg, rfl, ‹_›, hx⟩)
        obtain rfl : z = XV (hdO 2) Ag 2 cg := hz
        have HM := Lib.hid (HM.out.next2 hb)
        clear hb hx
        clear HEp HEq
        clear p0 p1 p2 p3 p4 p5 p6 p7
        clear q0 q1 q2 q3 q4 q5 q6 q7
        go_wp2_with fail
        refine (rv_eval HEg.out (smO (smO (smN _) (smN _)) (smO (smO (smN _) (smN _)) (smN _))) (by decide) HM.out.row HM.out.tab HM.out.tabs evAnd).mono ?_
        rintro e v12 ⟨_, rfl, hb, rfl⟩
        have HM := Lib.hid (HM.out.next2 hb)
        clear hb
        clear HEg
        go_upto_region 9 with fail
        have HM := Lib.hid ((HM.out.next2 (ba v12 (vbox 1 0 ⟨#[]⟩))).box (u := v12.heap.size) (k := 1) (n := 0) (MapKept.heap_alloc v12 _).1)
        generalize v12.heap.size = ud at HM ⊢
        generalize v12.alloc (.cells #[.int .i64 1, .int .i64 0, .string ⟨#[]⟩] 28) = v13 at HM ⊢
        obtain ⟨Aq, cq, hq, heq⟩ := HM.out.get2 (u := ubad) (n := 4) (a := oE 13 (nE 1) (nE 0)) (b := nE 1) (by simp)
        obtain ⟨⟨q0, q1, q2, q3, q4, q5, q6, q7⟩, _⟩ := cell8 hq
        have HEq := Lib.hid heq
        clear hq heq
        obtain ⟨Ap, cp, hp, hep⟩ := HM.out.get2 (u := uno) (n := 6) (a := nE 2) (b := nE 1) (by simp)
        obtain ⟨⟨p0, p1, p2, p3, p4, p5, p6, p7⟩, _⟩ := cell8 hp
        have HEp := Lib.hid hep
        clear hp hep
        go_wp2_with fail
        refine (op_ev (n := 2) HEq.out HEp.out).mono ?_
        rintro e v14 ⟨z, rfl, hb, Ag, cg, hz, _, hx⟩
        have HEg := Lib.hid (show EV (oE 2 badE noE) (XV (hdO 2) Ag 2 cg) v14 from ⟨Ag, cg, rfl, ‹_›, hx⟩)
        obtain rfl : z = XV (hdO 2) Ag 2 cg := hz
        have HM := Lib.hid (HM.out.next2 hb)
        clear hb hx
        clear HEp HEq
        clear p0 p1 p2 p3 p4 p5 p6 p7
        clear q0 q1 q2 q3 q4 q5 q6 q7
        go_wp2_with fail
        refine (rv_holds HEg.out (smO (smO (smO (smN _) (smN _)) (smN _)) (smO (smN _) (smN _))) (by decide) HM.out.row HM.out.tab HM.out.tabs hoAnd).mono ?_
        rintro e v15 ⟨_, rfl, hb, rfl⟩
        have HM := Lib.hid (HM.out.next2 hb)
        clear hb
        clear HEg
        obtain ⟨Aq, cq, hq, heq⟩ := HM.out.get2 (u := ubad) (n := 4) (a := oE 13 (nE 1) (nE 0)) (b := nE 1) (by simp)
        obtain ⟨⟨q0, q1, q2, q3, q4, q5, q6, q7⟩, _⟩ := cell8 hq
        have HEq := Lib.hid heq
        clear hq heq
        go_wp2_with fail
        refine (rv_holds HEq.out (smO (smO (smN _) (smN _)) (smN _)) (by decide) HM.out.row HM.out.tab HM.out.tabs hoBad).mono ?_
        rintro e v16 ⟨_, rfl, hb, rfl⟩
        have HM := Lib.hid (HM.out.next2 hb)
        clear hb
        clear HEq
        clear q0 q1 q2 q3 q4 q5 q6 q7
        go_upto_region 11 with fail
        have hK : ∀ k, k < 12 → KeepF (gAt [
            own1 0 (fun v _ => v = .slice (some ⟨ur, 0, none⟩) 2 2),
            own1 1 (fun v _ => v = .pointer (some ⟨ur, 3, none⟩)),
            own1 2 (fun v _ => v = VV 2 (-7) ⟨#[]⟩),
            own1 3 (fun v _ => v = VV 0 0 ⟨#[]⟩),
            own1 4 (fun v _ => v = VV 2 9 ⟨#[]⟩),
            own1 5 (Three ⟨2, -7, ⟨#[]⟩⟩ nullA ⟨2, 9, ⟨#[]⟩⟩),
            own1 6 (fun v _ => v = .tuple #[VV 2 2 ⟨#[]⟩, .int .i64 0]),
            own1 7 (fun v _ => v = .tuple #[VV 2 2 ⟨#[]⟩, .int .i64 0]),
            own1 8 (fun v _ => v = VV 2 2 ⟨#[]⟩),
            own1 9 (fun v _ => v = .int .i64 0),
            own1 10 (BoxP v16.heap.size),
            (fun f w => ∃ u, f 10 = .pointer (some ⟨u, 0, none⟩) ∧ v16.heap.size ≤ u ∧ w.heap[u]? = some (vbox 2 (2) ⟨#[]⟩))] k) := fun k hk => match k, hk with
          | 0, _ => KeepF.own1 (Keeps.const _)
          | 1, _ => KeepF.own1 (Keeps.const _)
          | 2, _ => KeepF.own1 (Keeps.const _)
          | 3, _ => KeepF.own1 (Keeps.const _)
          | 4, _ => KeepF.own1 (Keeps.const _)
          | 5, _ => KeepF.own1 (Three.keeps _ _ _)
          | 6, _ => KeepF.own1 (Keeps.const _)
          | 7, _ => KeepF.own1 (Keeps.const _)
          | 8, _ => KeepF.own1 (Keeps.const _)
          | 9, _ => KeepF.own1 (Keeps.const _)
          | 10, _ => KeepF.own1 keepBox
          | 11, _ => (fun f w w' hb ⟨u, e, hu, h⟩ => ⟨u, e, hu, (hb.block u (Array.getElem?_eq_some_iff.1 h).1).trans h⟩)
          | k + 12, h => absurd h (by omega)
        refine wp_region_inv2 (n := 12) (ds := [some 82, some 83, some 84, some 85, some 86, some 87, some 88, some 81, some 89, some 90, some 17, none, some 18]) (need := [[], [0], [1], [], [], [2, 3, 4], [4, 5], [6], [7], [7], [], [0, 1, 2, 3, 4, 5, 6, 7, 8, 10], [0, 1, 2, 3, 4, 5, 6, 7, 8, 9, 10, 11]]) (B := v16.heap.size) (Gs := [
            own1 0 (fun v _ => v = .slice (some ⟨ur, 0, none⟩) 2 2),
            own1 1 (fun v _ => v = .pointer (some ⟨ur, 3, none⟩)),
            own1 2 (fun v _ => v = VV 2 (-7) ⟨#[]⟩),
            own1 3 (fun v _ => v = VV 0 0 ⟨#[]⟩),
            own1 4 (fun v _ => v = VV 2 9 ⟨#[]⟩),
            own1 5 (Three ⟨2, -7, ⟨#[]⟩⟩ nullA ⟨2, 9, ⟨#[]⟩⟩),
            own1 6 (fun v _ => v = .tuple #[VV 2 2 ⟨#[]⟩, .int .i64 0]),
            own1 7 (fun v _ => v = .tuple #[VV 2 2 ⟨#[]⟩, .int .i64 0]),
            own1 8 (fun v _ => v = VV 2 2 ⟨#[]⟩),
            own1 9 (fun v _ => v = .int .i64 0),
            own1 10 (BoxP v16.heap.size),
            (fun f w => ∃ u, f 10 = .pointer (some ⟨u, 0, none⟩) ∧ v16.heap.size ≤ u ∧ w.heap[u]? = some (vbox 2 (2) ⟨#[]⟩))])
          (by kernel_rfl) (by kernel_rfl) (by decide) (by kernel_rfl) (by kernel_rfl) (by kernel_rfl) (fun k hk => match k, hk with
            | 0, _ => Loc.own1 (k := 0) (g := (fun v _ => v = .slice (some ⟨ur, 0, none⟩) 2 2))
            | 1, _ => Loc.own1 (k := 1) (g := (fun v _ => v = .pointer (some ⟨ur, 3, none⟩)))
            | 2, _ => Loc.own1 (k := 2) (g := (fun v _ => v = VV 2 (-7) ⟨#[]⟩))
            | 3, _ => Loc.own1 (k := 3) (g := (fun v _ => v = VV 0 0 ⟨#[]⟩))
            | 4, _ => Loc.own1 (k := 4) (g := (fun v _ => v = VV 2 9 ⟨#[]⟩))
            | 5, _ => Loc.own1 (k := 5) (g := (Three ⟨2, -7, ⟨#[]⟩⟩ nullA ⟨2, 9, ⟨#[]⟩⟩))
            | 6, _ => Loc.own1 (k := 6) (g := (fun v _ => v = .tuple #[VV 2 2 ⟨#[]⟩, .int .i64 0]))
            | 7, _ => Loc.own1 (k := 7) (g := (fun v _ => v = .tuple #[VV 2 2 ⟨#[]⟩, .int .i64 0]))
            | 8, _ => Loc.own1 (k := 8) (g := (fun v _ => v = VV 2 2 ⟨#[]⟩))
            | 9, _ => Loc.own1 (k := 9) (g := (fun v _ => v = .int .i64 0))
            | 10, _ => Loc.own1 (k := 10) (g := (BoxP v16.heap.size))
            | 11, _ => (fun f f' w h ⟨u, e, hu, hb⟩ => ⟨u, by rw [← h 10 (.inr (by decide))]; exact e, hu, hb⟩)
            | k + 12, h => absurd h (by omega)) ?_ ?_
        · refine Each2.cons rfl (StepOk2.plain (g := (fun v _ => v = .slice (some ⟨ur, 0, none⟩) 2 2)) rfl rfl rfl rfl (of_decide_eq_true (by kernel_rfl)) (Nat.le_refl _) hK (fun a w hs hR hr pre => ?_)) ?_
          · have ep : a.eval (.tmp 2) = .slice (some ⟨ur, 0, none⟩) 2 2 := hr 2 (by decide)
            exact wp_pure (run_move rfl) ep
          refine Each2.cons rfl (StepOk2.plain (g := (fun v _ => v = .pointer (some ⟨ur, 3, none⟩))) rfl rfl rfl rfl (of_decide_eq_true (by kernel_rfl)) (Nat.le_refl _) hK (fun a w hs hR hr pre => ?_)) ?_
          · have e82 : a.eval (.tmp 82) = .slice (some ⟨ur, 0, none⟩) 2 2 := pre 0 (by decide)
            exact wp_pure (run_ixV1 rfl e82) rfl
          refine Each2.cons rfl (StepOk2.plain (g := (fun v _ => v = VV 2 (-7) ⟨#[]⟩)) rfl rfl rfl rfl (of_decide_eq_true (by kernel_rfl)) (Nat.le_refl _) hK (fun a w hs hR hr pre => ?_)) ?_
          · have e83 : a.eval (.tmp 83) = .pointer (some ⟨ur, 3, none⟩) := pre 1 (by decide)
            have hrb := (HM.out.next2 (bt (Below.drew (Below.refl _ _)) hR)).r
            exact wp_pure (run_ldVm rfl e83 (by simp only [World.cell?, hrb]; rfl) (by simp only [World.cell?, hrb]; rfl) (by simp only [World.cell?, hrb]; rfl)) rfl
          refine Each2.cons rfl (StepOk2.plain (g := (fun v _ => v = VV 0 0 ⟨#[]⟩)) rfl rfl rfl rfl (of_decide_eq_true (by kernel_rfl)) (Nat.le_refl _) hK (fun a w hs hR hr pre => ?_)) ?_
          · exact wp_pure (run_zeroV rfl) rfl
          refine Each2.cons rfl (StepOk2.plain (g := (fun v _ => v = VV 2 9 ⟨#[]⟩)) rfl rfl rfl rfl (of_decide_eq_true (by kernel_rfl)) (Nat.le_refl _) hK (fun a w hs hR hr pre => ?_)) ?_
          · exact wp_fn (vs := #[.int .i64 9]) rfl Tryz.func11 (by kernel_rfl) (by kernel_rfl) (by simp only [List.map_toArray, List.map_cons, List.map_nil, eval_const]) ((refInt_any 9 _).mono fun _ _ ⟨h1, h2⟩ => ⟨_, h1, h2, rfl⟩)
          refine Each2.cons rfl (StepOk2.plain (g := (Three ⟨2, -7, ⟨#[]⟩⟩ nullA ⟨2, 9, ⟨#[]⟩⟩)) rfl rfl rfl rfl (of_decide_eq_true (by kernel_rfl)) (Nat.le_refl _) hK (fun a w hs hR hr pre => ?_)) ?_
          · have e84 : a.eval (.tmp 84) = VV 2 (-7) ⟨#[]⟩ := pre 2 (by decide)
            have e85 : a.eval (.tmp 85) = VV 0 0 ⟨#[]⟩ := pre 3 (by decide)
            have e86 : a.eval (.tmp 86) = VV 2 9 ⟨#[]⟩ := pre 4 (by decide)
            exact wp_bs3 (p := ⟨2, -7, ⟨#[]⟩⟩) (q := nullA) (r := ⟨2, 9, ⟨#[]⟩⟩) rfl e84 e85 e86
          refine Each2.cons rfl (StepOk2.plain (g := (fun v _ => v = .tuple #[VV 2 2 ⟨#[]⟩, .int .i64 0])) rfl rfl rfl rfl (of_decide_eq_true (by kernel_rfl)) (Nat.le_refl _) hK (fun a w hs hR hr pre => ?_)) ?_
          · have h87 : Three ⟨2, -7, ⟨#[]⟩⟩ nullA ⟨2, 9, ⟨#[]⟩⟩ (a.eval (.tmp 87)) w := pre 5 (by decide)
            exact wp_fn (vs := #[.int .i64 3, a.eval (.tmp 87)]) rfl Tryz.func15 (by kernel_rfl) (by kernel_rfl) (by simp only [List.map_toArray, List.map_cons, List.map_nil, eval_const]) (rv_fold h87)
          refine Each2.cons rfl (StepOk2.plain (g := (fun v _ => v = .tuple #[VV 2 2 ⟨#[]⟩, .int .i64 0])) rfl rfl rfl rfl (of_decide_eq_true (by kernel_rfl)) (Nat.le_refl _) hK (fun a w hs hR hr pre => ?_)) ?_
          · have e88 : a.eval (.tmp 88) = .tuple #[VV 2 2 ⟨#[]⟩, .int .i64 0] := pre 6 (by decide)
            exact wp_pure (run_move rfl) e88
          refine Each2.cons rfl (StepOk2.plain (g := (fun v _ => v = VV 2 2 ⟨#[]⟩)) rfl rfl rfl rfl (of_decide_eq_true (by kernel_rfl)) (Nat.le_refl _) hK (fun a w hs hR hr pre => ?_)) ?_
          · have e81 : a.eval (.tmp 81) = .tuple #[VV 2 2 ⟨#[]⟩, .int .i64 0] := pre 7 (by decide)
            exact wp_pure (run_ext0 rfl e81) rfl
          refine Each2.cons rfl (StepOk2.plain (g := (fun v _ => v = .int .i64 0)) rfl rfl rfl rfl (of_decide_eq_true (by kernel_rfl)) (Nat.le_refl _) hK (fun a w hs hR hr pre => ?_)) ?_
          · have e81 : a.eval (.tmp 81) = .tuple #[VV 2 2 ⟨#[]⟩, .int .i64 0] := pre 7 (by decide)
            exact wp_pure (run_ext1 rfl e81) rfl
          refine Each2.cons rfl (StepOk2.plain (g := (BoxP v16.heap.size)) rfl rfl rfl rfl (of_decide_eq_true (by kernel_rfl)) (Nat.le_refl _) hK (fun a w hs hR hr pre => ?_)) ?_
          · exact wp_made (run_alloc3 rfl) ⟨w.heap.size, 0, 0, ⟨#[]⟩, rfl, hR.size, (MapKept.heap_alloc w _).1⟩
          refine Each2.cons rfl (StepOk2.store rfl rfl (fun a w hs hR hr pre => ?_)) ?_
          · obtain ⟨u, k0, n0, s0, e17, hu, hbx⟩ : ∃ u k n s, a.eval (.tmp 17) = .pointer (some ⟨u, 0, none⟩) ∧ v16.heap.size ≤ u ∧ w.heap[u]? = some (vbox k n s) := pre 10 (by decide)
            have ev : a.eval (.tmp 89) = VV 2 (2) ⟨#[]⟩ := pre 8 (by decide)
            refine ⟨_, run_st3 rfl e17 ev (bx_of hbx), below_set3 (Below.refl _ _) hu, fun k hk hne h => ?_, ⟨u, e17, hu, put3_heap hbx _ _ _⟩⟩
            exact (match k, hk, hne, h with
              | 0, _, _, h => h
              | 1, _, _, h => h
              | 2, _, _, h => h
              | 3, _, _, h => h
              | 4, _, _, h => h
              | 5, _, _, h => Three.set3 (show Three ⟨2, -7, ⟨#[]⟩⟩ nullA ⟨2, 9, ⟨#[]⟩⟩ (slotAt _ a 5) w from h) hbx _ _ _
              | 6, _, _, h => h
              | 7, _, _, h => h
              | 8, _, _, h => h
              | 9, _, _, h => h
              | 10, _, _, _ => ⟨u, _, _, _, e17, hu, put3_heap hbx _ _ _⟩
              | 11, _, h, _ => absurd rfl h
              | k + 12, h, _, _ => absurd h (by omega))
          exact Each2.nil
        · intro v w11 hB hu hG
          obtain ⟨us, ea, hua, hba⟩ : ∃ u, v 10 = .pointer (some ⟨u, 0, none⟩) ∧ v16.heap.size ≤ u ∧ w11.heap[u]? = some (vbox 2 (2) ⟨#[]⟩) := hG 11 (by decide)
          have ec : v 9 = .int .i64 0 := hG 9 (by decide)
          simp only [List.take_succ_cons, List.take_zero, puts, Act.put, List.setIfInBounds_toArray, List.set_cons_zero, List.set_cons_succ, Nat.reduceAdd, ea, ec]
          have HM1 := Lib.hid ((HM.out.next2 (bt (Below.drew (Below.refl _ _)) hB)).box (u := us) hba)
          clear hG hu hB hK hba hua ea ec HM
          refine wpAny_next (i := 12) (fuel := 0) (by kernel_rfl) rfl rfl ?_
          unfold Oper.wp
          rw [run_assign rfl]
          simp only [Act.put, List.setIfInBounds_toArray, List.set_cons_zero, List.set_cons_succ, Oper.upon]
          refine wpAny_done (by kernel_rfl) ?_ _
          have HM := HM1
          clear HM1
          skip
          go_upto_region 12 with fail
          have hK : ∀ k, k < 9 → KeepF (gAt [
              own1 0 (EV cE),
              own1 1 (EV (nE 3)),
              own1 2 (LV [cE, nE 3]),
              own1 3 (fun v _ => v = .slice (some ⟨ur, 0, none⟩) 2 2),
              own1 4 RowT,
              own1 5 RowT,
              own1 6 RowS,
              own1 7 (fun v _ => v = .int .i64 0),
              own1 8 RowS] k) := fun k hk => match k, hk with
            | 0, _ => KeepF.own1 (EV.keeps _)
            | 1, _ => KeepF.own1 (EV.keeps _)
            | 2, _ => KeepF.own1 (LV.keeps _)
            | 3, _ => KeepF.own1 (Keeps.const _)
            | 4, _ => KeepF.own1 RowT.keeps
            | 5, _ => KeepF.own1 RowT.keeps
            | 6, _ => KeepF.own1 RowS.keeps
            | 7, _ => KeepF.own1 (Keeps.const _)
            | 8, _ => KeepF.own1 RowS.keeps
            | k + 9, h => absurd h (by omega)
          refine wp_region_inv2 (n := 9) (ds := [some 92, some 93, some 94, some 95, some 96, some 91, some 97, some 98, some 19, some 20]) (need := [[], [], [0, 1], [], [1, 2, 3], [4], [5], [5], [0, 1, 2, 3, 4, 5, 6], [0, 1, 2, 3, 4, 5, 6, 7, 8]]) (B := w11.heap.size) (Gs := [
              own1 0 (EV cE),
              own1 1 (EV (nE 3)),
              own1 2 (LV [cE, nE 3]),
              own1 3 (fun v _ => v = .slice (some ⟨ur, 0, none⟩) 2 2),
              own1 4 RowT,
              own1 5 RowT,
              own1 6 RowS,
              own1 7 (fun v _ => v = .int .i64 0),
              own1 8 RowS])
            (by kernel_rfl) (by kernel_rfl) (by decide) (by kernel_rfl) (by kernel_rfl) (by kernel_rfl) (fun k hk => match k, hk with
              | 0, _ => Loc.own1 (k := 0) (g := (EV cE))
              | 1, _ => Loc.own1 (k := 1) (g := (EV (nE 3)))
              | 2, _ => Loc.own1 (k := 2) (g := (LV [cE, nE 3]))
              | 3, _ => Loc.own1 (k := 3) (g := (fun v _ => v = .slice (some ⟨ur, 0, none⟩) 2 2))
              | 4, _ => Loc.own1 (k := 4) (g := RowT)
              | 5, _ => Loc.own1 (k := 5) (g := RowT)
              | 6, _ => Loc.own1 (k := 6) (g := RowS)
              | 7, _ => Loc.own1 (k := 7) (g := (fun v _ => v = .int .i64 0))
              | 8, _ => Loc.own1 (k := 8) (g := RowS)
              | k + 9, h => absurd h (by omega)) ?_ ?_
          · refine Each2.cons rfl (StepOk2.plain (g := (EV cE)) rfl rfl rfl rfl (of_decide_eq_true (by kernel_rfl)) (Nat.le_refl _) hK (fun a w hs hR hr pre => ?_)) ?_
            · have ep : a.eval (.tmp 1) = .pointer (some ⟨wI.heap.size, 0, none⟩) := hr 1 (by decide)
              exact wp_pure (run_ldE rfl ep (XC.ofBox ((hR.block wI.heap.size HM.out.cLt).trans HM.out.c))) (EV.leaf _ _)
            refine Each2.cons rfl (StepOk2.plain (g := (EV (nE 3))) rfl rfl rfl rfl (of_decide_eq_true (by kernel_rfl)) (Nat.le_refl _) hK (fun a w hs hR hr pre => ?_)) ?_
            · exact wp_fn (vs := #[.int .i64 3]) rfl Tryz.func14 (by kernel_rfl) (by kernel_rfl) (by simp only [List.map_toArray, List.map_cons, List.map_nil, eval_const]) (num_ev _ _)
            refine Each2.cons rfl (StepOk2.plain (g := (LV [cE, nE 3])) rfl rfl rfl rfl (of_decide_eq_true (by kernel_rfl)) (Nat.le_refl _) hK (fun a w hs hR hr pre => ?_)) ?_
            · have h92 : EV cE (a.eval (.tmp 92)) w := pre 0 (by decide)
              have h93 : EV (nE 3) (a.eval (.tmp 93)) w := pre 1 (by decide)
              exact wp_bs2 rfl h92 h93
            refine Each2.cons rfl (StepOk2.plain (g := (fun v _ => v = .slice (some ⟨ur, 0, none⟩) 2 2)) rfl rfl rfl rfl (of_decide_eq_true (by kernel_rfl)) (Nat.le_refl _) hK (fun a w hs hR hr pre => ?_)) ?_
            · have ep : a.eval (.tmp 2) = .slice (some ⟨ur, 0, none⟩) 2 2 := hr 2 (by decide)
              exact wp_pure (run_move rfl) ep
            refine Each2.cons rfl (StepOk2.plain (g := RowT) rfl rfl rfl rfl (of_decide_eq_true (by kernel_rfl)) (Nat.le_refl _) hK (fun a w hs hR hr pre => ?_)) ?_
            · have h94 : LV [cE, nE 3] (a.eval (.tmp 94)) w := pre 2 (by decide)
              have e95 : a.eval (.tmp 95) = .slice (some ⟨ur, 0, none⟩) 2 2 := pre 3 (by decide)
              exact wp_fn (vs := #[a.eval (.tmp 94), .slice (some ⟨ur, 0, none⟩) 2 2]) rfl Tryz.func16 (by kernel_rfl) (by kernel_rfl) (by simp only [List.map_toArray, List.map_cons, List.map_nil, e95]) (rv_row h94 (HM.out.next2 (bt (Below.drew (Below.refl _ _)) hR)).row (HM.out.next2 (bt (Below.drew (Below.refl _ _)) hR)).tab (HM.out.next2 (bt (Below.drew (Below.refl _ _)) hR)).tabs)
            refine Each2.cons rfl (StepOk2.plain (g := RowT) rfl rfl rfl rfl (of_decide_eq_true (by kernel_rfl)) (Nat.le_refl _) hK (fun a w hs hR hr pre => ?_)) ?_
            · have h96 : RowT (a.eval (.tmp 96)) w := pre 4 (by decide)
              exact wp_pure (run_move rfl) h96
            refine Each2.cons rfl (StepOk2.plain (g := RowS) rfl rfl rfl rfl (of_decide_eq_true (by kernel_rfl)) (Nat.le_refl _) hK (fun a w hs hR hr pre => ?_)) ?_
            · have h91 : RowT (a.eval (.tmp 91)) w := pre 5 (by decide)
              obtain ⟨g, c, e91, hrow⟩ := h91
              exact wp_pure (run_ext0 rfl e91) ⟨g, c, rfl, hrow⟩
            refine Each2.cons rfl (StepOk2.plain (g := (fun v _ => v = .int .i64 0)) rfl rfl rfl rfl (of_decide_eq_true (by kernel_rfl)) (Nat.le_refl _) hK (fun a w hs hR hr pre => ?_)) ?_
            · have h91 : RowT (a.eval (.tmp 91)) w := pre 5 (by decide)
              obtain ⟨g, c, e91, hrow⟩ := h91
              exact wp_pure (run_ext1 rfl e91) rfl
            refine Each2.cons rfl (StepOk2.plain (g := RowS) rfl rfl rfl rfl (of_decide_eq_true (by kernel_rfl)) (Nat.le_refl _) hK (fun a w hs hR hr pre => ?_)) ?_
            · have h97 : RowS (a.eval (.tmp 97)) w := pre 6 (by decide)
              exact wp_pure (run_assign rfl) h97
            exact Each2.nil
          · intro v w12 hB hu hG
            obtain ⟨g, cg, eg, hrow⟩ : RowS (v 8) w12 := hG 8 (by decide)
            have ec : v 7 = .int .i64 0 := hG 7 (by decide)
            simp only [List.take_succ_cons, List.take_zero, puts, Act.put, List.setIfInBounds_toArray, List.set_cons_zero, List.set_cons_succ, Nat.reduceAdd, eg, ec]
            have HRow := Lib.hid hrow
            have HM1 := Lib.hid (HM.out.next2 (bt (Below.drew (Below.refl _ _)) hB))
            clear hG hu hB hK hrow eg ec HM
            refine wpAny_next (i := 9) (fuel := 0) (by kernel_rfl) rfl rfl ?_
            unfold Oper.wp
            rw [run_assign rfl]
            simp only [Act.put, List.setIfInBounds_toArray, List.set_cons_zero, List.set_cons_succ, Oper.upon]
            refine wpAny_done (by kernel_rfl) ?_ _
            have HM := HM1
            clear HM1
            go_wp2_with fail
            refine (rv_eval (x := .mk (hdA 1) []) (EV.leaf _ _) (smA _) (by decide) HM.out.row HM.out.tab HM.out.tabs evAgg).mono ?_
            rintro e v17 ⟨_, rfl, hb, rfl⟩
            have HM := Lib.hid (HM.out.next2 hb)
            have HRow := Lib.hid (HRow.out.kept hb)
            clear hb
            go_upto_region 14 with fail
            have HM := Lib.hid (HM.out.next2 (ba v17 (vbox 0 0 ⟨#[]⟩)))
            have HRow := Lib.hid (HRow.out.kept (ba v17 (vbox 0 0 ⟨#[]⟩)))
            generalize v17.heap.size = ux at HM ⊢
            generalize v17.alloc (.cells #[.int .i64 0, .int .i64 0, .string ⟨#[]⟩] 28) = v18 at HM HRow ⊢
            skip
            refine wp_region_inv (n := 80) (ds := [some 105, some 106, some 107, some 108, some 109, some 110, some 111, some 112, some 113, some 114, some 115, some 116, some 117, some 118, some 119, some 120, some 121, some 122, some 123, some 124, some 125, some 126, some 127, some 128, some 129, some 130, some 131, some 132, some 133, some 134, some 135, some 136, some 137, some 138, some 139, some 140, some 141, some 142, some 143, some 144, some 145, some 146, some 147, some 148, some 149, some 150, some 151, some 152, some 153, some 154, some 155, some 156, some 157, some 158, some 159, some 160, some 161, some 162, some 163, some 164, some 165, some 166, some 167, some 168, some 169, some 170, some 171, some 172, some 173, some 174, some 175, some 176, some 177, some 178, some 179, some 180, some 181, some 182, some 183, some 0]) (need := [[], [0], [1], [2], [2, 3], [2, 4], [2, 5], [2, 6], [7], [7, 8], [7, 9], [7, 10], [11], [11, 12], [11, 13], [11, 14], [11, 15], [16], [16, 17], [16, 18], [16, 19], [20], [20, 21], [20, 22], [20, 23], [24], [24], [24, 25, 26], [24, 27], [26, 28], [29], [29, 30], [29, 31], [29, 32], [33], [33, 34], [33, 35], [33, 36], [37], [37, 38], [37, 39], [37, 40], [41], [41, 42], [41, 43], [41, 44], [45], [45, 46], [45, 47], [45, 48], [45, 49], [50], [50, 51], [50, 52], [50, 53], [54], [54, 55], [54, 56], [54, 57], [54, 58], [59], [59, 60], [59, 61], [59, 62], [59, 63], [59, 64], [59, 65], [66], [66, 67], [66, 68], [66, 69], [70], [70, 71], [70, 72], [72, 73], [74], [74, 75], [74, 76], [74, 77], [0, 1, 2, 3, 4, 5, 6, 7, 8, 9, 10, 11, 12, 13, 14, 15, 16, 17, 18, 19, 20, 21, 22, 23, 24, 25, 26, 27, 28, 29, 30, 31, 32, 33, 34, 35, 36, 37, 38, 39, 40, 41, 42, 43, 44, 45, 46, 47, 48, 49, 50, 51, 52, 53, 54, 55, 56, 57, 58, 59, 60, 61, 62, 63, 64, 65, 66, 67, 68, 69, 70, 71, 72, 73, 74, 75, 76, 77, 78]]) (R := Bel) (Gs := [
                (fun v _ => v = .int .i64 0),
                (fun v _ => v = .bool true),
                (fun v _ => v = .bool true),
                (fun v _ => v = .pointer (some ⟨ua, 0 + 1, none⟩)),
                (fun v _ => v = .int .i64 (-3)),
                (fun v _ => v = .bool true),
                (fun v _ => v = .bool true),
                (fun v _ => v = .bool true),
                (fun v _ => v = .int .i64 0),
                (fun v _ => v = .bool true),
                (fun v _ => v = .bool true),
                (fun v _ => v = .bool true),
                (fun v _ => v = .pointer (some ⟨ub, 0 + 1, none⟩)),
                (fun v _ => v = .int .i64 (-1)),
                (fun v _ => v = .bool true),
                (fun v _ => v = .bool true),
                (fun v _ => v = .bool true),
                (fun v _ => v = .int .i64 160),
                (fun v _ => v = .bool true),
                (fun v _ => v = .bool true),
                (fun v _ => v = .bool true),
                (fun v _ => v = .int .i64 0),
                (fun v _ => v = .bool true),
                (fun v _ => v = .bool true),
                (fun v _ => v = .bool true),
                (fun v _ => v = VV 1 (0) ⟨#[]⟩),
                (fun v _ => v = VV 1 0 ⟨#[]⟩),
                (fun v _ => v = .bool true),
                (fun v _ => v = .bool true),
                (fun v _ => v = .bool true),
                (fun v _ => v = .int .i64 0),
                (fun v _ => v = .bool true),
                (fun v _ => v = .bool true),
                (fun v _ => v = .bool true),
                (fun v _ => v = .bool false),
                (fun v _ => v = .bool true),
                (fun v _ => v = .bool true),
                (fun v _ => v = .bool true),
                (fun v _ => v = .int .i64 160),
                (fun v _ => v = .bool true),
                (fun v _ => v = .bool true),
                (fun v _ => v = .bool true),
                (fun v _ => v = .int .i64 0),
                (fun v _ => v = .bool true),
                (fun v _ => v = .bool true),
                (fun v _ => v = .bool true),
                (fun v _ => v = .pointer (some ⟨us, 0 + 1, none⟩)),
                (fun v _ => v = .int .i64 (2)),
                (fun v _ => v = .bool true),
                (fun v _ => v = .bool true),
                (fun v _ => v = .bool true),
                (fun v _ => v = .int .i64 0),
                (fun v _ => v = .bool true),
                (fun v _ => v = .bool true),
                (fun v _ => v = .bool true),
                (fun v _ => v = .slice (some ⟨g, 0, none⟩) 2 cg),
                (fun v _ => v = .int .i64 2),
                (fun v _ => v = .bool true),
                (fun v _ => v = .bool true),
                (fun v _ => v = .bool true),
                (fun v _ => v = .slice (some ⟨g, 0, none⟩) 2 cg),
                (fun v _ => v = .pointer (some ⟨g, 0 + 3, none⟩)),
                (fun v _ => v = .pointer (some ⟨g, 0 + 3 + 1, none⟩)),
                (fun v _ => v = .int .i64 3),
                (fun v _ => v = .bool true),
                (fun v _ => v = .bool true),
                (fun v _ => v = .bool true),
                (fun v _ => v = .int .i64 1),
                (fun v _ => v = .bool true),
                (fun v _ => v = .bool true),
                (fun v _ => v = .bool true),
                (EV badE),
                (fun v _ => v = .bool true),
                (fun v _ => v = .bool true),
                (fun v _ => v = .bool true),
                (EV noE),
                (fun v _ => v = .bool false),
                (fun v _ => v = .bool true),
                (fun v _ => v = .bool true),
                (fun v _ => v = .bool true)])
              (by kernel_rfl) (by kernel_rfl) (by decide) (by kernel_rfl) (by kernel_rfl) (by kernel_rfl) (fun x => Below.refl _ x) (fun _ _ _ h k => bt h k) ?_ ?_
            · refine Each.cons rfl (Keeps.const _) (StepOk.plain (g := (fun v _ => v = .int .i64 0)) rfl rfl rfl (fun a w hs hR hr pre => ?_)) ?_
              · have e4 : a.eval (.tmp 4) = .int .i64 0 := hr 4 (by decide)
                exact wp_pure (run_move rfl) e4
              refine Each.cons rfl (Keeps.const _) (StepOk.plain (g := (fun v _ => v = .bool true)) rfl rfl rfl (fun a w hs hR hr pre => ?_)) ?_
              · have e105 : a.eval (.tmp 105) = .int .i64 0 := pre 0 (by decide)
                exact wp_pure (run_eqI rfl e105 (eval_const _ _)) rfl
              refine Each.cons rfl (Keeps.const _) (StepOk.plain (g := (fun v _ => v = .bool true)) rfl rfl rfl (fun a w hs hR hr pre => ?_)) ?_
              · have e106 : a.eval (.tmp 106) = .bool true := pre 1 (by decide)
                exact wp_pure (run_move rfl) e106
              refine Each.cons rfl (Keeps.const _) (StepOk.guarded 2 107 true (g := (fun v _ => v = .pointer (some ⟨ua, 0 + 1, none⟩))) rfl rfl rfl rfl (fun a w hs hR hr pre => ⟨pre 2 (by decide), ?_⟩)) ?_
              · have ep : a.eval (.tmp 3) = .pointer (some ⟨ua, 0, none⟩) := hr 3 (by decide)
                exact wp_pure (run_fdV1 rfl ep) rfl
              refine Each.cons rfl (Keeps.const _) (StepOk.guarded 2 107 true (g := (fun v _ => v = .int .i64 (-3))) rfl rfl rfl rfl (fun a w hs hR hr pre => ⟨pre 2 (by decide), ?_⟩)) ?_
              · have e108 : a.eval (.tmp 108) = .pointer (some ⟨ua, 0 + 1, none⟩) := pre 3 (by decide)
                have hb : w.heap[ua]? = some (vbox 2 (-3) ⟨#[]⟩) := (HM.out.next2 (bt (Below.drew (Below.refl _ _)) hR)).b (ua, 2, -3) (by simp)
                exact wp_pure (run_ldI rfl e108 (bx_of hb).c1) rfl
              refine Each.cons rfl (Keeps.const _) (StepOk.guarded 2 107 true (g := (fun v _ => v = .bool true)) rfl rfl rfl rfl (fun a w hs hR hr pre => ⟨pre 2 (by decide), ?_⟩)) ?_
              · have e109 : a.eval (.tmp 109) = .int .i64 (-3) := pre 4 (by decide)
                exact wp_pure (run_eqI rfl e109 (eval_const _ _)) rfl
              refine Each.cons rfl (Keeps.const _) (StepOk.plain (g := (fun v _ => v = .bool true)) rfl rfl rfl (fun a w hs hR hr pre => ?_)) ?_
              · have e107 : a.eval (.tmp 107) = .bool true := pre 2 (by decide)
                have e110 : a.eval (.tmp 110) = .bool true := pre 5 (by decide)
                exact wp_pure (run_pick rfl true e107) (by simpa using e110)
              refine Each.cons rfl (Keeps.const _) (StepOk.plain (g := (fun v _ => v = .bool true)) rfl rfl rfl (fun a w hs hR hr pre => ?_)) ?_
              · have e111 : a.eval (.tmp 111) = .bool true := pre 6 (by decide)
                exact wp_pure (run_move rfl) e111
              refine Each.cons rfl (Keeps.const _) (StepOk.guarded 7 112 true (g := (fun v _ => v = .int .i64 0)) rfl rfl rfl rfl (fun a w hs hR hr pre => ⟨pre 7 (by decide), ?_⟩)) ?_
              · have e6 : a.eval (.tmp 6) = .int .i64 0 := hr 6 (by decide)
                exact wp_pure (run_move rfl) e6
              refine Each.cons rfl (Keeps.const _) (StepOk.guarded 7 112 true (g := (fun v _ => v = .bool true)) rfl rfl rfl rfl (fun a w hs hR hr pre => ⟨pre 7 (by decide), ?_⟩)) ?_
              · have e113 : a.eval (.tmp 113) = .int .i64 0 := pre 8 (by decide)
                exact wp_pure (run_eqI rfl e113 (eval_const _ _)) rfl
              refine Each.cons rfl (Keeps.const _) (StepOk.plain (g := (fun v _ => v = .bool true)) rfl rfl rfl (fun a w hs hR hr pre => ?_)) ?_
              · have e112 : a.eval (.tmp 112) = .bool true := pre 7 (by decide)
                have e114 : a.eval (.tmp 114) = .bool true := pre 9 (by decide)
                exact wp_pure (run_pick rfl true e112) (by simpa using e114)
              refine Each.cons rfl (Keeps.const _) (StepOk.plain (g := (fun v _ => v = .bool true)) rfl rfl rfl (fun a w hs hR hr pre => ?_)) ?_
              · have e115 : a.eval (.tmp 115) = .bool true := pre 10 (by decide)
                exact wp_pure (run_move rfl) e115
              refine Each.cons rfl (Keeps.const _) (StepOk.guarded 11 116 true (g := (fun v _ => v = .pointer (some ⟨ub, 0 + 1, none⟩))) rfl rfl rfl rfl (fun a w hs hR hr pre => ⟨pre 11 (by decide), ?_⟩)) ?_
              · have ep : a.eval (.tmp 5) = .pointer (some ⟨ub, 0, none⟩) := hr 5 (by decide)
                exact wp_pure (run_fdV1 rfl ep) rfl
              refine Each.cons rfl (Keeps.const _) (StepOk.guarded 11 116 true (g := (fun v _ => v = .int .i64 (-1))) rfl rfl rfl rfl (fun a w hs hR hr pre => ⟨pre 11 (by decide), ?_⟩)) ?_
              · have e117 : a.eval (.tmp 117) = .pointer (some ⟨ub, 0 + 1, none⟩) := pre 12 (by decide)
                have hb : w.heap[ub]? = some (vbox 2 (-1) ⟨#[]⟩) := (HM.out.next2 (bt (Below.drew (Below.refl _ _)) hR)).b (ub, 2, -1) (by simp)
                exact wp_pure (run_ldI rfl e117 (bx_of hb).c1) rfl
              refine Each.cons rfl (Keeps.const _) (StepOk.guarded 11 116 true (g := (fun v _ => v = .bool true)) rfl rfl rfl rfl (fun a w hs hR hr pre => ⟨pre 11 (by decide), ?_⟩)) ?_
              · have e118 : a.eval (.tmp 118) = .int .i64 (-1) := pre 13 (by decide)
                exact wp_pure (run_eqI rfl e118 (eval_const _ _)) rfl
              refine Each.cons rfl (Keeps.const _) (StepOk.plain (g := (fun v _ => v = .bool true)) rfl rfl rfl (fun a w hs hR hr pre => ?_)) ?_
              · have e116 : a.eval (.tmp 116) = .bool true := pre 11 (by decide)
                have e119 : a.eval (.tmp 119) = .bool true := pre 14 (by decide)
                exact wp_pure (run_pick rfl true e116) (by simpa using e119)
              refine Each.cons rfl (Keeps.const _) (StepOk.plain (g := (fun v _ => v = .bool true)) rfl rfl rfl (fun a w hs hR hr pre => ?_)) ?_
              · have e120 : a.eval (.tmp 120) = .bool true := pre 15 (by decide)
                exact wp_pure (run_move rfl) e120
              refine Each.cons rfl (Keeps.const _) (StepOk.guarded 16 121 true (g := (fun v _ => v = .int .i64 160)) rfl rfl rfl rfl (fun a w hs hR hr pre => ⟨pre 16 (by decide), ?_⟩)) ?_
              · have e8 : a.eval (.tmp 8) = .int .i64 160 := hr 8 (by decide)
                exact wp_pure (run_move rfl) e8
              refine Each.cons rfl (Keeps.const _) (StepOk.guarded 16 121 true (g := (fun v _ => v = .bool true)) rfl rfl rfl rfl (fun a w hs hR hr pre => ⟨pre 16 (by decide), ?_⟩)) ?_
              · have e122 : a.eval (.tmp 122) = .int .i64 160 := pre 17 (by decide)
                exact wp_pure (run_eqI rfl e122 (eval_const _ _)) rfl
              refine Each.cons rfl (Keeps.const _) (StepOk.plain (g := (fun v _ => v = .bool true)) rfl rfl rfl (fun a w hs hR hr pre => ?_)) ?_
              · have e121 : a.eval (.tmp 121) = .bool true := pre 16 (by decide)
                have e123 : a.eval (.tmp 123) = .bool true := pre 18 (by decide)
                exact wp_pure (run_pick rfl true e121) (by simpa using e123)
              refine Each.cons rfl (Keeps.const _) (StepOk.plain (g := (fun v _ => v = .bool true)) rfl rfl rfl (fun a w hs hR hr pre => ?_)) ?_
              · have e124 : a.eval (.tmp 124) = .bool true := pre 19 (by decide)
                exact wp_pure (run_move rfl) e124
              refine Each.cons rfl (Keeps.const _) (StepOk.guarded 20 125 true (g := (fun v _ => v = .int .i64 0)) rfl rfl rfl rfl (fun a w hs hR hr pre => ⟨pre 20 (by decide), ?_⟩)) ?_
              · have e12 : a.eval (.tmp 12) = .int .i64 0 := hr 12 (by decide)
                exact wp_pure (run_move rfl) e12
              refine Each.cons rfl (Keeps.const _) (StepOk.guarded 20 125 true (g := (fun v _ => v = .bool true)) rfl rfl rfl rfl (fun a w hs hR hr pre => ⟨pre 20 (by decide), ?_⟩)) ?_
              · have e126 : a.eval (.tmp 126) = .int .i64 0 := pre 21 (by decide)
                exact wp_pure (run_eqI rfl e126 (eval_const _ _)) rfl
              refine Each.cons rfl (Keeps.const _) (StepOk.plain (g := (fun v _ => v = .bool true)) rfl rfl rfl (fun a w hs hR hr pre => ?_)) ?_
              · have e125 : a.eval (.tmp 125) = .bool true := pre 20 (by decide)
                have e127 : a.eval (.tmp 127) = .bool true := pre 22 (by decide)
                exact wp_pure (run_pick rfl true e125) (by simpa using e127)
              refine Each.cons rfl (Keeps.const _) (StepOk.plain (g := (fun v _ => v = .bool true)) rfl rfl rfl (fun a w hs hR hr pre => ?_)) ?_
              · have e128 : a.eval (.tmp 128) = .bool true := pre 23 (by decide)
                exact wp_pure (run_move rfl) e128
              refine Each.cons rfl (Keeps.const _) (StepOk.guarded 24 129 true (g := (fun v _ => v = VV 1 (0) ⟨#[]⟩)) rfl rfl rfl rfl (fun a w hs hR hr pre => ⟨pre 24 (by decide), ?_⟩)) ?_
              · have ep : a.eval (.tmp 11) = .pointer (some ⟨ud, 0, none⟩) := hr 11 (by decide)
                have hb : w.heap[ud]? = some (vbox 1 (0) ⟨#[]⟩) := (HM.out.next2 (bt (Below.drew (Below.refl _ _)) hR)).b (ud, 1, 0) (by simp)
                exact wp_pure (run_ldVm rfl ep (bx_of hb).c0 (bx_of hb).c1 (bx_of hb).c2) rfl
              refine Each.cons rfl (Keeps.const _) (StepOk.guarded 24 129 true (g := (fun v _ => v = VV 1 0 ⟨#[]⟩)) rfl rfl rfl rfl (fun a w hs hR hr pre => ⟨pre 24 (by decide), ?_⟩)) ?_
              · exact wp_fn (vs := #[.bool false]) rfl Tryz.func17 (by kernel_rfl) (by kernel_rfl) (by simp only [List.map_toArray, List.map_cons, List.map_nil, eval_const]) ((refBool_false _).mono fun _ _ ⟨h1, h2⟩ => ⟨_, h1, h2, rfl⟩)
              refine Each.cons rfl (Keeps.const _) (StepOk.guarded 24 129 true (g := (fun v _ => v = .bool true)) rfl rfl rfl rfl (fun a w hs hR hr pre => ⟨pre 24 (by decide), ?_⟩)) ?_
              · have e130 : a.eval (.tmp 130) = VV 1 (0) ⟨#[]⟩ := pre 25 (by decide)
                have e131 : a.eval (.tmp 131) = VV 1 0 ⟨#[]⟩ := pre 26 (by decide)
                exact wp_pure (run_eqVV rfl e130 e131) rfl
              refine Each.cons rfl (Keeps.const _) (StepOk.plain (g := (fun v _ => v = .bool true)) rfl rfl rfl (fun a w hs hR hr pre => ?_)) ?_
              · have e129 : a.eval (.tmp 129) = .bool true := pre 24 (by decide)
                have e132 : a.eval (.tmp 132) = .bool true := pre 27 (by decide)
                exact wp_pure (run_pick rfl true e129) (by simpa using e132)
              refine Each.cons rfl (Keeps.const _) (StepOk.plain (g := (fun v _ => v = .bool true)) rfl rfl rfl (fun a w hs hR hr pre => ?_)) ?_
              · have e133 : a.eval (.tmp 133) = .bool true := pre 28 (by decide)
                exact wp_pure (run_move rfl) e133
              refine Each.cons rfl (Keeps.const _) (StepOk.guarded 29 134 true (g := (fun v _ => v = .int .i64 0)) rfl rfl rfl rfl (fun a w hs hR hr pre => ⟨pre 29 (by decide), ?_⟩)) ?_
              · have e14 : a.eval (.tmp 14) = .int .i64 0 := hr 14 (by decide)
                exact wp_pure (run_move rfl) e14
              refine Each.cons rfl (Keeps.const _) (StepOk.guarded 29 134 true (g := (fun v _ => v = .bool true)) rfl rfl rfl rfl (fun a w hs hR hr pre => ⟨pre 29 (by decide), ?_⟩)) ?_
              · have e135 : a.eval (.tmp 135) = .int .i64 0 := pre 30 (by decide)
                exact wp_pure (run_eqI rfl e135 (eval_const _ _)) rfl
              refine Each.cons rfl (Keeps.const _) (StepOk.plain (g := (fun v _ => v = .bool true)) rfl rfl rfl (fun a w hs hR hr pre => ?_)) ?_
              · have e134 : a.eval (.tmp 134) = .bool true := pre 29 (by decide)
                have e136 : a.eval (.tmp 136) = .bool true := pre 31 (by decide)
                exact wp_pure (run_pick rfl true e134) (by simpa using e136)
              refine Each.cons rfl (Keeps.const _) (StepOk.plain (g := (fun v _ => v = .bool true)) rfl rfl rfl (fun a w hs hR hr pre => ?_)) ?_
              · have e137 : a.eval (.tmp 137) = .bool true := pre 32 (by decide)
                exact wp_pure (run_move rfl) e137
              refine Each.cons rfl (Keeps.const _) (StepOk.guarded 33 138 true (g := (fun v _ => v = .bool false)) rfl rfl rfl rfl (fun a w hs hR hr pre => ⟨pre 33 (by decide), ?_⟩)) ?_
              · have e13 : a.eval (.tmp 13) = .bool false := hr 13 (by decide)
                exact wp_pure (run_move rfl) e13
              refine Each.cons rfl (Keeps.const _) (StepOk.guarded 33 138 true (g := (fun v _ => v = .bool true)) rfl rfl rfl rfl (fun a w hs hR hr pre => ⟨pre 33 (by decide), ?_⟩)) ?_
              · have e139 : a.eval (.tmp 139) = .bool false := pre 34 (by decide)
                exact wp_pure (run_not rfl e139) rfl
              refine Each.cons rfl (Keeps.const _) (StepOk.plain (g := (fun v _ => v = .bool true)) rfl rfl rfl (fun a w hs hR hr pre => ?_)) ?_
              · have e138 : a.eval (.tmp 138) = .bool true := pre 33 (by decide)
                have e140 : a.eval (.tmp 140) = .bool true := pre 35 (by decide)
                exact wp_pure (run_pick rfl true e138) (by simpa using e140)
              refine Each.cons rfl (Keeps.const _) (StepOk.plain (g := (fun v _ => v = .bool true)) rfl rfl rfl (fun a w hs hR hr pre => ?_)) ?_
              · have e141 : a.eval (.tmp 141) = .bool true := pre 36 (by decide)
                exact wp_pure (run_move rfl) e141
              refine Each.cons rfl (Keeps.const _) (StepOk.guarded 37 142 true (g := (fun v _ => v = .int .i64 160)) rfl rfl rfl rfl (fun a w hs hR hr pre => ⟨pre 37 (by decide), ?_⟩)) ?_
              · have e16 : a.eval (.tmp 16) = .int .i64 160 := hr 16 (by decide)
                exact wp_pure (run_move rfl) e16
              refine Each.cons rfl (Keeps.const _) (StepOk.guarded 37 142 true (g := (fun v _ => v = .bool true)) rfl rfl rfl rfl (fun a w hs hR hr pre => ⟨pre 37 (by decide), ?_⟩)) ?_
              · have e143 : a.eval (.tmp 143) = .int .i64 160 := pre 38 (by decide)
                exact wp_pure (run_eqI rfl e143 (eval_const _ _)) rfl
              refine Each.cons rfl (Keeps.const _) (StepOk.plain (g := (fun v _ => v = .bool true)) rfl rfl rfl (fun a w hs hR hr pre => ?_)) ?_
              · have e142 : a.eval (.tmp 142) = .bool true := pre 37 (by decide)
                have e144 : a.eval (.tmp 144) = .bool true := pre 39 (by decide)
                exact wp_pure (run_pick rfl true e142) (by simpa using e144)
              refine Each.cons rfl (Keeps.const _) (StepOk.plain (g := (fun v _ => v = .bool true)) rfl rfl rfl (fun a w hs hR hr pre => ?_)) ?_
              · have e145 : a.eval (.tmp 145) = .bool true := pre 40 (by decide)
                exact wp_pure (run_move rfl) e145
              refine Each.cons rfl (Keeps.const _) (StepOk.guarded 41 146 true (g := (fun v _ => v = .int .i64 0)) rfl rfl rfl rfl (fun a w hs hR hr pre => ⟨pre 41 (by decide), ?_⟩)) ?_
              · have e18 : a.eval (.tmp 18) = .int .i64 0 := hr 18 (by decide)
                exact wp_pure (run_move rfl) e18
              refine Each.cons rfl (Keeps.const _) (StepOk.guarded 41 146 true (g := (fun v _ => v = .bool true)) rfl rfl rfl rfl (fun a w hs hR hr pre => ⟨pre 41 (by decide), ?_⟩)) ?_
              · have e147 : a.eval (.tmp 147) = .int .i64 0 := pre 42 (by decide)
                exact wp_pure (run_eqI rfl e147 (eval_const _ _)) rfl
              refine Each.cons rfl (Keeps.const _) (StepOk.plain (g := (fun v _ => v = .bool true)) rfl rfl rfl (fun a w hs hR hr pre => ?_)) ?_
              · have e146 : a.eval (.tmp 146) = .bool true := pre 41 (by decide)
                have e148 : a.eval (.tmp 148) = .bool true := pre 43 (by decide)
                exact wp_pure (run_pick rfl true e146) (by simpa using e148)
              refine Each.cons rfl (Keeps.const _) (StepOk.plain (g := (fun v _ => v = .bool true)) rfl rfl rfl (fun a w hs hR hr pre => ?_)) ?_
              · have e149 : a.eval (.tmp 149) = .bool true := pre 44 (by decide)
                exact wp_pure (run_move rfl) e149
              refine Each.cons rfl (Keeps.const _) (StepOk.guarded 45 150 true (g := (fun v _ => v = .pointer (some ⟨us, 0 + 1, none⟩))) rfl rfl rfl rfl (fun a w hs hR hr pre => ⟨pre 45 (by decide), ?_⟩)) ?_
              · have ep : a.eval (.tmp 17) = .pointer (some ⟨us, 0, none⟩) := hr 17 (by decide)
                exact wp_pure (run_fdV1 rfl ep) rfl
              refine Each.cons rfl (Keeps.const _) (StepOk.guarded 45 150 true (g := (fun v _ => v = .int .i64 (2))) rfl rfl rfl rfl (fun a w hs hR hr pre => ⟨pre 45 (by decide), ?_⟩)) ?_
              · have e151 : a.eval (.tmp 151) = .pointer (some ⟨us, 0 + 1, none⟩) := pre 46 (by decide)
                have hb : w.heap[us]? = some (vbox 2 (2) ⟨#[]⟩) := (HM.out.next2 (bt (Below.drew (Below.refl _ _)) hR)).b (us, 2, 2) (by simp)
                exact wp_pure (run_ldI rfl e151 (bx_of hb).c1) rfl
              refine Each.cons rfl (Keeps.const _) (StepOk.guarded 45 150 true (g := (fun v _ => v = .bool true)) rfl rfl rfl rfl (fun a w hs hR hr pre => ⟨pre 45 (by decide), ?_⟩)) ?_
              · have e152 : a.eval (.tmp 152) = .int .i64 (2) := pre 47 (by decide)
                exact wp_pure (run_eqI rfl e152 (eval_const _ _)) rfl
              refine Each.cons rfl (Keeps.const _) (StepOk.plain (g := (fun v _ => v = .bool true)) rfl rfl rfl (fun a w hs hR hr pre => ?_)) ?_
              · have e150 : a.eval (.tmp 150) = .bool true := pre 45 (by decide)
                have e153 : a.eval (.tmp 153) = .bool true := pre 48 (by decide)
                exact wp_pure (run_pick rfl true e150) (by simpa using e153)
              refine Each.cons rfl (Keeps.const _) (StepOk.plain (g := (fun v _ => v = .bool true)) rfl rfl rfl (fun a w hs hR hr pre => ?_)) ?_
              · have e154 : a.eval (.tmp 154) = .bool true := pre 49 (by decide)
                exact wp_pure (run_move rfl) e154
              refine Each.cons rfl (Keeps.const _) (StepOk.guarded 50 155 true (g := (fun v _ => v = .int .i64 0)) rfl rfl rfl rfl (fun a w hs hR hr pre => ⟨pre 50 (by decide), ?_⟩)) ?_
              · have e20 : a.eval (.tmp 20) = .int .i64 0 := hr 20 (by decide)
                exact wp_pure (run_move rfl) e20
              refine Each.cons rfl (Keeps.const _) (StepOk.guarded 50 155 true (g := (fun v _ => v = .bool true)) rfl rfl rfl rfl (fun a w hs hR hr pre => ⟨pre 50 (by decide), ?_⟩)) ?_
              · have e156 : a.eval (.tmp 156) = .int .i64 0 := pre 51 (by decide)
                exact wp_pure (run_eqI rfl e156 (eval_const _ _)) rfl
              refine Each.cons rfl (Keeps.const _) (StepOk.plain (g := (fun v _ => v = .bool true)) rfl rfl rfl (fun a w hs hR hr pre => ?_)) ?_
              · have e155 : a.eval (.tmp 155) = .bool true := pre 50 (by decide)
                have e157 : a.eval (.tmp 157) = .bool true := pre 52 (by decide)
                exact wp_pure (run_pick rfl true e155) (by simpa using e157)
              refine Each.cons rfl (Keeps.const _) (StepOk.plain (g := (fun v _ => v = .bool true)) rfl rfl rfl (fun a w hs hR hr pre => ?_)) ?_
              · have e158 : a.eval (.tmp 158) = .bool true := pre 53 (by decide)
                exact wp_pure (run_move rfl) e158
              refine Each.cons rfl (Keeps.const _) (StepOk.guarded 54 159 true (g := (fun v _ => v = .slice (some ⟨g, 0, none⟩) 2 cg)) rfl rfl rfl rfl (fun a w hs hR hr pre => ⟨pre 54 (by decide), ?_⟩)) ?_
              · have e19 : a.eval (.tmp 19) = .slice (some ⟨g, 0, none⟩) 2 cg := hr 19 (by decide)
                exact wp_pure (run_move rfl) e19
              refine Each.cons rfl (Keeps.const _) (StepOk.guarded 54 159 true (g := (fun v _ => v = .int .i64 2)) rfl rfl rfl rfl (fun a w hs hR hr pre => ⟨pre 54 (by decide), ?_⟩)) ?_
              · have e160 : a.eval (.tmp 160) = .slice (some ⟨g, 0, none⟩) 2 cg := pre 55 (by decide)
                exact wp_pure (run_len rfl Tryz.underlying23 e160) rfl
              refine Each.cons rfl (Keeps.const _) (StepOk.guarded 54 159 true (g := (fun v _ => v = .bool true)) rfl rfl rfl rfl (fun a w hs hR hr pre => ⟨pre 54 (by decide), ?_⟩)) ?_
              · have e161 : a.eval (.tmp 161) = .int .i64 2 := pre 56 (by decide)
                exact wp_pure (run_eqI rfl e161 (eval_const _ _)) rfl
              refine Each.cons rfl (Keeps.const _) (StepOk.plain (g := (fun v _ => v = .bool true)) rfl rfl rfl (fun a w hs hR hr pre => ?_)) ?_
              · have e159 : a.eval (.tmp 159) = .bool true := pre 54 (by decide)
                have e162 : a.eval (.tmp 162) = .bool true := pre 57 (by decide)
                exact wp_pure (run_pick rfl true e159) (by simpa using e162)
              refine Each.cons rfl (Keeps.const _) (StepOk.plain (g := (fun v _ => v = .bool true)) rfl rfl rfl (fun a w hs hR hr pre => ?_)) ?_
              · have e163 : a.eval (.tmp 163) = .bool true := pre 58 (by decide)
                exact wp_pure (run_move rfl) e163
              refine Each.cons rfl (Keeps.const _) (StepOk.guarded 59 164 true (g := (fun v _ => v = .slice (some ⟨g, 0, none⟩) 2 cg)) rfl rfl rfl rfl (fun a w hs hR hr pre => ⟨pre 59 (by decide), ?_⟩)) ?_
              · have e19 : a.eval (.tmp 19) = .slice (some ⟨g, 0, none⟩) 2 cg := hr 19 (by decide)
                exact wp_pure (run_move rfl) e19
              refine Each.cons rfl (Keeps.const _) (StepOk.guarded 59 164 true (g := (fun v _ => v = .pointer (some ⟨g, 0 + 3, none⟩))) rfl rfl rfl rfl (fun a w hs hR hr pre => ⟨pre 59 (by decide), ?_⟩)) ?_
              · have e165 : a.eval (.tmp 165) = .slice (some ⟨g, 0, none⟩) 2 cg := pre 60 (by decide)
                exact wp_pure (run_ixV1 rfl e165) rfl
              refine Each.cons rfl (Keeps.const _) (StepOk.guarded 59 164 true (g := (fun v _ => v = .pointer (some ⟨g, 0 + 3 + 1, none⟩))) rfl rfl rfl rfl (fun a w hs hR hr pre => ⟨pre 59 (by decide), ?_⟩)) ?_
              · have e166 : a.eval (.tmp 166) = .pointer (some ⟨g, 0 + 3, none⟩) := pre 61 (by decide)
                exact wp_pure (run_fdV1 rfl e166) rfl
              refine Each.cons rfl (Keeps.const _) (StepOk.guarded 59 164 true (g := (fun v _ => v = .int .i64 3)) rfl rfl rfl rfl (fun a w hs hR hr pre => ⟨pre 59 (by decide), ?_⟩)) ?_
              · have e167 : a.eval (.tmp 167) = .pointer (some ⟨g, 0 + 3 + 1, none⟩) := pre 62 (by decide)
                exact wp_pure (run_ldI rfl e167 (row_cell1 (HRow.out.kept (bt (Below.drew (Below.refl _ _)) hR)))) rfl
              refine Each.cons rfl (Keeps.const _) (StepOk.guarded 59 164 true (g := (fun v _ => v = .bool true)) rfl rfl rfl rfl (fun a w hs hR hr pre => ⟨pre 59 (by decide), ?_⟩)) ?_
              · have e168 : a.eval (.tmp 168) = .int .i64 3 := pre 63 (by decide)
                exact wp_pure (run_eqI rfl e168 (eval_const _ _)) rfl
              refine Each.cons rfl (Keeps.const _) (StepOk.plain (g := (fun v _ => v = .bool true)) rfl rfl rfl (fun a w hs hR hr pre => ?_)) ?_
              · have e164 : a.eval (.tmp 164) = .bool true := pre 59 (by decide)
                have e169 : a.eval (.tmp 169) = .bool true := pre 64 (by decide)
                exact wp_pure (run_pick rfl true e164) (by simpa using e169)
              refine Each.cons rfl (Keeps.const _) (StepOk.plain (g := (fun v _ => v = .bool true)) rfl rfl rfl (fun a w hs hR hr pre => ?_)) ?_
              · have e170 : a.eval (.tmp 170) = .bool true := pre 65 (by decide)
                exact wp_pure (run_move rfl) e170
              refine Each.cons rfl (Keeps.const _) (StepOk.guarded 66 171 true (g := (fun v _ => v = .int .i64 1)) rfl rfl rfl rfl (fun a w hs hR hr pre => ⟨pre 66 (by decide), ?_⟩)) ?_
              · have e22 : a.eval (.tmp 22) = .int .i64 1 := hr 22 (by decide)
                exact wp_pure (run_move rfl) e22
              refine Each.cons rfl (Keeps.const _) (StepOk.guarded 66 171 true (g := (fun v _ => v = .bool true)) rfl rfl rfl rfl (fun a w hs hR hr pre => ⟨pre 66 (by decide), ?_⟩)) ?_
              · have e172 : a.eval (.tmp 172) = .int .i64 1 := pre 67 (by decide)
                exact wp_pure (run_eqI rfl e172 (eval_const _ _)) rfl
              refine Each.cons rfl (Keeps.const _) (StepOk.plain (g := (fun v _ => v = .bool true)) rfl rfl rfl (fun a w hs hR hr pre => ?_)) ?_
              · have e171 : a.eval (.tmp 171) = .bool true := pre 66 (by decide)
                have e173 : a.eval (.tmp 173) = .bool true := pre 68 (by decide)
                exact wp_pure (run_pick rfl true e171) (by simpa using e173)
              refine Each.cons rfl (Keeps.const _) (StepOk.plain (g := (fun v _ => v = .bool true)) rfl rfl rfl (fun a w hs hR hr pre => ?_)) ?_
              · have e174 : a.eval (.tmp 174) = .bool true := pre 69 (by decide)
                exact wp_pure (run_move rfl) e174
              refine Each.cons rfl (EV.keeps _) (StepOk.guarded 70 175 true (g := (EV badE)) rfl rfl rfl rfl (fun a w hs hR hr pre => ⟨pre 70 (by decide), ?_⟩)) ?_
              · obtain ⟨Ax, cx, hx, hex⟩ := (HM.out.next2 (bt (Below.drew (Below.refl _ _)) hR)).get2 (u := ubad) (n := 4) (a := oE 13 (nE 1) (nE 0)) (b := nE 1) (by simp)
                have ep : a.eval (.tmp 9) = .pointer (some ⟨ubad, 0, none⟩) := hr 9 (by decide)
                exact wp_pure (run_ldE rfl ep (XC.ofBox hx)) hex
              refine Each.cons rfl (Keeps.const _) (StepOk.guarded 70 175 true (g := (fun v _ => v = .bool true)) rfl rfl rfl rfl (fun a w hs hR hr pre => ⟨pre 70 (by decide), ?_⟩)) ?_
              · have h176 : EV badE (a.eval (.tmp 176)) w := pre 71 (by decide)
                exact wp_fn (vs := #[a.eval (.tmp 176)]) rfl Tryz.func18 (by kernel_rfl) (by kernel_rfl) (by simp only [List.map_toArray, List.map_cons, List.map_nil]) (rv_errs h176 (smO (smO (smN _) (smN _)) (smN _)) (by decide) (HM.out.next2 (bt (Below.drew (Below.refl _ _)) hR)).tabs sfBad)
              refine Each.cons rfl (Keeps.const _) (StepOk.plain (g := (fun v _ => v = .bool true)) rfl rfl rfl (fun a w hs hR hr pre => ?_)) ?_
              · have e175 : a.eval (.tmp 175) = .bool true := pre 70 (by decide)
                have e177 : a.eval (.tmp 177) = .bool true := pre 72 (by decide)
                exact wp_pure (run_pick rfl true e175) (by simpa using e177)
              refine Each.cons rfl (Keeps.const _) (StepOk.plain (g := (fun v _ => v = .bool true)) rfl rfl rfl (fun a w hs hR hr pre => ?_)) ?_
              · have e178 : a.eval (.tmp 178) = .bool true := pre 73 (by decide)
                exact wp_pure (run_move rfl) e178
              refine Each.cons rfl (EV.keeps _) (StepOk.guarded 74 179 true (g := (EV noE)) rfl rfl rfl rfl (fun a w hs hR hr pre => ⟨pre 74 (by decide), ?_⟩)) ?_
              · obtain ⟨Ax, cx, hx, hex⟩ := (HM.out.next2 (bt (Below.drew (Below.refl _ _)) hR)).get2 (u := uno) (n := 6) (a := nE 2) (b := nE 1) (by simp)
                have ep : a.eval (.tmp 10) = .pointer (some ⟨uno, 0, none⟩) := hr 10 (by decide)
                exact wp_pure (run_ldE rfl ep (XC.ofBox hx)) hex
              refine Each.cons rfl (Keeps.const _) (StepOk.guarded 74 179 true (g := (fun v _ => v = .bool false)) rfl rfl rfl rfl (fun a w hs hR hr pre => ⟨pre 74 (by decide), ?_⟩)) ?_
              · have h180 : EV noE (a.eval (.tmp 180)) w := pre 75 (by decide)
                exact wp_fn (vs := #[a.eval (.tmp 180)]) rfl Tryz.func18 (by kernel_rfl) (by kernel_rfl) (by simp only [List.map_toArray, List.map_cons, List.map_nil]) (rv_errs h180 (smO (smN _) (smN _)) (by decide) (HM.out.next2 (bt (Below.drew (Below.refl _ _)) hR)).tabs sfNo)
              refine Each.cons rfl (Keeps.const _) (StepOk.guarded 74 179 true (g := (fun v _ => v = .bool true)) rfl rfl rfl rfl (fun a w hs hR hr pre => ⟨pre 74 (by decide), ?_⟩)) ?_
              · have e181 : a.eval (.tmp 181) = .bool false := pre 76 (by decide)
                exact wp_pure (run_not rfl e181) rfl
              refine Each.cons rfl (Keeps.const _) (StepOk.plain (g := (fun v _ => v = .bool true)) rfl rfl rfl (fun a w hs hR hr pre => ?_)) ?_
              · have e179 : a.eval (.tmp 179) = .bool true := pre 74 (by decide)
                have e182 : a.eval (.tmp 182) = .bool true := pre 77 (by decide)
                exact wp_pure (run_pick rfl true e179) (by simpa using e182)
              refine Each.cons rfl (Keeps.const _) (StepOk.plain (g := (fun v _ => v = .bool true)) rfl rfl rfl (fun a w hs hR hr pre => ?_)) ?_
              · have e183 : a.eval (.tmp 183) = .bool true := pre 78 (by decide)
                exact wp_pure (run_assign rfl) e183
              exact Each.nil
            · intro v w1 hB hG
              have eL : v 79 = .bool true := hG 79 (by decide)
              clear hG
              simp only [List.take_succ_cons, List.take_zero, puts, Act.put, List.setIfInBounds_toArray, List.set_cons_zero, List.set_cons_succ, Nat.reduceAdd, eL]
              refine wpAny_done (by kernel_rfl) ?_ _
              have HB9 := Lib.hid (HM.out.next2 (bt (Below.drew (Below.refl _ _)) hB))
              clear hB
              go_wp2_with fail
              go_ret
              exact ⟨rfl, HB9.out.bel⟩
end Go.Proofs.YtpokpiphnggfpaaGreatDoor
end
