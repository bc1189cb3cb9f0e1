/-
  The document's Parts.
-/
import Derived.Test.YteckhaicodmakaaGreatDoorExj
import Derived.Test.YteckhaicodmakaaGreatDoorExJ
namespace Go.Proofs.YteckhaicodmakaaGreatDoor
open Go.RowKit Go.Shelf
attribute [local go_sem] Oper.semAt_some

section
variable {o : Oper} {a : Act} {w : World}
theorem run_fieldE {x : Operand} (ho : o.op = .fieldAddr 26 x 5) {u : Nat} (hx : a.eval x = .pointer (some ⟨u, 0, none⟩)) : (execOp a.eval o).run Tryz.prog w = .ok (.value (.pointer (some ⟨u, 7, none⟩))) w := by
  have h : (Instr.fieldAt 26 (.pointer (some ⟨u, 0, none⟩)) 5).run Tryz.prog w = .ok (.pointer (some ⟨u, 7, none⟩)) w := by go_simp
  unfold execOp
  simp only [ho, hx]
  rw [Sem.run_bind, h]
  rfl
theorem run_ldL {x : Operand} (ho : o.op = .load 24 x) {u p : Nat} {A : Option Addr} {n c : Nat} (hx : a.eval x = .pointer (some ⟨u, p, none⟩)) (hc : w.cell? ⟨u, p, none⟩ = some (.slice A n c)) : (execOp a.eval o).run Tryz.prog w = .ok (.value (.slice A n c)) w := by
  have h : (Instr.loadAt 24 (.pointer (some ⟨u, p, none⟩))).run Tryz.prog w = .ok (.slice A n c) w := by go_simp
  unfold execOp
  simp only [ho, hx]
  rw [Sem.run_bind, h]
  rfl
theorem run_ixE0 {x : Operand} (ho : o.op = .indexAddr 24 x (.const (.int .i64 0))) {g p c : Nat} (hx : a.eval x = .slice (some ⟨g, p, none⟩) 2 c) : (execOp a.eval o).run Tryz.prog w = .ok (.value (.pointer (some ⟨g, p + 0, none⟩))) w := by
  have h : (Instr.indexAt 24 (.slice (some ⟨g, p, none⟩) 2 c) (.int .i64 0)).run Tryz.prog w = .ok (.pointer (some ⟨g, p + 0, none⟩)) w := by go_simp
  unfold execOp
  simp only [ho, hx, eval_const]
  rw [Sem.run_bind, h]
  rfl
theorem run_ixE1 {x : Operand} (ho : o.op = .indexAddr 24 x (.const (.int .i64 1))) {g p c : Nat} (hx : a.eval x = .slice (some ⟨g, p, none⟩) 2 c) : (execOp a.eval o).run Tryz.prog w = .ok (.value (.pointer (some ⟨g, p + 8, none⟩))) w := by
  have h : (Instr.indexAt 24 (.slice (some ⟨g, p, none⟩) 2 c) (.int .i64 1)).run Tryz.prog w = .ok (.pointer (some ⟨g, p + 8, none⟩)) w := by go_simp
  unfold execOp
  simp only [ho, hx, eval_const]
  rw [Sem.run_bind, h]
  rfl
end
theorem Yown.one {n₀ : Nat} {W1 W : World} {h : Hd} {l : List Ex} {A : Option Addr} {cap : Nat} (hb : Below W1.heap.size W1 W) (hl : l.length ≤ cap) (hx : XsAt n₀ W l A) (hn : n₀ ≤ W.heap.size) :
    Yown n₀ W1.heap.size W1 (W.alloc (.cells (xcell (h, A, l.length, cap)).toArray 26)) (.slice (some ⟨W.heap.size, 0, none⟩) 1 1) [.mk h l] := by
  refine ⟨⟨[(h, A, l.length, cap)], .cons ⟨rfl, rfl, hl, XsB.go (fun k hk => (ba W _).block k (by omega)) (fun _ hk => hk) _ _ hx⟩ .nil, by simp [xcells, xcell], .inr ⟨W.heap.size, 1, _, rfl, hb.size, (MapKept.heap_alloc W _).1, by simp, by decide, by simp [xcell], by simp only [xcells, List.flatMap_cons, List.flatMap_nil, List.append_nil]; rfl⟩⟩, bt hb (ba W _), by rw [World.size_alloc]; have := hb.size; omega, fun e => by cases e⟩
set_option maxRecDepth 100000 in
set_option maxHeartbeats 8000000 in
theorem refParts_n (n₀ : Nat) : ∀ (N : Nat) (h : Hd) (l : List Ex), cnt (.mk h l) ≤ N → N ≤ 1000000 → FitX (.mk h l) → ∀ (w : World) (A : Option Addr) (cap : Nat), XsAt n₀ w l A → l.length ≤ cap → n₀ ≤ w.heap.size →
    Calls Tryz.prog 34 #[XV h A l.length cap] w fun e w' => ∃ v, e = .returned v ∧ Yown n₀ w.heap.size w w' v (prtX (.mk h l)) := by
  intro N
  induction N with
  | zero => intro h l hc; have := cnt_pos (.mk h l); omega
  | succ N ih =>
    intro h l hc hN hf w A cap hX hcap hn
    obtain ⟨i0, hi, hz0, hz1, hz2⟩ := infoE_parts info_expr
    have hba := ba w (xbox h A l.length cap)
    have HX1 := Lib.hid (MapKept.heap_alloc w (xbox h A l.length cap)).1
    obtain ⟨⟨c0, c1, c2, c3, c4, c5, c6, c7⟩, _⟩ := cell8 HX1.out
    have HB1 := Lib.hid hba
    have HXl := Lib.hid (show XsAt n₀ (w.alloc (xbox h A l.length cap)) l A from hX.kept (hba.mono hn))
    by_cases hk : h.k = 3 ∧ h.n = 2
    · rw [FitX] at hf
      have hfb := hf.1
      unfold fitsB at hfb
      rw [if_neg (by omega), if_neg (by omega), if_pos hk.1] at hfb
      simp only [Bool.and_eq_true, decide_eq_true_eq, beq_iff_eq] at hfb
      have hla := hfb.1.1.2
      rw [hk.2] at hla
      obtain ⟨X, Y, rfl⟩ := len2 (show l.length = 2 by simp [arI] at hla; omega)
      clear hla hfb
      have hf2 := hf.2
      rw [FitXs, FitXs] at hf2
      simp only [cnt_mk, cntL] at hc
      have hpx := prt_len _ X (Nat.le_refl _) hf2.1
      have hpy := prt_len _ Y (Nat.le_refl _) hf2.2.1
      have hcx := cnt_pos X
      have hcy := cnt_pos Y
      obtain ⟨g, o, AX, capX, rfl, hg, hcX, hlX, hxX⟩ := XsAt.one HXl.out
      obtain ⟨AY, capY, hcY, hlY, hxY⟩ := XsAt.two HXl.out
      rw [show ∀ (a b : Ex), [a, b].length = 2 from fun _ _ => rfl] at HX1 HB1 HXl hcX hxX hcY hxY c7 ⊢
      rw [prtX_and hk.1 hk.2]
      have hk0 := hk.1
      have hk1 := hk.2
      have HX := Lib.hid hcX
      have HY := Lib.hid hcY
      have HIX := Lib.hid (show ∀ w1, Below (w.alloc (xbox h (some ⟨g, o, none⟩) 2 cap)).heap.size (w.alloc (xbox h (some ⟨g, o, none⟩) 2 cap)) w1 → Calls Tryz.prog 34 #[XV X.hd AX X.kids.length capX] w1 fun e w' => ∃ v, e = .returned v ∧ Yown n₀ w1.heap.size w1 w' v (prtX X) from fun w1 hb1 => by
        obtain ⟨hx, lx⟩ := X
        exact ih hx lx (by omega) (by omega) hf2.1 w1 AX capX (hxX.kept (hb1.mono (by rw [World.size_alloc]; omega))) hlX (by have := hb1.size; rw [World.size_alloc] at this; omega))
      have HIY := Lib.hid (show ∀ w1, Below (w.alloc (xbox h (some ⟨g, o, none⟩) 2 cap)).heap.size (w.alloc (xbox h (some ⟨g, o, none⟩) 2 cap)) w1 → Calls Tryz.prog 34 #[XV Y.hd AY Y.kids.length capY] w1 fun e w' => ∃ v, e = .returned v ∧ Yown n₀ w1.heap.size w1 w' v (prtX Y) from fun w1 hb1 => by
        obtain ⟨hy, ly⟩ := Y
        exact ih hy ly (by omega) (by omega) hf2.2.1 w1 AY capY (hxY.kept (hb1.mono (by rw [World.size_alloc]; omega))) hlY (by have := hb1.size; rw [World.size_alloc] at this; omega))
      have HG := Lib.hid (show g < (w.alloc (xbox h (some ⟨g, o, none⟩) 2 cap)).heap.size by rw [World.size_alloc]; omega)
      have Hn := Lib.hid (show n₀ ≤ (w.alloc (xbox h (some ⟨g, o, none⟩) 2 cap)).heap.size by rw [World.size_alloc]; omega)
      have HU1 := Lib.hid (show w.heap.size < (w.alloc (xbox h (some ⟨g, o, none⟩) 2 cap)).heap.size by simp)
      have hkb : (h.k != 3) = false := by simp [hk0]
      have hnb : (h.n != 2) = false := by simp [hk1]
      clear hk hk0 hk1 hX ih hf hf2 hcX hcY hxX hxY hba hg hlX hlY HXl
      go_enter Tryz.func34, Tryz.ntmps34
      go_upto_region 3 with fail
      obtain ⟨W1, hW1⟩ : ∃ W1, w.alloc (xbox h (some ⟨g, o, none⟩) 2 cap) = W1 := ⟨_, rfl⟩
      obtain ⟨u1, hu1⟩ : ∃ u, w.heap.size = u := ⟨_, rfl⟩
      rw [hW1] at HX1 HB1 HX HY HIX HIY HG Hn HU1 ⊢
      rw [hu1] at HX1 HU1 ⊢
      have Hu1 := Lib.hid hu1
      clear hW1 hu1 hkb hnb c0 c1 c2 c3 c4 c5 c6 c7 hcap hn
      refine wp_region_inv (n := 10) (ds := [some 13, some 14, some 15, some 16, some 17, some 18, some 19, some 20, some 21, some 22, some 23, some 2]) (need := [[], [0], [0, 1], [0, 1, 2], [0, 1, 2, 3], [], [5], [5, 6], [5, 6, 7], [0, 1, 2, 3, 4, 5, 6, 7, 8], [0, 1, 2, 3, 4, 5, 6, 7, 8, 9], [0, 1, 2, 3, 4, 5, 6, 7, 8, 9, 10]]) (R := Bel) (Gs := [
          (fun v _ => v = .pointer (some ⟨u1, 7, none⟩)),
          (fun v _ => v = .slice (some ⟨g, o, none⟩) 2 cap),
          (fun v _ => v = .pointer (some ⟨g, o + 0, none⟩)),
          (fun v _ => v = XV X.hd AX X.kids.length capX),
          (fun v w => Yown n₀ W1.heap.size W1 w v (prtX X)),
          (fun v _ => v = .pointer (some ⟨u1, 7, none⟩)),
          (fun v _ => v = .slice (some ⟨g, o, none⟩) 2 cap),
          (fun v _ => v = .pointer (some ⟨g, o + 8, none⟩)),
          (fun v _ => v = XV Y.hd AY Y.kids.length capY),
          (fun v w => Yown n₀ W1.heap.size W1 w v (prtX Y))])
        (by kernel_rfl) (by kernel_rfl) (by decide) (by kernel_rfl) (by kernel_rfl) (by kernel_rfl) (fun x => Below.refl _ x) (fun _ _ _ h k => bt h k) ?_ ?_
      · refine Each.cons rfl (Keeps.const _) (StepOk.plain (g := (fun v _ => v = .pointer (some ⟨u1, 7, none⟩))) rfl rfl rfl (fun a w hs hR hr pre => ?_)) ?_
        · have ep : a.eval (.tmp 1) = .pointer (some ⟨u1, 0, none⟩) := hr 1 (by decide)
          exact wp_pure (run_fieldE rfl ep) rfl
        refine Each.cons rfl (Keeps.const _) (StepOk.plain (g := (fun v _ => v = .slice (some ⟨g, o, none⟩) 2 cap)) rfl rfl rfl (fun a w hs hR hr pre => ?_)) ?_
        · have e13 : a.eval (.tmp 13) = .pointer (some ⟨u1, 7, none⟩) := pre 0 (by decide)
          exact wp_pure (run_ldL rfl e13 ((XC.ofBox ((hR.block u1 HU1.out).trans HX1.out)).c7)) rfl
        refine Each.cons rfl (Keeps.const _) (StepOk.plain (g := (fun v _ => v = .pointer (some ⟨g, o + 0, none⟩))) rfl rfl rfl (fun a w hs hR hr pre => ?_)) ?_
        · have e14 : a.eval (.tmp 14) = .slice (some ⟨g, o, none⟩) 2 cap := pre 1 (by decide)
          exact wp_pure (run_ixE0 rfl e14) rfl
        refine Each.cons rfl (Keeps.const _) (StepOk.plain (g := (fun v _ => v = XV X.hd AX X.kids.length capX)) rfl rfl rfl (fun a w hs hR hr pre => ?_)) ?_
        · have e15 : a.eval (.tmp 15) = .pointer (some ⟨g, o + 0, none⟩) := pre 2 (by decide)
          exact wp_pure (run_ldE rfl e15 (HX.out.of (show w.heap[g]? = W1.heap[g]? from hR.block g HG.out))) rfl
        refine Each.cons rfl (fun _ _ _ hb h => h.below hb Hn.out) (StepOk.plain (g := (fun v w => Yown n₀ W1.heap.size W1 w v (prtX X))) rfl rfl rfl (fun a w hs hR hr pre => ?_)) ?_
        · have e16 : a.eval (.tmp 16) = XV X.hd AX X.kids.length capX := pre 3 (by decide)
          refine wp_fn (vs := #[XV X.hd AX X.kids.length capX]) rfl Tryz.func34 (by kernel_rfl) (by kernel_rfl) (by simp only [List.map_toArray, List.map_cons, List.map_nil, e16]) ((HIX.out w (bt (Below.drew (Below.refl _ _)) hR)).mono ?_)
          rintro e w2 ⟨v, rfl, hY⟩
          exact ⟨v, rfl, hY.bel, hY.weak (bt (Below.drew (Below.refl _ _)) hR) hR.size⟩
        refine Each.cons rfl (Keeps.const _) (StepOk.plain (g := (fun v _ => v = .pointer (some ⟨u1, 7, none⟩))) rfl rfl rfl (fun a w hs hR hr pre => ?_)) ?_
        · have ep : a.eval (.tmp 1) = .pointer (some ⟨u1, 0, none⟩) := hr 1 (by decide)
          exact wp_pure (run_fieldE rfl ep) rfl
        refine Each.cons rfl (Keeps.const _) (StepOk.plain (g := (fun v _ => v = .slice (some ⟨g, o, none⟩) 2 cap)) rfl rfl rfl (fun a w hs hR hr pre => ?_)) ?_
        · have e18 : a.eval (.tmp 18) = .pointer (some ⟨u1, 7, none⟩) := pre 5 (by decide)
          exact wp_pure (run_ldL rfl e18 ((XC.ofBox ((hR.block u1 HU1.out).trans HX1.out)).c7)) rfl
        refine Each.cons rfl (Keeps.const _) (StepOk.plain (g := (fun v _ => v = .pointer (some ⟨g, o + 8, none⟩))) rfl rfl rfl (fun a w hs hR hr pre => ?_)) ?_
        · have e19 : a.eval (.tmp 19) = .slice (some ⟨g, o, none⟩) 2 cap := pre 6 (by decide)
          exact wp_pure (run_ixE1 rfl e19) rfl
        refine Each.cons rfl (Keeps.const _) (StepOk.plain (g := (fun v _ => v = XV Y.hd AY Y.kids.length capY)) rfl rfl rfl (fun a w hs hR hr pre => ?_)) ?_
        · have e20 : a.eval (.tmp 20) = .pointer (some ⟨g, o + 8, none⟩) := pre 7 (by decide)
          exact wp_pure (run_ldE rfl e20 (HY.out.of (show w.heap[g]? = W1.heap[g]? from hR.block g HG.out))) rfl
        refine Each.cons rfl (fun _ _ _ hb h => h.below hb Hn.out) (StepOk.plain (g := (fun v w => Yown n₀ W1.heap.size W1 w v (prtX Y))) rfl rfl rfl (fun a w hs hR hr pre => ?_)) ?_
        · have e21 : a.eval (.tmp 21) = XV Y.hd AY Y.kids.length capY := pre 8 (by decide)
          refine wp_fn (vs := #[XV Y.hd AY Y.kids.length capY]) rfl Tryz.func34 (by kernel_rfl) (by kernel_rfl) (by simp only [List.map_toArray, List.map_cons, List.map_nil, e21]) ((HIY.out w (bt (Below.drew (Below.refl _ _)) hR)).mono ?_)
          rintro e w2 ⟨v, rfl, hY⟩
          exact ⟨v, rfl, hY.bel, hY.weak (bt (Below.drew (Below.refl _ _)) hR) hR.size⟩
        exact Each.nil
      · intro v w1 hB hG
        have h4 : Yown n₀ W1.heap.size W1 w1 (v 4) (prtX X) := hG 4 (by decide)
        have h9 : Yown n₀ W1.heap.size W1 w1 (v 9) (prtX Y) := hG 9 (by decide)
        obtain ⟨x4, hx4⟩ : ∃ x, v 4 = x := ⟨_, rfl⟩
        obtain ⟨x9, hx9⟩ : ∃ x, v 9 = x := ⟨_, rfl⟩
        rw [hx4] at h4; rw [hx9] at h9
        simp only [List.take_succ_cons, List.take_zero, puts, Act.put, List.setIfInBounds_toArray, List.set_cons_zero, List.set_cons_succ, Nat.reduceAdd, hx4, hx9]
        clear hG hx4 hx9
        have hsz1 : W1.heap.size ≤ w1.heap.size := h4.le
        obtain ⟨q, hq⟩ := h4.row
        rcases h9.rows with ⟨hnil, _⟩ | ⟨g9, cap9, q9, rfl, hle9, hg9, _, hq9, hc9⟩
        · exact absurd hnil hpy.1
        have HE := Lib.hid (show ∀ v' w', w'.ownsRow W1.heap.size 26 8 v' ((prtX X).length + (prtX Y).length) (xcells q ++ xcells q9) → w1.grownBy w' x4.ownBlock → Yown n₀ W1.heap.size W1 w' v' (prtX X ++ prtX Y) from fun v' w' ho hg => h4.grow Hn.out hq hq9 hpy.1 ho hg)
        refine wpAny_next (i := 10) (fuel := 1) (by kernel_rfl) rfl rfl ?_
        refine wp_append_own _ (.tmp 17) (.tmp 22) 24 rfl W1.heap.size 26 i0 _ 8 104 Tryz.underlying24 hi hz0 hz1 hz2 rfl (by decide) x4 _ (xcells q) rfl hq.2 ⟨g9, 0, none⟩ (prtX Y).length cap9 (xcells q9) rfl (by rw [xcells_len, hq9.len]) hc9 (xcells_one _) (by unfold maxLen; omega) (by omega) hsz1 ?_
        intro v' w2 hown hgrow _
        have HY2 := Lib.hid (HE.out _ _ hown hgrow)
        clear hown hgrow h4 h9 hq hq9 hc9 HE
        refine wpAny_next (i := 11) (fuel := 0) (by kernel_rfl) rfl rfl ?_
        unfold Oper.wp
        rw [run_assign rfl]
        simp only [Act.put, List.setIfInBounds_toArray, List.set_cons_zero, List.set_cons_succ, Oper.upon]
        refine wpAny_done (by kernel_rfl) ?_ _
        go_wp2_with fail
        go_ret
        exact ⟨_, rfl, HY2.out.weak HB1.out (by have := HB1.out.size; omega)⟩
    · rw [prtX_one hk]
      rcases (show ¬ h.k = 3 ∨ (h.k = 3 ∧ ¬ h.n = 2) by omega) with h3 | ⟨h3, h2⟩
      case' inl => have hkb : (h.k != 3) = true := by simpa using h3
      case' inr =>
        have hkb : (h.k != 3) = false := by simp [h3]
        have hnb : (h.n != 2) = true := by simpa using h2
      all_goals
        have HY := Lib.hid (Yown.one (n₀ := n₀) (h := h) (l := l) (A := A) (cap := cap) (W1 := w) HB1.out hcap HXl.out (by rw [World.size_alloc]; omega))
        rw [World.size_alloc] at HY
        clear hX ih hf hba hk h3
        go_enter Tryz.func34, Tryz.ntmps34
        go_wp2_with fail
        go_ret
        exact ⟨_, rfl, HY.out⟩
end Go.Proofs.YteckhaicodmakaaGreatDoor
