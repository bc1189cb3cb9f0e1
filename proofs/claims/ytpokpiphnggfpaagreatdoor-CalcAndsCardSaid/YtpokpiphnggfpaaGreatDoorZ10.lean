/-
  Contracts of ofTwo, ofOne.
Contracts of ofOne, decides, at.
Contract of comes.
-/
import Derived.Test.YtpokpiphnggfpaaGreatDoorZ9
section
namespace Go.Proofs.YtpokpiphnggfpaaGreatDoor
open Go.RowKit Go.Shelf
attribute [local go_sem] Oper.semAt_some

section
variable {o : Oper} {a : Act} {w : World}
theorem eval_func (a : Act) (f : FuncId) : a.eval (.func f) = .func (.func f) #[] #[] := rfl
theorem run_ext0 {P : Program} {x : Operand} (ho : o.op = .extract x 0) {u v : Value} (hx : a.eval x = .tuple #[u, v]) : (execOp a.eval o).run P w = .ok (.value u) w := by
  unfold execOp
  simp only [ho, hx]
  rfl
theorem run_ext1 {P : Program} {x : Operand} (ho : o.op = .extract x 1) {u v : Value} (hx : a.eval x = .tuple #[u, v]) : (execOp a.eval o).run P w = .ok (.value v) w := by
  unfold execOp
  simp only [ho, hx]
  rfl
theorem wp_putB {K : Act → World → Prop} {Q : Exit → Act → World → Prop} (x y : Operand) (ho : o.op = .store 28 x y) {u : Nat} {k n k0 n0 : Int} {s s0 : ByteArray}
    (hx : a.eval x = .pointer (some ⟨u, 0, none⟩)) (hy : a.eval y = VV k n s) (hb : Bx w u k0 n0 s0)
    (h : K (a.put o.dst undef) (((w.setCell ⟨u, 0, none⟩ (.int .i64 k)).setCell ⟨u, 1, none⟩ (.int .i64 n)).setCell ⟨u, 2, none⟩ (.string s))) : o.wp Tryz.prog a w K Q := by
  refine wp_store_mid (P := Tryz.prog) 28 x y ho u 0 #[.int .i64 k, .int .i64 n, .string s] hx hy ?_ (by kernel_rfl) (by simp [Value.oneCell']) ?_
  · intro j hj
    match j, hj with
    | 0, _ => exact ⟨by rw [hb.c0]; rfl, hb.f0⟩
    | 1, _ => exact ⟨by rw [hb.c1]; rfl, hb.f1⟩
    | 2, _ => exact ⟨by rw [hb.c2]; rfl, hb.f2⟩
    | j + 3, hj => simp at hj; omega
  · exact h
end
/-- A closure that unlessZero made. -/
def UzV (g : Nat) (v : Value) (w : World) : Prop := ∃ u, v = .func (.func 79) #[] #[.pointer (some ⟨u, 0, none⟩)] ∧ w.cell? ⟨u, 0, none⟩ = some (.func (.func g) #[] #[])
theorem UzV.keeps (g : Nat) : Keeps Bel (UzV g) := fun _ _ _ hb ⟨u, h1, h2⟩ => ⟨u, h1, cellV_kept hb h2⟩
theorem rk2_form (o : Option Va) : ∃ K N S2 E, rk2 o = .tuple #[VV K N S2, .int .i64 E] := by
  cases o with
  | none => exact ⟨_, _, _, _, rfl⟩
  | some v => exact ⟨_, _, _, _, rfl⟩
set_option maxRecDepth 100000 in
set_option maxHeartbeats 8000000 in
theorem ofTwo_any (op : Int) (a b : Va) (w0 : World) (ha : a.s.size ≤ 9223372036854775807) (hb' : b.s.size ≤ 9223372036854775807) (hT : TabV w0) :
    Calls Tryz.prog 48 #[.int .i64 op, VV a.k a.n a.s, VV b.k b.n b.s] w0 fun e w' => e = .returned (rk2 (twoA op a b)) ∧ Below w0.heap.size w0 w' := by
  have HTr := fun w (h : TabV w) => truthOf_any op a b w ha hb' h
  have HS := fun w => reckon_any 36 sumI (fun a b W h1 h2 => sum_any a b W h1 h2) (enters_of Tryz.func36 (by kernel_rfl) rfl) a b w ha hb'
  have HD := fun w => reckon_any 63 subI (fun a b W h1 h2 => sub_any a b W h1 h2) (enters_of Tryz.func63 (by kernel_rfl) rfl) a b w ha hb'
  have HM := fun w => reckon_any 64 prodI (fun a b W h1 h2 => prod_any a b W h1 h2) (enters_of Tryz.func64 (by kernel_rfl) rfl) a b w ha hb'
  have HQ := fun u w (hu : w.cell? ⟨u, 0, none⟩ = some (.func (.func 66) #[] #[])) => reckonC (.pointer (some ⟨u, 0, none⟩)) (fun w => w.cell? ⟨u, 0, none⟩ = some (.func (.func 66) #[] #[])) (fun _ _ h hb => cellV_kept hb h) 79 divI
    (fun a b W hP h1 _ => unless_any a b u 66 Int.tdiv W hP (enters_of Tryz.func66 (by kernel_rfl) rfl) (fun a b W h1 h0 => div_any a b W h1 h0) h1) (enters_of Tryz.func79 (by kernel_rfl) rfl) a b w hu ha hb'
  have HX := fun u w (hu : w.cell? ⟨u, 0, none⟩ = some (.func (.func 67) #[] #[])) => reckonC (.pointer (some ⟨u, 0, none⟩)) (fun w => w.cell? ⟨u, 0, none⟩ = some (.func (.func 67) #[] #[])) (fun _ _ h hb => cellV_kept hb h) 79 modI
    (fun a b W hP h1 _ => unless_any a b u 67 Int.tmod W hP (enters_of Tryz.func67 (by kernel_rfl) rfl) (fun a b W h1 h0 => mod_any a b W h1 h0) h1) (enters_of Tryz.func79 (by kernel_rfl) rfl) a b w hu ha hb'
  obtain ⟨k, n, s⟩ := a
  obtain ⟨k', n', s'⟩ := b
  have H3 := three w0 k n k' n' s s'
  have HA := Lib.hid H3.1
  have HB := Lib.hid H3.2.1
  have HR := Lib.hid H3.2.2.1
  have HW := Lib.hid H3.2.2.2
  have HT := Lib.hid (hT.kept H3.2.2.2)
  clear H3 hT ha hb'
  by_cases h10 : op = 10
  · subst h10
    rw [show twoA 10 ⟨k, n, s⟩ ⟨k', n', s'⟩ = reckA sumI ⟨k, n, s⟩ ⟨k', n', s'⟩ from rfl]
    obtain ⟨K, N, S2, E, hE⟩ := rk2_form (reckA sumI ⟨k, n, s⟩ ⟨k', n', s'⟩)
    rw [hE] at HS
    have HC := Lib.hid HS
    have Hf := Lib.hid hE
    clear HTr HS HD HM HQ HX hE
    go_enter Tryz.func48, Tryz.ntmps48
    go_upto_region 1 with fail
    generalize ((w0.alloc (.cells #[.int .i64 k, .int .i64 n, .string s] 28)).alloc (.cells #[.int .i64 k', .int .i64 n', .string s'] 28)).alloc (.cells #[.int .i64 0, .int .i64 0, .string ⟨#[]⟩] 28) = W at HA HB HR HW HT ⊢
    obtain ⟨a0, a1, a2, _, _, _⟩ := HA.out
    obtain ⟨b0, b1, b2, _, _, _⟩ := HB.out
    go_wp2_with fail
    refine (HC.out _).mono ?_
    rintro e W ⟨rfl, hb⟩
    have HW := Lib.hid (bt HW.out hb)
    have HR := Lib.hid (HR.out.kept hb)
    clear hb
    obtain ⟨r0, r1, r2, f0, f1, f2⟩ := HR.out
    go_wp2_with fail
    refine bodyPost_ret (v := .tuple #[VV K N S2, .int .i64 E]) (by simp [results, Tryz.results48, go_sem, r0, r1, r2]) rfl ⟨by rw [Hf.out], below_set3 HW.out (by omega)⟩
  by_cases h11 : op = 11
  · subst h11
    rw [show twoA 11 ⟨k, n, s⟩ ⟨k', n', s'⟩ = reckA subI ⟨k, n, s⟩ ⟨k', n', s'⟩ from rfl]
    obtain ⟨K, N, S2, E, hE⟩ := rk2_form (reckA subI ⟨k, n, s⟩ ⟨k', n', s'⟩)
    rw [hE] at HD
    have HC := Lib.hid HD
    have Hf := Lib.hid hE
    clear HTr HS HD HM HQ HX hE h10
    go_enter Tryz.func48, Tryz.ntmps48
    go_upto_region 1 with fail
    generalize ((w0.alloc (.cells #[.int .i64 k, .int .i64 n, .string s] 28)).alloc (.cells #[.int .i64 k', .int .i64 n', .string s'] 28)).alloc (.cells #[.int .i64 0, .int .i64 0, .string ⟨#[]⟩] 28) = W at HA HB HR HW HT ⊢
    obtain ⟨a0, a1, a2, _, _, _⟩ := HA.out
    obtain ⟨b0, b1, b2, _, _, _⟩ := HB.out
    go_wp2_with fail
    refine (HC.out _).mono ?_
    rintro e W ⟨rfl, hb⟩
    have HW := Lib.hid (bt HW.out hb)
    have HR := Lib.hid (HR.out.kept hb)
    clear hb
    obtain ⟨r0, r1, r2, f0, f1, f2⟩ := HR.out
    go_wp2_with fail
    refine bodyPost_ret (v := .tuple #[VV K N S2, .int .i64 E]) (by simp [results, Tryz.results48, go_sem, r0, r1, r2]) rfl ⟨by rw [Hf.out], below_set3 HW.out (by omega)⟩
  by_cases h12 : op = 12
  · subst h12
    rw [show twoA 12 ⟨k, n, s⟩ ⟨k', n', s'⟩ = reckA prodI ⟨k, n, s⟩ ⟨k', n', s'⟩ from rfl]
    obtain ⟨K, N, S2, E, hE⟩ := rk2_form (reckA prodI ⟨k, n, s⟩ ⟨k', n', s'⟩)
    rw [hE] at HM
    have HC := Lib.hid HM
    have Hf := Lib.hid hE
    clear HTr HS HD HM HQ HX hE h10 h11
    go_enter Tryz.func48, Tryz.ntmps48
    go_upto_region 1 with fail
    generalize ((w0.alloc (.cells #[.int .i64 k, .int .i64 n, .string s] 28)).alloc (.cells #[.int .i64 k', .int .i64 n', .string s'] 28)).alloc (.cells #[.int .i64 0, .int .i64 0, .string ⟨#[]⟩] 28) = W at HA HB HR HW HT ⊢
    obtain ⟨a0, a1, a2, _, _, _⟩ := HA.out
    obtain ⟨b0, b1, b2, _, _, _⟩ := HB.out
    go_wp2_with fail
    refine (HC.out _).mono ?_
    rintro e W ⟨rfl, hb⟩
    have HW := Lib.hid (bt HW.out hb)
    have HR := Lib.hid (HR.out.kept hb)
    clear hb
    obtain ⟨r0, r1, r2, f0, f1, f2⟩ := HR.out
    go_wp2_with fail
    refine bodyPost_ret (v := .tuple #[VV K N S2, .int .i64 E]) (by simp [results, Tryz.results48, go_sem, r0, r1, r2]) rfl ⟨by rw [Hf.out], below_set3 HW.out (by omega)⟩
  by_cases h13 : op = 13
  · subst h13
    rw [show twoA 13 ⟨k, n, s⟩ ⟨k', n', s'⟩ = reckA divI ⟨k, n, s⟩ ⟨k', n', s'⟩ from rfl]
    obtain ⟨K, N, S2, E, hE⟩ := rk2_form (reckA divI ⟨k, n, s⟩ ⟨k', n', s'⟩)
    rw [hE] at HQ
    have HC := Lib.hid HQ
    have Hf := Lib.hid hE
    clear HTr HS HD HM HQ HX hE h10 h11 h12
    go_enter Tryz.func48, Tryz.ntmps48
    go_upto_region 1 with fail
    generalize ((w0.alloc (.cells #[.int .i64 k, .int .i64 n, .string s] 28)).alloc (.cells #[.int .i64 k', .int .i64 n', .string s'] 28)).alloc (.cells #[.int .i64 0, .int .i64 0, .string ⟨#[]⟩] 28) = W at HA HB HR HW HT ⊢
    obtain ⟨a0, a1, a2, _, _, _⟩ := HA.out
    obtain ⟨b0, b1, b2, _, _, _⟩ := HB.out
    go_wp2_with fail
    refine wp_region_inv (n := 6) (ds := [some 32, some 33, some 34, some 35, some 36, some 37, none, some 7]) (need := [[], [], [], [0, 1, 2], [3], [3], [0, 1, 2, 3, 4, 5], [0, 1, 2, 3, 4, 5, 6]]) (R := Bel) (Gs := [
        (fun v _ => v = VV k n s),
        (fun v _ => v = VV k' n' s'),
        (UzV 66),
        (fun v _ => v = .tuple #[VV K N S2, .int .i64 E]),
        (fun v _ => v = VV K N S2),
        (fun v _ => v = .int .i64 E)])
      (by kernel_rfl) (by kernel_rfl) (by decide) (by kernel_rfl) (by kernel_rfl) (by kernel_rfl) (fun x => Below.refl _ x) (fun _ _ _ h k => bt h k) ?_ ?_
    · refine Each.cons rfl (Keeps.const _) (StepOk.plain (g := (fun v _ => v = VV k n s)) rfl rfl rfl (fun a w hs hR hr pre => ?_)) ?_
      · have ep : a.eval (.tmp 4) = .pointer (some ⟨w0.heap.size, 0, none⟩) := hr 4 (by decide)
        exact wp_pure (run_ldB rfl ep (HA.out.kept (bt (Below.drew (Below.refl _ _)) hR))) rfl
      refine Each.cons rfl (Keeps.const _) (StepOk.plain (g := (fun v _ => v = VV k' n' s')) rfl rfl rfl (fun a w hs hR hr pre => ?_)) ?_
      · have ep : a.eval (.tmp 5) = .pointer (some ⟨w0.heap.size + 1, 0, none⟩) := hr 5 (by decide)
        exact wp_pure (run_ldB rfl ep (HB.out.kept (bt (Below.drew (Below.refl _ _)) hR))) rfl
      refine Each.cons rfl (UzV.keeps _) (StepOk.plain (g := (UzV 66)) rfl rfl rfl (fun a w hs hR hr pre => ?_)) ?_
      · exact wp_fn (vs := #[.func (.func 66) #[] #[]]) rfl Tryz.func65 (by kernel_rfl) (by kernel_rfl) (by simp only [List.map_toArray, List.map_cons, List.map_nil, eval_func]) ((unlessZero_any _ w).mono fun _ _ ⟨h1, h2, h3⟩ => ⟨_, h1, h2, _, rfl, h3⟩)
      refine Each.cons rfl (Keeps.const _) (StepOk.plain (g := (fun v _ => v = .tuple #[VV K N S2, .int .i64 E])) rfl rfl rfl (fun a w hs hR hr pre => ?_)) ?_
      · have e32 : a.eval (.tmp 32) = VV k n s := pre 0 (by decide)
        have e33 : a.eval (.tmp 33) = VV k' n' s' := pre 1 (by decide)
        obtain ⟨u, e34, hu⟩ : (UzV 66) (a.eval (.tmp 34)) w := pre 2 (by decide)
        exact wp_fn (vs := #[VV k n s, VV k' n' s', .func (.func 79) #[] #[.pointer (some ⟨u, 0, none⟩)]]) rfl Tryz.func35 (by kernel_rfl) (by kernel_rfl) (by simp only [List.map_toArray, List.map_cons, List.map_nil, e32, e33, e34]) ((HC.out u w hu).mono fun _ _ ⟨h1, h2⟩ => ⟨_, h1, h2, rfl⟩)
      refine Each.cons rfl (Keeps.const _) (StepOk.plain (g := (fun v _ => v = VV K N S2)) rfl rfl rfl (fun a w hs hR hr pre => ?_)) ?_
      · have e35 : a.eval (.tmp 35) = .tuple #[VV K N S2, .int .i64 E] := pre 3 (by decide)
        exact wp_pure (run_ext0 rfl e35) rfl
      refine Each.cons rfl (Keeps.const _) (StepOk.plain (g := (fun v _ => v = .int .i64 E)) rfl rfl rfl (fun a w hs hR hr pre => ?_)) ?_
      · have e35 : a.eval (.tmp 35) = .tuple #[VV K N S2, .int .i64 E] := pre 3 (by decide)
        exact wp_pure (run_ext1 rfl e35) rfl
      exact Each.nil
    · intro v w1 hB hG
      have e4 : v 4 = VV K N S2 := hG 4 (by decide)
      have e5 : v 5 = .int .i64 E := hG 5 (by decide)
      clear hG
      simp only [List.take_succ_cons, List.take_zero, puts, Act.put, List.setIfInBounds_toArray, List.set_cons_zero, List.set_cons_succ, Nat.reduceAdd, e4, e5]
      have HB9 := Lib.hid (bt (Below.drew (Below.refl _ _)) hB)
      have HRR := Lib.hid (HR.out.kept HB9.out)
      clear hB
      refine wpAny_next (i := 6) (fuel := 1) (by kernel_rfl) rfl rfl ?_
      refine wp_putB (.tmp 6) (.tmp 36) rfl rfl (by rfl) HRR.out ?_
      refine wpAny_next (i := 7) (fuel := 0) (by kernel_rfl) rfl rfl ?_
      unfold Oper.wp
      rw [run_assign rfl]
      simp only [Act.put, List.setIfInBounds_toArray, List.set_cons_zero, List.set_cons_succ, Oper.upon]
      obtain ⟨r0, r1, r2, f0, f1, f2⟩ := HRR.out
      refine wpAny_done (by kernel_rfl) ?_ _
      go_wp2_with fail
      refine bodyPost_ret (v := .tuple #[VV K N S2, .int .i64 E]) (by simp [results, Tryz.results48, go_sem, r0, r1, r2]) rfl ⟨by rw [Hf.out], below_set3 (bt HW.out HB9.out) (by omega)⟩
  by_cases h14 : op = 14
  · subst h14
    rw [show twoA 14 ⟨k, n, s⟩ ⟨k', n', s'⟩ = reckA modI ⟨k, n, s⟩ ⟨k', n', s'⟩ from rfl]
    obtain ⟨K, N, S2, E, hE⟩ := rk2_form (reckA modI ⟨k, n, s⟩ ⟨k', n', s'⟩)
    rw [hE] at HX
    have HC := Lib.hid HX
    have Hf := Lib.hid hE
    clear HTr HS HD HM HQ HX hE h10 h11 h12 h13
    go_enter Tryz.func48, Tryz.ntmps48
    go_upto_region 1 with fail
    generalize ((w0.alloc (.cells #[.int .i64 k, .int .i64 n, .string s] 28)).alloc (.cells #[.int .i64 k', .int .i64 n', .string s'] 28)).alloc (.cells #[.int .i64 0, .int .i64 0, .string ⟨#[]⟩] 28) = W at HA HB HR HW HT ⊢
    obtain ⟨a0, a1, a2, _, _, _⟩ := HA.out
    obtain ⟨b0, b1, b2, _, _, _⟩ := HB.out
    go_wp2_with fail
    refine wp_region_inv (n := 6) (ds := [some 40, some 41, some 42, some 43, some 44, some 45, none, some 7]) (need := [[], [], [], [0, 1, 2], [3], [3], [0, 1, 2, 3, 4, 5], [0, 1, 2, 3, 4, 5, 6]]) (R := Bel) (Gs := [
        (fun v _ => v = VV k n s),
        (fun v _ => v = VV k' n' s'),
        (UzV 67),
        (fun v _ => v = .tuple #[VV K N S2, .int .i64 E]),
        (fun v _ => v = VV K N S2),
        (fun v _ => v = .int .i64 E)])
      (by kernel_rfl) (by kernel_rfl) (by decide) (by kernel_rfl) (by kernel_rfl) (by kernel_rfl) (fun x => Below.refl _ x) (fun _ _ _ h k => bt h k) ?_ ?_
    · refine Each.cons rfl (Keeps.const _) (StepOk.plain (g := (fun v _ => v = VV k n s)) rfl rfl rfl (fun a w hs hR hr pre => ?_)) ?_
      · have ep : a.eval (.tmp 4) = .pointer (some ⟨w0.heap.size, 0, none⟩) := hr 4 (by decide)
        exact wp_pure (run_ldB rfl ep (HA.out.kept (bt (Below.drew (Below.refl _ _)) hR))) rfl
      refine Each.cons rfl (Keeps.const _) (StepOk.plain (g := (fun v _ => v = VV k' n' s')) rfl rfl rfl (fun a w hs hR hr pre => ?_)) ?_
      · have ep : a.eval (.tmp 5) = .pointer (some ⟨w0.heap.size + 1, 0, none⟩) := hr 5 (by decide)
        exact wp_pure (run_ldB rfl ep (HB.out.kept (bt (Below.drew (Below.refl _ _)) hR))) rfl
      refine Each.cons rfl (UzV.keeps _) (StepOk.plain (g := (UzV 67)) rfl rfl rfl (fun a w hs hR hr pre => ?_)) ?_
      · exact wp_fn (vs := #[.func (.func 67) #[] #[]]) rfl Tryz.func65 (by kernel_rfl) (by kernel_rfl) (by simp only [List.map_toArray, List.map_cons, List.map_nil, eval_func]) ((unlessZero_any _ w).mono fun _ _ ⟨h1, h2, h3⟩ => ⟨_, h1, h2, _, rfl, h3⟩)
      refine Each.cons rfl (Keeps.const _) (StepOk.plain (g := (fun v _ => v = .tuple #[VV K N S2, .int .i64 E])) rfl rfl rfl (fun a w hs hR hr pre => ?_)) ?_
      · have e40 : a.eval (.tmp 40) = VV k n s := pre 0 (by decide)
        have e41 : a.eval (.tmp 41) = VV k' n' s' := pre 1 (by decide)
        obtain ⟨u, e34, hu⟩ : (UzV 67) (a.eval (.tmp 42)) w := pre 2 (by decide)
        exact wp_fn (vs := #[VV k n s, VV k' n' s', .func (.func 79) #[] #[.pointer (some ⟨u, 0, none⟩)]]) rfl Tryz.func35 (by kernel_rfl) (by kernel_rfl) (by simp only [List.map_toArray, List.map_cons, List.map_nil, e40, e41, e34]) ((HC.out u w hu).mono fun _ _ ⟨h1, h2⟩ => ⟨_, h1, h2, rfl⟩)
      refine Each.cons rfl (Keeps.const _) (StepOk.plain (g := (fun v _ => v = VV K N S2)) rfl rfl rfl (fun a w hs hR hr pre => ?_)) ?_
      · have e43 : a.eval (.tmp 43) = .tuple #[VV K N S2, .int .i64 E] := pre 3 (by decide)
        exact wp_pure (run_ext0 rfl e43) rfl
      refine Each.cons rfl (Keeps.const _) (StepOk.plain (g := (fun v _ => v = .int .i64 E)) rfl rfl rfl (fun a w hs hR hr pre => ?_)) ?_
      · have e43 : a.eval (.tmp 43) = .tuple #[VV K N S2, .int .i64 E] := pre 3 (by decide)
        exact wp_pure (run_ext1 rfl e43) rfl
      exact Each.nil
    · intro v w1 hB hG
      have e4 : v 4 = VV K N S2 := hG 4 (by decide)
      have e5 : v 5 = .int .i64 E := hG 5 (by decide)
      clear hG
      simp only [List.take_succ_cons, List.take_zero, puts, Act.put, List.setIfInBounds_toArray, List.set_cons_zero, List.set_cons_succ, Nat.reduceAdd, e4, e5]
      have HB9 := Lib.hid (bt (Below.drew (Below.refl _ _)) hB)
      have HRR := Lib.hid (HR.out.kept HB9.out)
      clear hB
      refine wpAny_next (i := 6) (fuel := 1) (by kernel_rfl) rfl rfl ?_
      refine wp_putB (.tmp 6) (.tmp 44) rfl rfl (by rfl) HRR.out ?_
      refine wpAny_next (i := 7) (fuel := 0) (by kernel_rfl) rfl rfl ?_
      unfold Oper.wp
      rw [run_assign rfl]
      simp only [Act.put, List.setIfInBounds_toArray, List.set_cons_zero, List.set_cons_succ, Oper.upon]
      obtain ⟨r0, r1, r2, f0, f1, f2⟩ := HRR.out
      refine wpAny_done (by kernel_rfl) ?_ _
      go_wp2_with fail
      refine bodyPost_ret (v := .tuple #[VV K N S2, .int .i64 E]) (by simp [results, Tryz.results48, go_sem, r0, r1, r2]) rfl ⟨by rw [Hf.out], below_set3 (bt HW.out HB9.out) (by omega)⟩
  have HE := show twoA op ⟨k, n, s⟩ ⟨k', n', s'⟩ = some (ofT (truO op ⟨k, n, s⟩ ⟨k', n', s'⟩)) by rw [twoA, if_neg h10, if_neg h11, if_neg h12, if_neg h13, if_neg h14]
  have Hf := Lib.hid (show rk2 (twoA op ⟨k, n, s⟩ ⟨k', n', s'⟩) = .tuple #[VV (ofK (truO op ⟨k, n, s⟩ ⟨k', n', s'⟩)) (ofN (truO op ⟨k, n, s⟩ ⟨k', n', s'⟩)) ⟨#[]⟩, .int .i64 0] by rw [HE]; rfl)
  have g0 : (op == 10) = false := by simpa using h10
  have g1 : (op == 11) = false := by simpa using h11
  have g2 : (op == 12) = false := by simpa using h12
  have g3 : (op == 13) = false := by simpa using h13
  have g4 : (op == 14) = false := by simpa using h14
  have HTr := Lib.hid HTr
  clear HS HD HM HQ HX h10 h11 h12 h13 h14 HE
  go_enter Tryz.func48, Tryz.ntmps48
  go_upto_region 1 with fail
  generalize ((w0.alloc (.cells #[.int .i64 k, .int .i64 n, .string s] 28)).alloc (.cells #[.int .i64 k', .int .i64 n', .string s'] 28)).alloc (.cells #[.int .i64 0, .int .i64 0, .string ⟨#[]⟩] 28) = W at HA HB HR HW HT ⊢
  obtain ⟨a0, a1, a2, _, _, _⟩ := HA.out
  obtain ⟨b0, b1, b2, _, _, _⟩ := HB.out
  go_wp2_with fail
  refine (HTr.out _ HT.out).mono ?_
  rintro e W1 ⟨rfl, hb⟩
  have HW := Lib.hid (bt HW.out hb)
  have HR := Lib.hid (HR.out.kept hb)
  clear hb
  go_wp2_with fail
  refine (of_any _ _).mono ?_
  rintro e W ⟨rfl, hb⟩
  have HW := Lib.hid (bt HW.out hb)
  have HR := Lib.hid (HR.out.kept hb)
  clear hb
  obtain ⟨r0, r1, r2, f0, f1, f2⟩ := HR.out
  go_wp2_with fail
  refine bodyPost_ret (v := .tuple #[VV (ofK (truO op ⟨k, n, s⟩ ⟨k', n', s'⟩)) (ofN (truO op ⟨k, n, s⟩ ⟨k', n', s'⟩)) ⟨#[]⟩, .int .i64 0]) (by simp [results, Tryz.results48, go_sem, r0, r1, r2]) rfl ⟨by rw [Hf.out], below_set3 HW.out (by omega)⟩
end Go.Proofs.YtpokpiphnggfpaaGreatDoor
end
section
namespace Go.Proofs.YtpokpiphnggfpaaGreatDoor
open Go.RowKit Go.Shelf
attribute [local go_sem] Oper.semAt_some

theorem bool_any (b : Bool) (w : World) : Calls Tryz.prog 62 #[.bool b] w fun e w' => e = .returned (VV 1 (if b then 1 else 0) ⟨#[]⟩) ∧ Below w.heap.size w w' := by
  cases b
  · exact bool_false w
  · exact bool_true w
set_option maxRecDepth 100000 in
set_option maxHeartbeats 8000000 in
theorem ofOne_any (op : Int) (a : Va) (w0 : World) (ha : a.s.size ≤ 9223372036854775807) (hT : TabV w0) :
    Calls Tryz.prog 46 #[.int .i64 op, VV a.k a.n a.s] w0 fun e w' => e = .returned (rk2 (oneA op a)) ∧ Below w0.heap.size w0 w' := by
  have H2 := fun w h => ofTwo_any 11 (intA 0) a w (by decide) ha h
  obtain ⟨k, n, s⟩ := a
  simp only at ha
  have H3 := two w0 k n 0 0 s ⟨#[]⟩
  have HA := Lib.hid H3.1
  have HR := Lib.hid H3.2.1
  have HW := Lib.hid H3.2.2
  have HT := Lib.hid (hT.kept H3.2.2)
  clear H3 hT
  by_cases h3 : op = 3
  · subst h3
    have Hf := Lib.hid (show rk2 (oneA 3 ⟨k, n, s⟩) = .tuple #[VV (ofK (notT (tr (truthV k n s)))) (ofN (notT (tr (truthV k n s)))) ⟨#[]⟩, .int .i64 0] from rfl)
    rw [Hf.out]
    clear H2
    go_enter Tryz.func46, Tryz.ntmps46
    go_upto_region 1 with fail
    generalize (w0.alloc (.cells #[.int .i64 k, .int .i64 n, .string s] 28)).alloc (.cells #[.int .i64 0, .int .i64 0, .string ⟨#[]⟩] 28) = W at HA HR HW HT ⊢
    obtain ⟨a0, a1, a2, _, _, _⟩ := HA.out
    go_wp2_with fail
    refine (vtruth_any _ _ _ _ ha).mono ?_
    rintro e W ⟨rfl, hb⟩
    have HW := Lib.hid (bt HW.out hb)
    have HR := Lib.hid (HR.out.kept hb)
    have HT := Lib.hid (HT.out.kept hb)
    clear hb
    obtain ⟨r0, r1, r2, f0, f1, f2⟩ := HR.out
    go_wp2_with fail
    refine (not_any _ _ HT.out).mono ?_
    rintro e W ⟨rfl, hb⟩
    have HW := Lib.hid (bt HW.out hb)
    have HR := Lib.hid (HR.out.kept hb)
    have HT := Lib.hid (HT.out.kept hb)
    clear hb
    obtain ⟨r0, r1, r2, f0, f1, f2⟩ := HR.out
    go_wp2_with fail
    refine (of_any _ _).mono ?_
    rintro e W ⟨rfl, hb⟩
    have HW := Lib.hid (bt HW.out hb)
    have HR := Lib.hid (HR.out.kept hb)
    have HT := Lib.hid (HT.out.kept hb)
    clear hb
    obtain ⟨r0, r1, r2, f0, f1, f2⟩ := HR.out
    go_wp2_with fail
    exact bodyPost_ret (v := .tuple #[VV (ofK (notT (tr (truthV k n s)))) (ofN (notT (tr (truthV k n s)))) ⟨#[]⟩, .int .i64 0]) (by simp [results, Tryz.results46, go_sem, r0, r1, r2]) rfl ⟨rfl, below_set3 HW.out (by omega)⟩
  by_cases h16 : op = 16
  · subst h16
    obtain ⟨q, hq⟩ : ∃ q, (k == 0) = q := ⟨_, rfl⟩
    have Hf := Lib.hid (show rk2 (oneA 16 ⟨k, n, s⟩) = .tuple #[VV 1 (if q then 1 else 0) ⟨#[]⟩, .int .i64 0] by rw [← hq]; rfl)
    have HN := Lib.hid (fun w => isNull_any k n s w)
    rw [hq] at HN
    rw [Hf.out]
    obtain ⟨m, hm⟩ : ∃ m : Int, (if q then 1 else 0) = m := ⟨_, rfl⟩
    have HBo := bool_any q
    rw [hm] at HBo ⊢
    have HBo := Lib.hid HBo
    clear H2 hq hm Hf
    go_enter Tryz.func46, Tryz.ntmps46
    go_upto_region 1 with fail
    generalize (w0.alloc (.cells #[.int .i64 k, .int .i64 n, .string s] 28)).alloc (.cells #[.int .i64 0, .int .i64 0, .string ⟨#[]⟩] 28) = W at HA HR HW HT ⊢
    obtain ⟨a0, a1, a2, _, _, _⟩ := HA.out
    go_wp2_with fail
    refine (HN.out _).mono ?_
    rintro e W ⟨rfl, hb⟩
    have HW := Lib.hid (bt HW.out hb)
    have HR := Lib.hid (HR.out.kept hb)
    have HT := Lib.hid (HT.out.kept hb)
    clear hb
    obtain ⟨r0, r1, r2, f0, f1, f2⟩ := HR.out
    go_wp2_with fail
    refine (HBo.out _).mono ?_
    rintro e W ⟨rfl, hb⟩
    have HW := Lib.hid (bt HW.out hb)
    have HR := Lib.hid (HR.out.kept hb)
    have HT := Lib.hid (HT.out.kept hb)
    clear hb
    obtain ⟨r0, r1, r2, f0, f1, f2⟩ := HR.out
    go_wp2_with fail
    exact bodyPost_ret (v := .tuple #[VV 1 m ⟨#[]⟩, .int .i64 0]) (by simp [results, Tryz.results46, go_sem, r0, r1, r2]) rfl ⟨rfl, below_set3 HW.out (by omega)⟩
  by_cases h17 : op = 17
  · subst h17
    obtain ⟨q, hq⟩ : ∃ q, (k == 0) = q := ⟨_, rfl⟩
    have Hf := Lib.hid (show rk2 (oneA 17 ⟨k, n, s⟩) = .tuple #[VV 1 (if !q then 1 else 0) ⟨#[]⟩, .int .i64 0] by rw [← hq]; rfl)
    have HN := Lib.hid (fun w => isNull_any k n s w)
    rw [hq] at HN
    rw [Hf.out]
    obtain ⟨m, hm⟩ : ∃ m : Int, (if !q then 1 else 0) = m := ⟨_, rfl⟩
    have HBo := bool_any (!q)
    rw [hm] at HBo ⊢
    have HBo := Lib.hid HBo
    clear H2 hq hm Hf
    go_enter Tryz.func46, Tryz.ntmps46
    go_upto_region 1 with fail
    generalize (w0.alloc (.cells #[.int .i64 k, .int .i64 n, .string s] 28)).alloc (.cells #[.int .i64 0, .int .i64 0, .string ⟨#[]⟩] 28) = W at HA HR HW HT ⊢
    obtain ⟨a0, a1, a2, _, _, _⟩ := HA.out
    go_wp2_with fail
    refine (HN.out _).mono ?_
    rintro e W ⟨rfl, hb⟩
    have HW := Lib.hid (bt HW.out hb)
    have HR := Lib.hid (HR.out.kept hb)
    have HT := Lib.hid (HT.out.kept hb)
    clear hb
    obtain ⟨r0, r1, r2, f0, f1, f2⟩ := HR.out
    go_wp2_with fail
    refine (HBo.out _).mono ?_
    rintro e W ⟨rfl, hb⟩
    have HW := Lib.hid (bt HW.out hb)
    have HR := Lib.hid (HR.out.kept hb)
    have HT := Lib.hid (HT.out.kept hb)
    clear hb
    obtain ⟨r0, r1, r2, f0, f1, f2⟩ := HR.out
    go_wp2_with fail
    exact bodyPost_ret (v := .tuple #[VV 1 m ⟨#[]⟩, .int .i64 0]) (by simp [results, Tryz.results46, go_sem, r0, r1, r2]) rfl ⟨rfl, below_set3 HW.out (by omega)⟩
  obtain ⟨K, N, S2, E, hE⟩ := rk2_form (twoA 11 (intA 0) ⟨k, n, s⟩)
  rw [hE] at H2
  have HC := Lib.hid (show ∀ w, TabV w → Calls Tryz.prog 48 #[.int .i64 11, VV 2 0 ⟨#[]⟩, VV k n s] w fun e w' => e = .returned (.tuple #[VV K N S2, .int .i64 E]) ∧ Below w.heap.size w w' from H2)
  have Hf := Lib.hid (show rk2 (oneA op ⟨k, n, s⟩) = .tuple #[VV K N S2, .int .i64 E] by rw [oneA, if_neg h3, if_neg h16, if_neg h17, hE])
  rw [Hf.out]
  have g0 : (op == 3) = false := by simpa using h3
  have g1 : (op == 16) = false := by simpa using h16
  have g2 : (op == 17) = false := by simpa using h17
  clear h3 h16 h17 H2 hE
  go_enter Tryz.func46, Tryz.ntmps46
  go_upto_region 1 with fail
  generalize (w0.alloc (.cells #[.int .i64 k, .int .i64 n, .string s] 28)).alloc (.cells #[.int .i64 0, .int .i64 0, .string ⟨#[]⟩] 28) = W at HA HR HW HT ⊢
  obtain ⟨a0, a1, a2, _, _, _⟩ := HA.out
  go_wp2_with fail
  refine wp_region_inv (n := 5) (ds := [some 24, some 25, some 26, some 27, some 28, none, some 5]) (need := [[], [], [0, 1], [2], [2], [0, 1, 2, 3, 4], [0, 1, 2, 3, 4, 5]]) (R := Bel) (Gs := [
      (fun v _ => v = VV 2 0 ⟨#[]⟩),
      (fun v _ => v = VV k n s),
      (fun v _ => v = .tuple #[VV K N S2, .int .i64 E]),
      (fun v _ => v = VV K N S2),
      (fun v _ => v = .int .i64 E)])
    (by kernel_rfl) (by kernel_rfl) (by decide) (by kernel_rfl) (by kernel_rfl) (by kernel_rfl) (fun x => Below.refl _ x) (fun _ _ _ h k => bt h k) ?_ ?_
  · refine Each.cons rfl (Keeps.const _) (StepOk.plain (g := (fun v _ => v = VV 2 0 ⟨#[]⟩)) rfl rfl rfl (fun a w hs hR hr pre => ?_)) ?_
    · exact wp_fn (vs := #[.int .i64 0]) rfl Tryz.func30 (by kernel_rfl) (by kernel_rfl) (by simp only [List.map_toArray, List.map_cons, List.map_nil, eval_const]) ((int_any 0 w).mono fun _ _ ⟨h1, h2⟩ => ⟨_, h1, h2, rfl⟩)
    refine Each.cons rfl (Keeps.const _) (StepOk.plain (g := (fun v _ => v = VV k n s)) rfl rfl rfl (fun a w hs hR hr pre => ?_)) ?_
    · have ep : a.eval (.tmp 3) = .pointer (some ⟨w0.heap.size, 0, none⟩) := hr 3 (by decide)
      exact wp_pure (run_ldB rfl ep (HA.out.kept (bt (Below.drew (Below.refl _ _)) hR))) rfl
    refine Each.cons rfl (Keeps.const _) (StepOk.plain (g := (fun v _ => v = .tuple #[VV K N S2, .int .i64 E])) rfl rfl rfl (fun a w hs hR hr pre => ?_)) ?_
    · have e24 : a.eval (.tmp 24) = VV 2 0 ⟨#[]⟩ := pre 0 (by decide)
      have e25 : a.eval (.tmp 25) = VV k n s := pre 1 (by decide)
      exact wp_fn (vs := #[.int .i64 11, VV 2 0 ⟨#[]⟩, VV k n s]) rfl Tryz.func48 (by kernel_rfl) (by kernel_rfl) (by simp only [List.map_toArray, List.map_cons, List.map_nil, eval_const, e24, e25]) ((HC.out w (HT.out.kept (bt (Below.drew (Below.refl _ _)) hR))).mono fun _ _ ⟨h1, h2⟩ => ⟨_, h1, h2, rfl⟩)
    refine Each.cons rfl (Keeps.const _) (StepOk.plain (g := (fun v _ => v = VV K N S2)) rfl rfl rfl (fun a w hs hR hr pre => ?_)) ?_
    · have e26 : a.eval (.tmp 26) = .tuple #[VV K N S2, .int .i64 E] := pre 2 (by decide)
      exact wp_pure (run_ext0 rfl e26) rfl
    refine Each.cons rfl (Keeps.const _) (StepOk.plain (g := (fun v _ => v = .int .i64 E)) rfl rfl rfl (fun a w hs hR hr pre => ?_)) ?_
    · have e26 : a.eval (.tmp 26) = .tuple #[VV K N S2, .int .i64 E] := pre 2 (by decide)
      exact wp_pure (run_ext1 rfl e26) rfl
    exact Each.nil
  · intro v w1 hB hG
    have e3 : v 3 = VV K N S2 := hG 3 (by decide)
    have e4 : v 4 = .int .i64 E := hG 4 (by decide)
    clear hG
    simp only [List.take_succ_cons, List.take_zero, puts, Act.put, List.setIfInBounds_toArray, List.set_cons_zero, List.set_cons_succ, Nat.reduceAdd, e3, e4]
    have HB9 := Lib.hid (bt (Below.drew (Below.refl _ _)) hB)
    have HRR := Lib.hid (HR.out.kept HB9.out)
    clear hB
    refine wpAny_next (i := 5) (fuel := 1) (by kernel_rfl) rfl rfl ?_
    refine wp_putB (.tmp 4) (.tmp 27) rfl rfl (by rfl) HRR.out ?_
    refine wpAny_next (i := 6) (fuel := 0) (by kernel_rfl) rfl rfl ?_
    unfold Oper.wp
    rw [run_assign rfl]
    simp only [Act.put, List.setIfInBounds_toArray, List.set_cons_zero, List.set_cons_succ, Oper.upon]
    obtain ⟨r0, r1, r2, f0, f1, f2⟩ := HRR.out
    refine wpAny_done (by kernel_rfl) ?_ _
    go_wp2_with fail
    refine bodyPost_ret (v := .tuple #[VV K N S2, .int .i64 E]) (by simp [results, Tryz.results46, go_sem, r0, r1, r2]) rfl ⟨rfl, below_set3 (bt HW.out HB9.out) (by omega)⟩

set_option maxHeartbeats 4000000 in
theorem decides_any (op : Int) (a : Va) (w0 : World) (ha : a.s.size ≤ 9223372036854775807) :
    Calls Tryz.prog 47 #[.int .i64 op, VV a.k a.n a.s] w0 fun e w' => e = .returned (.bool (decA op a)) ∧ Below w0.heap.size w0 w' := by
  obtain ⟨k, n, s⟩ := a
  simp only at ha
  obtain ⟨t, ht⟩ : ∃ t, truthV k n s = t := ⟨_, rfl⟩
  have HC := fun w => vtruth_any k n s w ha
  rw [ht] at HC
  have HC := Lib.hid HC
  have HD : decA op ⟨k, n, s⟩ = ((op == 2 && t == 0) || (op == 1 && t == 1)) := by rw [← ht]; rfl
  rw [HD]
  clear HD ht
  have H0 := Lib.hid (ba w0 (vbox k n s))
  by_cases h2 : op = 2
  · subst h2
    cases h : t == 0
    all_goals
      go_enter Tryz.func47, Tryz.ntmps47
      go_wp2_with fail
      refine (HC.out _).mono ?_
      rintro e w1 ⟨rfl, hb⟩
      have HB := Lib.hid (bt H0.out hb)
      clear hb
      go_wp2_with fail
      go_ret
      exact ⟨rfl, HB.out⟩
  by_cases h1 : op = 1
  · subst h1
    cases h : t == 1
    all_goals
      go_enter Tryz.func47, Tryz.ntmps47
      go_wp2_with fail
      refine (HC.out _).mono ?_
      rintro e w1 ⟨rfl, hb⟩
      have HB := Lib.hid (bt H0.out hb)
      clear hb
      go_wp2_with fail
      go_ret
      exact ⟨rfl, HB.out⟩
  have g2 : (op == 2) = false := by simpa using h2
  have g1 : (op == 1) = false := by simpa using h1
  rw [g1, g2]
  clear h1 h2
  go_enter Tryz.func47, Tryz.ntmps47
  go_wp2_with fail
  refine (HC.out _).mono ?_
  rintro e w1 ⟨rfl, hb⟩
  have HB := Lib.hid (bt H0.out hb)
  clear hb
  go_wp2_with fail
  go_ret
  exact ⟨rfl, HB.out⟩
set_option maxHeartbeats 4000000 in
theorem at_any (r : List Va) (A : Option Addr) (cap : Nat) (c : Int) (w0 : World) (hR : RowAt w0 A r) (_ : r.length ≤ 9223372036854775807) (h0 : 0 ≤ c) (h1 : c ≤ 1000) :
    Calls Tryz.prog 45 #[.slice A r.length cap, .int .i64 c] w0 fun e w' => e = .returned (VV (atR r c).k (atR r c).n (atR r c).s) ∧ Below w0.heap.size w0 w' := by
  obtain ⟨i, rfl⟩ : ∃ i : Nat, c = i := ⟨c.toNat, by omega⟩
  have HW := Lib.hid (ba w0 (vbox 0 0 ⟨#[]⟩))
  have HR := Lib.hid (Bx.new w0 0 0 ⟨#[]⟩)
  by_cases hlt : i < r.length
  · have he : atR r i = r[i] := by rw [atR, Int.toNat_natCast, List.getD_eq_getElem?_getD, List.getElem?_eq_getElem hlt]; rfl
    rw [he]
    obtain ⟨b, off, rfl, hb, c0, c1, c2⟩ := (hR.kept (ba w0 (vbox 0 0 ⟨#[]⟩))).at hlt
    generalize r[i] = v at c0 c1 c2 ⊢
    obtain ⟨k, n, s⟩ := v
    simp only at c0 c1 c2
    clear hR he
    go_enter Tryz.func45, Tryz.ntmps45
    go_upto_region 1 with fail
    generalize w0.alloc (.cells #[.int .i64 0, .int .i64 0, .string ⟨#[]⟩] 28) = W at HR HW c0 c1 c2 hb ⊢
    obtain ⟨r0, r1, r2, f0, f1, f2⟩ := HR.out
    go_wp2_with fail
    exact bodyPost_ret (v := VV k n s) (by simp [results, Tryz.results45, go_sem, r0, r1, r2]) rfl ⟨rfl, below_set3 HW.out (by omega)⟩
  · have he : atR r i = nullA := by rw [atR, Int.toNat_natCast, List.getD_eq_getElem?_getD, List.getElem?_eq_none (by omega)]; rfl
    rw [he]
    clear hR he
    go_enter Tryz.func45, Tryz.ntmps45
    go_upto_region 1 with fail
    generalize w0.alloc (.cells #[.int .i64 0, .int .i64 0, .string ⟨#[]⟩] 28) = W at HR HW ⊢
    go_wp2_with fail
    refine (null_any _).mono ?_
    rintro e W1 ⟨rfl, hb⟩
    have HW := Lib.hid (bt HW.out hb)
    have HR := Lib.hid (HR.out.kept hb)
    clear hb
    obtain ⟨r0, r1, r2, f0, f1, f2⟩ := HR.out
    go_wp2_with fail
    exact bodyPost_ret (v := VV 0 0 ⟨#[]⟩) (by simp [results, Tryz.results45, go_sem, r0, r1, r2]) rfl ⟨rfl, below_set3 HW.out (by omega)⟩
end Go.Proofs.YtpokpiphnggfpaaGreatDoor
end
section
namespace Go.Proofs.YtpokpiphnggfpaaGreatDoor
open Go.RowKit Go.Shelf
attribute [local go_sem] Oper.semAt_some

/-! No text is too long for an int. -/
abbrev Sh (v : Va) : Prop := v.s.size ≤ 9223372036854775807
theorem ok_sh {v : Va} (h : v.ok = true) : Sh v := by
  obtain ⟨k, n, s⟩ := v
  simp only [Va.ok, okV] at h
  have e : s.toList.isEmpty = true → s.size = 0 := fun h => by
    rw [ByteArray.toList_eq, List.isEmpty_iff] at h
    rw [← bs_len]; show (bs s).length = 0; rw [show bs s = [] from h]; rfl
  show s.size ≤ _
  repeat' split at h
  all_goals try simp only [Bool.and_eq_true, decide_eq_true_eq] at h
  · have := e h.2; omega
  · have := e h.2; omega
  · have := e h.2; omega
  · have := h.2; omega
  · cases h
mutual
theorem com_sh {r : List Va} (hr : Fine r) : ∀ (x : Ex), FitX x → ∀ v, comX r x = some v → Sh v
  | .mk h l, hx, v, hv => by
    rw [FitX] at hx
    have ih := coms_sh hr l hx.2
    rw [comX_mk, topA.eq_def] at hv
    split at hv
    · rename_i hk
      simp only [Option.some.injEq] at hv; subst hv
      exact ok_sh (fits_lit hk hx.1)
    · split at hv
      · simp only [Option.some.injEq] at hv; subst hv
        unfold atR
        rw [List.getD_eq_getElem?_getD]
        cases e : r[h.n.toNat]? with
        | none => exact ok_sh ok_null
        | some v => exact hr v (List.mem_of_getElem? e)
      · split at hv
        · cases hv
        · split at hv
          · cases hv
          · exact ok_sh (one_ok hv)
        · rename_i e
          split at hv
          · cases hv
          · split at hv
            · simp only [Option.some.injEq] at hv; subst hv
              exact ih _ (by rw [e]; exact List.mem_cons_self ..)
            · split at hv
              · cases hv
              · exact ok_sh (two_ok hv)
theorem coms_sh {r : List Va} (hr : Fine r) : ∀ (l : List Ex), FitXs l → ∀ v, some v ∈ comXs r l → Sh v
  | [], _, v, hv => by rw [comXs] at hv; cases hv
  | x :: l, hx, v, hv => by
    rw [FitXs] at hx
    rw [comXs, List.mem_cons] at hv
    rcases hv with hv | hv
    · exact com_sh hr x hx.1 v hv.symm
    · exact coms_sh hr l hx.2 v hv
end
/-- What lies about while comes runs. -/
structure Cm (w W : World) (h : Hd) (A : Option Addr) (len cap : Nat) (Ar : Option Addr) (r : List Va) : Prop where
  x : W.heap[w.heap.size]? = some (xbox h A len cap)
  b : Bx W (w.heap.size + 1) 0 0 ⟨#[]⟩
  bel : Below w.heap.size w W
  tab : TabV W
  row : RowAt W Ar r
theorem Cm.next {w W W' : World} {h : Hd} {A : Option Addr} {len cap : Nat} {Ar : Option Addr} {r : List Va} (H : Cm w W h A len cap Ar r) (hb : Below W.heap.size W W') : Cm w W' h A len cap Ar r :=
  ⟨(hb.block _ (Array.getElem?_eq_some_iff.1 H.x).1).trans H.x, H.b.kept hb, bt H.bel hb, H.tab.kept hb, H.row.kept hb⟩
theorem Cm.new (w : World) (h : Hd) (A : Option Addr) (len cap : Nat) (Ar : Option Addr) (r : List Va) (hT : TabV w) (hR : RowAt w Ar r) : Cm w ((w.alloc (xbox h A len cap)).alloc (vbox 0 0 ⟨#[]⟩)) h A len cap Ar r := by
  have h1 := ba w (xbox h A len cap)
  have h2 := ba (w.alloc (xbox h A len cap)) (vbox 0 0 ⟨#[]⟩)
  have hx := (MapKept.heap_alloc w (xbox h A len cap)).1
  have hb := Bx.new (w.alloc (xbox h A len cap)) 0 0 ⟨#[]⟩
  rw [World.size_alloc] at hb
  exact ⟨(h2.block _ (Array.getElem?_eq_some_iff.1 hx).1).trans hx, hb, bt h1 h2, (hT.kept h1).kept h2, (hR.kept h1).kept h2⟩
set_option maxRecDepth 100000 in
set_option maxHeartbeats 8000000 in
theorem comes_n (r : List Va) (Ar : Option Addr) (rc : Nat) (hrl : r.length ≤ 9223372036854775807) (hfine : Fine r) : ∀ (N : Nat) (h : Hd) (l : List Ex), cnt (.mk h l) ≤ N → FitX (.mk h l) → hasA (.mk h l) = false →
    ∀ (w : World) (A : Option Addr) (cap : Nat), XsAt w.heap.size w l A → l.length ≤ cap → RowAt w Ar r → TabV w →
    Calls Tryz.prog 26 #[XV h A l.length cap, .slice Ar r.length rc] w fun e w' => e = .returned (rk2 (comX r (.mk h l))) ∧ Below w.heap.size w w' := by
  intro N
  induction N with
  | zero => intro h l hc; have := cnt_pos (.mk h l); omega
  | succ N ih =>
    intro h l hc hF hA w A cap hX hcap hR hT
    rw [cnt_mk] at hc
    have hF2 := hF
    rw [FitX] at hF
    rw [hasA, Bool.or_eq_false_iff] at hA
    have hk4 : ¬ h.k = 4 := by simpa using hA.1
    have HM0 := Cm.new w h A l.length cap Ar r hT hR
    obtain ⟨LL, hLL⟩ : ∃ LL, l.length = LL := ⟨_, rfl⟩
    rw [hLL] at HM0 hcap ⊢
    have HM := Lib.hid HM0
    clear HM0 hR hT
    by_cases h1 : h.k = 1
    · have HQ := Lib.hid (show rk2 (comX r (.mk h l)) = .tuple #[VV h.vk h.vn h.vs, .int .i64 0] by rw [comX_mk, topA.eq_def, if_pos h1]; rfl)
      rw [HQ.out]
      have g1 : (h.k == 1) = true := by simpa using h1
      clear ih hX hF hF2 hA hk4 h1 HQ hLL hcap hc
      go_enter Tryz.func26, Tryz.ntmps26
      go_upto_region 1 with fail
      generalize (w.alloc (.cells #[.int .i64 h.k, .int .i64 h.n, .int .i64 h.vk, .int .i64 h.vn, .string h.vs, .string h.tab, .string h.col, .slice A LL cap] 30)).alloc (.cells #[.int .i64 0, .int .i64 0, .string ⟨#[]⟩] 28) = W at HM ⊢
      obtain ⟨⟨x0, x1, x2, x3, x4, x5, x6, x7⟩, _⟩ := cell8 HM.out.x
      obtain ⟨r0, r1, r2, f0, f1, f2⟩ := HM.out.b
      go_wp2_with fail
      exact bodyPost_ret (v := .tuple #[VV h.vk h.vn h.vs, .int .i64 0]) (by simp [results, Tryz.results26, go_sem, r0, r1, r2]) rfl ⟨rfl, below_set3 HM.out.bel (by omega)⟩
    have g1 : (h.k == 1) = false := by simpa using h1
    by_cases h2 : h.k = 2
    · have g2 : (h.k == 2) = true := by simpa using h2
      have HQ := Lib.hid (show rk2 (comX r (.mk h l)) = .tuple #[VV (atR r h.n).k (atR r h.n).n (atR r h.n).s, .int .i64 0] by rw [comX_mk, topA.eq_def, if_neg h1, if_pos h2]; rfl)
      rw [HQ.out]
      have hn : 0 ≤ h.n ∧ h.n < 32 := by
        have hf := hF.1
        unfold fitsB at hf
        rw [if_neg h1, if_pos h2] at hf
        simp only [Bool.and_eq_true, decide_eq_true_eq] at hf
        exact ⟨hf.1.1.1.2, hf.1.1.2⟩
      have HC := Lib.hid (fun w hr => at_any r Ar rc h.n w hr hrl hn.1 (by omega))
      generalize atR r h.n = v at HC ⊢
      obtain ⟨k, n, s⟩ := v
      clear ih hX hF hF2 hA hk4 h1 h2 HQ hLL hcap hc hn
      go_enter Tryz.func26, Tryz.ntmps26
      go_upto_region 1 with fail
      generalize (w.alloc (.cells #[.int .i64 h.k, .int .i64 h.n, .int .i64 h.vk, .int .i64 h.vn, .string h.vs, .string h.tab, .string h.col, .slice A LL cap] 30)).alloc (.cells #[.int .i64 0, .int .i64 0, .string ⟨#[]⟩] 28) = W at HM ⊢
      obtain ⟨⟨x0, x1, x2, x3, x4, x5, x6, x7⟩, _⟩ := cell8 HM.out.x
      obtain ⟨r0, r1, r2, f0, f1, f2⟩ := HM.out.b
      go_wp2_with fail
      refine (HC.out _ HM.out.row).mono ?_
      rintro e W ⟨rfl, hb⟩
      have HM := Lib.hid (HM.out.next hb)
      clear hb x0 x1 x2 x3 x4 x5 x6 x7 r0 r1 r2 f0 f1 f2
      obtain ⟨⟨x0, x1, x2, x3, x4, x5, x6, x7⟩, _⟩ := cell8 HM.out.x
      obtain ⟨r0, r1, r2, f0, f1, f2⟩ := HM.out.b
      go_wp2_with fail
      exact bodyPost_ret (v := .tuple #[VV k n s, .int .i64 0]) (by simp [results, Tryz.results26, go_sem, r0, r1, r2]) rfl ⟨rfl, below_set3 HM.out.bel (by omega)⟩
    have g2 : (h.k == 2) = false := by simpa using h2
    obtain ⟨h3, har, hlen⟩ := fits_op h1 h2 hk4 hF.1
    have ar2 : arI h.n = 1 ∨ arI h.n = 2 := by
      unfold arI at har ⊢
      split
      · exact .inl rfl
      · rename_i hq
        rw [if_neg hq] at har
        split
        · exact .inr rfl
        · rename_i hq2
          rw [if_neg hq2] at har; omega
    match l, hlen with
    | [], hlen => simp at hlen; omega
    | a :: b :: c :: q, hlen => simp at hlen; omega
    | [a], hlen =>
      obtain rfl : LL = 1 := hLL.symm
      obtain ⟨hh, ll⟩ := a
      obtain ⟨g, o, A1, cap1, rfl, hg, hc1, hle1, hx1⟩ := XsB.at hX (i := 0) (h := hh) (l' := ll) rfl
      rw [FitXs] at hF
      rw [hasAs, Bool.or_eq_false_iff] at hA
      have HI := Lib.hid (fun w hw hr ht => ih hh ll (by rw [cntL] at hc; omega) hF.2.1 hA.2.1 w A1 cap1 hw hle1 hr ht)
      have HX1 := Lib.hid hx1
      have HC1 := Lib.hid (show XC w g o hh A1 ll.length cap1 by simpa using hc1)
      have HG := Lib.hid hg
      have hq : comX r (.mk h [.mk hh ll]) = (match comX r (.mk hh ll) with | none => none | some v => oneA h.n v) := by rw [comX_mk, topA.eq_def, if_neg h1, if_neg h2, comXs, comXs]; rfl
      have hsh := com_sh hfine (.mk hh ll) hF.2.1
      clear ih hX hF hF2 hA hk4 h1 h2 hcap hc hlen hx1 hc1 hg har ar2 h3 hLL
      cases hv : comX r (.mk hh ll) with
      | none =>
        rw [hv] at hq HI hsh
        rw [hq]
        have HI := Lib.hid (show ∀ (w : World), XsAt w.heap.size w ll A1 → RowAt w Ar r → TabV w → Calls Tryz.prog 26 #[XV hh A1 ll.length cap1, .slice Ar r.length rc] w fun e w' => e = .returned (.tuple #[VV 0 0 ⟨#[]⟩, .int .i64 160]) ∧ Below w.heap.size w w' from HI.out)
        clear hq hv hsh
        go_enter Tryz.func26, Tryz.ntmps26
        go_upto_region 1 with fail
        generalize (w.alloc (.cells #[.int .i64 h.k, .int .i64 h.n, .int .i64 h.vk, .int .i64 h.vn, .string h.vs, .string h.tab, .string h.col, .slice (some ⟨g, o, none⟩) 1 cap] 30)).alloc (.cells #[.int .i64 0, .int .i64 0, .string ⟨#[]⟩] 28) = W at HM ⊢
        obtain ⟨⟨x0, x1, x2, x3, x4, x5, x6, x7⟩, _⟩ := cell8 HM.out.x
        obtain ⟨r0, r1, r2, f0, f1, f2⟩ := HM.out.b
        obtain ⟨y0, y1, y2, y3, y4, y5, y6, y7⟩ := HC1.out.of (HM.out.bel.block g HG.out)
        go_wp2_with fail
        refine (HI.out _ (XsAt.next HX1.out HM.out.bel) HM.out.row HM.out.tab).mono ?_
        rintro e W ⟨rfl, hb⟩
        have HM := Lib.hid (HM.out.next hb)
        clear hb x0 x1 x2 x3 x4 x5 x6 x7 r0 r1 r2 f0 f1 f2
        obtain ⟨⟨x0, x1, x2, x3, x4, x5, x6, x7⟩, _⟩ := cell8 HM.out.x
        obtain ⟨r0, r1, r2, f0, f1, f2⟩ := HM.out.b
        have HM2 := Lib.hid (HM.out.next (ba W (vbox 0 0 ⟨#[]⟩)))
        obtain ⟨q0, q1, q2, p0, p1, p2⟩ := HM2.out.b
        go_wp2_with fail
        exact bodyPost_ret (v := .tuple #[VV 0 0 ⟨#[]⟩, .int .i64 160]) (by simp [results, Tryz.results26, go_sem, q0, q1, q2]) rfl ⟨rfl, below_set3 HM2.out.bel (by omega)⟩
      | some v =>
        rw [hv] at hq HI
        rw [hq]
        have hs := hsh v hv
        obtain ⟨k, n, s⟩ := v
        have HI := Lib.hid (show ∀ (w : World), XsAt w.heap.size w ll A1 → RowAt w Ar r → TabV w → Calls Tryz.prog 26 #[XV hh A1 ll.length cap1, .slice Ar r.length rc] w fun e w' => e = .returned (.tuple #[VV k n s, .int .i64 0]) ∧ Below w.heap.size w w' from HI.out)
        have HO := fun w ht => ofOne_any h.n ⟨k, n, s⟩ w hs ht
        show Calls _ _ _ _ (fun e w' => e = .returned (rk2 (oneA h.n ⟨k, n, s⟩)) ∧ _)
        obtain ⟨K, N, S2, E, hE⟩ := rk2_form (oneA h.n ⟨k, n, s⟩)
        rw [hE] at HO ⊢
        have HO := Lib.hid HO
        clear hq hv hsh hE hs
        go_enter Tryz.func26, Tryz.ntmps26
        go_upto_region 1 with fail
        generalize (w.alloc (.cells #[.int .i64 h.k, .int .i64 h.n, .int .i64 h.vk, .int .i64 h.vn, .string h.vs, .string h.tab, .string h.col, .slice (some ⟨g, o, none⟩) 1 cap] 30)).alloc (.cells #[.int .i64 0, .int .i64 0, .string ⟨#[]⟩] 28) = W at HM ⊢
        obtain ⟨⟨x0, x1, x2, x3, x4, x5, x6, x7⟩, _⟩ := cell8 HM.out.x
        obtain ⟨r0, r1, r2, f0, f1, f2⟩ := HM.out.b
        obtain ⟨y0, y1, y2, y3, y4, y5, y6, y7⟩ := HC1.out.of (HM.out.bel.block g HG.out)
        go_wp2_with fail
        refine (HI.out _ (XsAt.next HX1.out HM.out.bel) HM.out.row HM.out.tab).mono ?_
        rintro e W ⟨rfl, hb⟩
        have HM := Lib.hid (HM.out.next hb)
        clear hb x0 x1 x2 x3 x4 x5 x6 x7 r0 r1 r2 f0 f1 f2
        obtain ⟨⟨x0, x1, x2, x3, x4, x5, x6, x7⟩, _⟩ := cell8 HM.out.x
        obtain ⟨r0, r1, r2, f0, f1, f2⟩ := HM.out.b
        have HM2 := Lib.hid (HM.out.next (ba W (vbox k n s)))
        clear x0 x1 x2 x3 x4 x5 x6 x7 r0 r1 r2 f0 f1 f2
        obtain ⟨⟨x0, x1, x2, x3, x4, x5, x6, x7⟩, _⟩ := cell8 HM2.out.x
        obtain ⟨r0, r1, r2, f0, f1, f2⟩ := HM2.out.b
        go_wp2_with fail
        clear HM
        have HM := Lib.hid HM2.out
        clear HM2
        refine (HO.out _ HM.out.tab).mono ?_
        rintro e W ⟨rfl, hb⟩
        have HM := Lib.hid (HM.out.next hb)
        clear hb x0 x1 x2 x3 x4 x5 x6 x7 r0 r1 r2 f0 f1 f2
        obtain ⟨⟨x0, x1, x2, x3, x4, x5, x6, x7⟩, _⟩ := cell8 HM.out.x
        obtain ⟨r0, r1, r2, f0, f1, f2⟩ := HM.out.b
        go_wp2_with fail
        exact bodyPost_ret (v := .tuple #[VV K N S2, .int .i64 E]) (by simp [results, Tryz.results26, go_sem, r0, r1, r2]) rfl ⟨rfl, below_set3 HM.out.bel (by omega)⟩
    | [a, b], hlen =>
      obtain rfl : LL = 2 := hLL.symm
      obtain ⟨hh, ll⟩ := a
      obtain ⟨hh', ll'⟩ := b
      obtain ⟨g, o, A1, cap1, hAe, hg, hc1, hle1, hx1⟩ := XsB.at hX (i := 0) (h := hh) (l' := ll) rfl
      obtain ⟨g', o', A2, cap2, hAe', hg', hc2, hle2, hx2⟩ := XsB.at hX (i := 1) (h := hh') (l' := ll') rfl
      subst hAe
      simp only [Option.some.injEq, Addr.mk.injEq] at hAe'
      obtain ⟨rfl, rfl, _⟩ := hAe'
      rw [FitXs, FitXs] at hF
      rw [hasAs, hasAs, Bool.or_eq_false_iff, Bool.or_eq_false_iff] at hA
      rw [cntL, cntL] at hc
      have HI := Lib.hid (fun w hw hr ht => ih hh ll (by omega) hF.2.1 hA.2.1 w A1 cap1 hw hle1 hr ht)
      have HJ := Lib.hid (fun w hw hr ht => ih hh' ll' (by omega) hF.2.2.1 hA.2.2.1 w A2 cap2 hw hle2 hr ht)
      have HX1 := Lib.hid hx1
      have HX2 := Lib.hid hx2
      have HC1 := Lib.hid (show XC w g o hh A1 ll.length cap1 by simpa using hc1)
      have HC2 := Lib.hid (show XC w g (o + 8) hh' A2 ll'.length cap2 by simpa using hc2)
      have HG := Lib.hid hg
      have hq : comX r (.mk h [.mk hh ll, .mk hh' ll']) = (match comX r (.mk hh ll) with | none => none | some v => if decA h.n v = true then some v else match comX r (.mk hh' ll') with | none => none | some u => twoA h.n v u) := by rw [comX_mk, topA.eq_def, if_neg h1, if_neg h2, comXs, comXs, comXs]; rfl
      have hsh := com_sh hfine (.mk hh ll) hF.2.1
      have hsh' := com_sh hfine (.mk hh' ll') hF.2.2.1
      clear ih hX hF hF2 hA hk4 h1 h2 hcap hc hlen hx1 hc1 hx2 hc2 hg hg' har ar2 h3 hLL
      cases hv : comX r (.mk hh ll) with
      | none =>
        rw [hv] at hq HI hsh
        rw [hq]
        have HI := Lib.hid (show ∀ (w : World), XsAt w.heap.size w ll A1 → RowAt w Ar r → TabV w → Calls Tryz.prog 26 #[XV hh A1 ll.length cap1, .slice Ar r.length rc] w fun e w' => e = .returned (.tuple #[VV 0 0 ⟨#[]⟩, .int .i64 160]) ∧ Below w.heap.size w w' from HI.out)
        clear hq hv hsh hsh' HJ
        go_enter Tryz.func26, Tryz.ntmps26
        go_upto_region 1 with fail
        generalize (w.alloc (.cells #[.int .i64 h.k, .int .i64 h.n, .int .i64 h.vk, .int .i64 h.vn, .string h.vs, .string h.tab, .string h.col, .slice (some ⟨g, o, none⟩) 2 cap] 30)).alloc (.cells #[.int .i64 0, .int .i64 0, .string ⟨#[]⟩] 28) = W at HM ⊢
        obtain ⟨⟨x0, x1, x2, x3, x4, x5, x6, x7⟩, _⟩ := cell8 HM.out.x
        obtain ⟨r0, r1, r2, f0, f1, f2⟩ := HM.out.b
        obtain ⟨y0, y1, y2, y3, y4, y5, y6, y7⟩ := HC1.out.of (HM.out.bel.block g HG.out)
        go_wp2_with fail
        refine (HI.out _ (XsAt.next HX1.out HM.out.bel) HM.out.row HM.out.tab).mono ?_
        rintro e W ⟨rfl, hb⟩
        have HM := Lib.hid (HM.out.next hb)
        clear hb x0 x1 x2 x3 x4 x5 x6 x7 r0 r1 r2 f0 f1 f2
        obtain ⟨⟨x0, x1, x2, x3, x4, x5, x6, x7⟩, _⟩ := cell8 HM.out.x
        obtain ⟨r0, r1, r2, f0, f1, f2⟩ := HM.out.b
        have HM2 := Lib.hid (HM.out.next (ba W (vbox 0 0 ⟨#[]⟩)))
        obtain ⟨q0, q1, q2, p0, p1, p2⟩ := HM2.out.b
        go_wp2_with fail
        exact bodyPost_ret (v := .tuple #[VV 0 0 ⟨#[]⟩, .int .i64 160]) (by simp [results, Tryz.results26, go_sem, q0, q1, q2]) rfl ⟨rfl, below_set3 HM2.out.bel (by omega)⟩
      | some v =>
        rw [hv] at hq HI
        have hs := hsh v hv
        obtain ⟨k, n, s⟩ := v
        have HI := Lib.hid (show ∀ (w : World), XsAt w.heap.size w ll A1 → RowAt w Ar r → TabV w → Calls Tryz.prog 26 #[XV hh A1 ll.length cap1, .slice Ar r.length rc] w fun e w' => e = .returned (.tuple #[VV k n s, .int .i64 0]) ∧ Below w.heap.size w w' from HI.out)
        have HD := fun w => decides_any h.n ⟨k, n, s⟩ w hs
        cases hd : decA h.n ⟨k, n, s⟩ with
        | true =>
          rw [hd] at HD
          have HQ := Lib.hid (show rk2 (comX r (.mk h [.mk hh ll, .mk hh' ll'])) = .tuple #[VV k n s, .int .i64 0] by rw [hq]; simp only; rw [if_pos hd]; rfl)
          rw [HQ.out]
          clear hsh' HJ
          have HD := Lib.hid HD
          clear hq hv hsh hs hd
          go_enter Tryz.func26, Tryz.ntmps26
          go_upto_region 1 with fail
          generalize (w.alloc (.cells #[.int .i64 h.k, .int .i64 h.n, .int .i64 h.vk, .int .i64 h.vn, .string h.vs, .string h.tab, .string h.col, .slice (some ⟨g, o, none⟩) 2 cap] 30)).alloc (.cells #[.int .i64 0, .int .i64 0, .string ⟨#[]⟩] 28) = W at HM ⊢
          obtain ⟨⟨x0, x1, x2, x3, x4, x5, x6, x7⟩, _⟩ := cell8 HM.out.x
          obtain ⟨r0, r1, r2, f0, f1, f2⟩ := HM.out.b
          obtain ⟨y0, y1, y2, y3, y4, y5, y6, y7⟩ := HC1.out.of (HM.out.bel.block g HG.out)
          go_wp2_with fail
          refine (HI.out _ (XsAt.next HX1.out HM.out.bel) HM.out.row HM.out.tab).mono ?_
          rintro e W ⟨rfl, hb⟩
          have HM := Lib.hid (HM.out.next hb)
          clear hb x0 x1 x2 x3 x4 x5 x6 x7 r0 r1 r2 f0 f1 f2
          obtain ⟨⟨x0, x1, x2, x3, x4, x5, x6, x7⟩, _⟩ := cell8 HM.out.x
          obtain ⟨r0, r1, r2, f0, f1, f2⟩ := HM.out.b
          have HM2 := Lib.hid (HM.out.next (ba W (vbox k n s)))
          clear x0 x1 x2 x3 x4 x5 x6 x7 r0 r1 r2 f0 f1 f2
          obtain ⟨⟨x0, x1, x2, x3, x4, x5, x6, x7⟩, _⟩ := cell8 HM2.out.x
          obtain ⟨r0, r1, r2, f0, f1, f2⟩ := HM2.out.b
          go_wp2_with fail
          have HBx := Lib.hid (Bx.new W k n s)
          generalize W.heap.size = ul at HBx ⊢
          clear HM
          have HM := Lib.hid HM2.out
          clear HM2
          refine (HD.out _).mono ?_
          rintro e W2 ⟨rfl, hb⟩
          have HBx := Lib.hid (HBx.out.kept hb)
          have HM := Lib.hid (HM.out.next hb)
          clear hb x0 x1 x2 x3 x4 x5 x6 x7 r0 r1 r2 f0 f1 f2 y0 y1 y2 y3 y4 y5 y6 y7
          obtain ⟨⟨x0, x1, x2, x3, x4, x5, x6, x7⟩, _⟩ := cell8 HM.out.x
          obtain ⟨r0, r1, r2, f0, f1, f2⟩ := HM.out.b
          obtain ⟨l0, l1, l2, _, _, _⟩ := HBx.out
          obtain ⟨y0, y1, y2, y3, y4, y5, y6, y7⟩ := HC2.out.of (HM.out.bel.block g HG.out)
          go_wp2_with fail
          exact bodyPost_ret (v := .tuple #[VV k n s, .int .i64 0]) (by simp [results, Tryz.results26, go_sem, r0, r1, r2]) rfl ⟨rfl, below_set3 HM.out.bel (by omega)⟩
        | false =>
          rw [hd] at HD
          have hq2 : comX r (.mk h [.mk hh ll, .mk hh' ll']) = (match comX r (.mk hh' ll') with | none => none | some u => twoA h.n ⟨k, n, s⟩ u) := by rw [hq]; simp only; rw [if_neg (by rw [hd]; decide)]
          rw [hq2]
          clear hq2
          cases hu : comX r (.mk hh' ll') with
          | none =>
            rw [hu] at HJ
            have HJ := Lib.hid (show ∀ (w : World), XsAt w.heap.size w ll' A2 → RowAt w Ar r → TabV w → Calls Tryz.prog 26 #[XV hh' A2 ll'.length cap2, .slice Ar r.length rc] w fun e w' => e = .returned (.tuple #[VV 0 0 ⟨#[]⟩, .int .i64 160]) ∧ Below w.heap.size w w' from HJ.out)
            clear hsh' hu
            have HD := Lib.hid HD
            clear hq hv hsh hs hd
            go_enter Tryz.func26, Tryz.ntmps26
            go_upto_region 1 with fail
            generalize (w.alloc (.cells #[.int .i64 h.k, .int .i64 h.n, .int .i64 h.vk, .int .i64 h.vn, .string h.vs, .string h.tab, .string h.col, .slice (some ⟨g, o, none⟩) 2 cap] 30)).alloc (.cells #[.int .i64 0, .int .i64 0, .string ⟨#[]⟩] 28) = W at HM ⊢
            obtain ⟨⟨x0, x1, x2, x3, x4, x5, x6, x7⟩, _⟩ := cell8 HM.out.x
            obtain ⟨r0, r1, r2, f0, f1, f2⟩ := HM.out.b
            obtain ⟨y0, y1, y2, y3, y4, y5, y6, y7⟩ := HC1.out.of (HM.out.bel.block g HG.out)
            go_wp2_with fail
            refine (HI.out _ (XsAt.next HX1.out HM.out.bel) HM.out.row HM.out.tab).mono ?_
            rintro e W ⟨rfl, hb⟩
            have HM := Lib.hid (HM.out.next hb)
            clear hb x0 x1 x2 x3 x4 x5 x6 x7 r0 r1 r2 f0 f1 f2
            obtain ⟨⟨x0, x1, x2, x3, x4, x5, x6, x7⟩, _⟩ := cell8 HM.out.x
            obtain ⟨r0, r1, r2, f0, f1, f2⟩ := HM.out.b
            have HM2 := Lib.hid (HM.out.next (ba W (vbox k n s)))
            clear x0 x1 x2 x3 x4 x5 x6 x7 r0 r1 r2 f0 f1 f2
            obtain ⟨⟨x0, x1, x2, x3, x4, x5, x6, x7⟩, _⟩ := cell8 HM2.out.x
            obtain ⟨r0, r1, r2, f0, f1, f2⟩ := HM2.out.b
            go_wp2_with fail
            have HBx := Lib.hid (Bx.new W k n s)
            generalize W.heap.size = ul at HBx ⊢
            clear HM
            have HM := Lib.hid HM2.out
            clear HM2
            refine (HD.out _).mono ?_
            rintro e W2 ⟨rfl, hb⟩
            have HBx := Lib.hid (HBx.out.kept hb)
            have HM := Lib.hid (HM.out.next hb)
            clear hb x0 x1 x2 x3 x4 x5 x6 x7 r0 r1 r2 f0 f1 f2 y0 y1 y2 y3 y4 y5 y6 y7
            obtain ⟨⟨x0, x1, x2, x3, x4, x5, x6, x7⟩, _⟩ := cell8 HM.out.x
            obtain ⟨r0, r1, r2, f0, f1, f2⟩ := HM.out.b
            obtain ⟨l0, l1, l2, _, _, _⟩ := HBx.out
            obtain ⟨y0, y1, y2, y3, y4, y5, y6, y7⟩ := HC2.out.of (HM.out.bel.block g HG.out)
            go_wp2_with fail
            refine (HJ.out _ (XsAt.next HX2.out HM.out.bel) HM.out.row HM.out.tab).mono ?_
            rintro e W ⟨rfl, hb⟩
            have HM := Lib.hid (HM.out.next hb)
            clear hb x0 x1 x2 x3 x4 x5 x6 x7 r0 r1 r2 f0 f1 f2
            obtain ⟨⟨x0, x1, x2, x3, x4, x5, x6, x7⟩, _⟩ := cell8 HM.out.x
            obtain ⟨r0, r1, r2, f0, f1, f2⟩ := HM.out.b
            have HM2 := Lib.hid (HM.out.next (ba W (vbox 0 0 ⟨#[]⟩)))
            obtain ⟨q0, q1, q2, p0, p1, p2⟩ := HM2.out.b
            go_wp2_with fail
            exact bodyPost_ret (v := .tuple #[VV 0 0 ⟨#[]⟩, .int .i64 160]) (by simp [results, Tryz.results26, go_sem, q0, q1, q2]) rfl ⟨rfl, below_set3 HM2.out.bel (by omega)⟩
          | some u =>
            rw [hu] at HJ
            have hs' := hsh' u hu
            obtain ⟨k', n', s'⟩ := u
            have HJ := Lib.hid (show ∀ (w : World), XsAt w.heap.size w ll' A2 → RowAt w Ar r → TabV w → Calls Tryz.prog 26 #[XV hh' A2 ll'.length cap2, .slice Ar r.length rc] w fun e w' => e = .returned (.tuple #[VV k' n' s', .int .i64 0]) ∧ Below w.heap.size w w' from HJ.out)
            have HO := fun w ht => ofTwo_any h.n ⟨k, n, s⟩ ⟨k', n', s'⟩ w hs hs' ht
            show Calls _ _ _ _ (fun e w' => e = .returned (rk2 (twoA h.n ⟨k, n, s⟩ ⟨k', n', s'⟩)) ∧ _)
            obtain ⟨K, N, S2, E, hE⟩ := rk2_form (twoA h.n ⟨k, n, s⟩ ⟨k', n', s'⟩)
            rw [hE] at HO ⊢
            have HO := Lib.hid HO
            clear hsh' hu hE hs'
            have HD := Lib.hid HD
            clear hq hv hsh hs hd
            go_enter Tryz.func26, Tryz.ntmps26
            go_upto_region 1 with fail
            generalize (w.alloc (.cells #[.int .i64 h.k, .int .i64 h.n, .int .i64 h.vk, .int .i64 h.vn, .string h.vs, .string h.tab, .string h.col, .slice (some ⟨g, o, none⟩) 2 cap] 30)).alloc (.cells #[.int .i64 0, .int .i64 0, .string ⟨#[]⟩] 28) = W at HM ⊢
            obtain ⟨⟨x0, x1, x2, x3, x4, x5, x6, x7⟩, _⟩ := cell8 HM.out.x
            obtain ⟨r0, r1, r2, f0, f1, f2⟩ := HM.out.b
            obtain ⟨y0, y1, y2, y3, y4, y5, y6, y7⟩ := HC1.out.of (HM.out.bel.block g HG.out)
            go_wp2_with fail
            refine (HI.out _ (XsAt.next HX1.out HM.out.bel) HM.out.row HM.out.tab).mono ?_
            rintro e W ⟨rfl, hb⟩
            have HM := Lib.hid (HM.out.next hb)
            clear hb x0 x1 x2 x3 x4 x5 x6 x7 r0 r1 r2 f0 f1 f2
            obtain ⟨⟨x0, x1, x2, x3, x4, x5, x6, x7⟩, _⟩ := cell8 HM.out.x
            obtain ⟨r0, r1, r2, f0, f1, f2⟩ := HM.out.b
            have HM2 := Lib.hid (HM.out.next (ba W (vbox k n s)))
            clear x0 x1 x2 x3 x4 x5 x6 x7 r0 r1 r2 f0 f1 f2
            obtain ⟨⟨x0, x1, x2, x3, x4, x5, x6, x7⟩, _⟩ := cell8 HM2.out.x
            obtain ⟨r0, r1, r2, f0, f1, f2⟩ := HM2.out.b
            go_wp2_with fail
            have HBx := Lib.hid (Bx.new W k n s)
            generalize W.heap.size = ul at HBx ⊢
            clear HM
            have HM := Lib.hid HM2.out
            clear HM2
            refine (HD.out _).mono ?_
            rintro e W2 ⟨rfl, hb⟩
            have HBx := Lib.hid (HBx.out.kept hb)
            have HM := Lib.hid (HM.out.next hb)
            clear hb x0 x1 x2 x3 x4 x5 x6 x7 r0 r1 r2 f0 f1 f2 y0 y1 y2 y3 y4 y5 y6 y7
            obtain ⟨⟨x0, x1, x2, x3, x4, x5, x6, x7⟩, _⟩ := cell8 HM.out.x
            obtain ⟨r0, r1, r2, f0, f1, f2⟩ := HM.out.b
            obtain ⟨l0, l1, l2, _, _, _⟩ := HBx.out
            obtain ⟨y0, y1, y2, y3, y4, y5, y6, y7⟩ := HC2.out.of (HM.out.bel.block g HG.out)
            go_wp2_with fail
            refine (HJ.out _ (XsAt.next HX2.out HM.out.bel) HM.out.row HM.out.tab).mono ?_
            rintro e W3 ⟨rfl, hb⟩
            have HBx := Lib.hid ((HBx.out.kept hb).kept (ba W3 (vbox k' n' s')))
            have HM2 := Lib.hid ((HM.out.next hb).next (ba W3 (vbox k' n' s')))
            clear hb x0 x1 x2 x3 x4 x5 x6 x7 r0 r1 r2 f0 f1 f2 y0 y1 y2 y3 y4 y5 y6 y7 l0 l1 l2
            obtain ⟨⟨x0, x1, x2, x3, x4, x5, x6, x7⟩, _⟩ := cell8 HM2.out.x
            obtain ⟨r0, r1, r2, f0, f1, f2⟩ := HM2.out.b
            obtain ⟨l0, l1, l2, _, _, _⟩ := HBx.out
            go_wp2_with fail
            clear HM
            have HM := Lib.hid HM2.out
            clear HM2
            refine (HO.out _ HM.out.tab).mono ?_
            rintro e W ⟨rfl, hb⟩
            have HM := Lib.hid (HM.out.next hb)
            clear hb x0 x1 x2 x3 x4 x5 x6 x7 r0 r1 r2 f0 f1 f2
            obtain ⟨⟨x0, x1, x2, x3, x4, x5, x6, x7⟩, _⟩ := cell8 HM.out.x
            obtain ⟨r0, r1, r2, f0, f1, f2⟩ := HM.out.b
            go_wp2_with fail
            exact bodyPost_ret (v := .tuple #[VV K N S2, .int .i64 E]) (by simp [results, Tryz.results26, go_sem, r0, r1, r2]) rfl ⟨rfl, below_set3 HM.out.bel (by omega)⟩
end Go.Proofs.YtpokpiphnggfpaaGreatDoor
end
