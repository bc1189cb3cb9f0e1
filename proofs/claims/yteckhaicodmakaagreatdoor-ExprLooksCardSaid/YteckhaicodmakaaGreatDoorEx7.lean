/-
  Check, Size, Depth, Safe.
-/
import Derived.Test.YteckhaicodmakaaGreatDoorEx6
namespace Go.Proofs.YteckhaicodmakaaGreatDoor
open Go.RowKit Go.Shelf
attribute [local go_sem] Oper.semAt_some

def chkI (x : Ex) : Int := if (measO x).isSome then 0 else 100
def sizI (x : Ex) : Int := match measO x with | some (s, _) => s | none => 0
def depI (x : Ex) : Int := match measO x with | some (_, d) => d | none => 0
theorem xcheck_any (h : Hd) (lk : List Ex) (A : Option Addr) (cap : Nat) (w : World) (hX : XsAt w.heap.size w lk A) (hcap : lk.length ≤ cap) (hsm : AllSm (.mk h lk)) (hc : cnt (.mk h lk) ≤ 999999) (hT : Tabs w) :
    Calls Tryz.prog 10 #[XV h A lk.length cap] w fun e w' => e = .returned (.int .i64 (chkI (.mk h lk))) ∧ Below w.heap.size w w' := by
  have HC := Lib.hid (measure_any h lk A cap (w.alloc (xbox h A lk.length cap)) (hX.next (ba w _)) hcap hsm hc (hT.kept (ba w _)))
  have HB := Lib.hid (ba w (xbox h A lk.length cap))
  clear hX hT
  cases hm : measO (.mk h lk) with
  | none =>
    have HV := Lib.hid (show measV (.mk h lk) = .tuple #[.int .i64 0, .int .i64 0, .bool false] by simp [measV, hm])
    have HM := Lib.hid hm
    rw [HV.out] at HC
    clear hm
    go_enter Tryz.func10, Tryz.ntmps10
    go_wp2_with fail
    refine HC.out.mono ?_
    rintro e w1 ⟨rfl, hb⟩
    have HB2 := Lib.hid (bt HB.out hb)
    clear hb
    go_wp2_with fail
    go_ret
    exact ⟨by simp [chkI, HM.out], HB2.out⟩
  | some sd =>
    obtain ⟨s, d⟩ := sd
    have HV := Lib.hid (show measV (.mk h lk) = .tuple #[.int .i64 s, .int .i64 d, .bool true] by simp [measV, hm])
    have HM := Lib.hid hm
    rw [HV.out] at HC
    clear hm
    go_enter Tryz.func10, Tryz.ntmps10
    go_wp2_with fail
    refine HC.out.mono ?_
    rintro e w1 ⟨rfl, hb⟩
    have HB2 := Lib.hid (bt HB.out hb)
    clear hb
    go_wp2_with fail
    go_ret
    exact ⟨by simp [chkI, HM.out], HB2.out⟩
theorem size_any (h : Hd) (lk : List Ex) (A : Option Addr) (cap : Nat) (w : World) (hX : XsAt w.heap.size w lk A) (hcap : lk.length ≤ cap) (hsm : AllSm (.mk h lk)) (hc : cnt (.mk h lk) ≤ 999999) (hT : Tabs w) :
    Calls Tryz.prog 11 #[XV h A lk.length cap] w fun e w' => e = .returned (.int .i64 (sizI (.mk h lk))) ∧ Below w.heap.size w w' := by
  have HC := Lib.hid (measure_any h lk A cap (w.alloc (xbox h A lk.length cap)) (hX.next (ba w _)) hcap hsm hc (hT.kept (ba w _)))
  have HB := Lib.hid (ba w (xbox h A lk.length cap))
  clear hX hT
  cases hm : measO (.mk h lk) with
  | none =>
    have HV := Lib.hid (show measV (.mk h lk) = .tuple #[.int .i64 0, .int .i64 0, .bool false] by simp [measV, hm])
    have HM := Lib.hid hm
    rw [HV.out] at HC
    clear hm
    go_enter Tryz.func11, Tryz.ntmps11
    go_wp2_with fail
    refine HC.out.mono ?_
    rintro e w1 ⟨rfl, hb⟩
    have HB2 := Lib.hid (bt HB.out hb)
    clear hb
    go_wp2_with fail
    go_ret
    exact ⟨by simp [sizI, HM.out], HB2.out⟩
  | some sd =>
    obtain ⟨s, d⟩ := sd
    have HV := Lib.hid (show measV (.mk h lk) = .tuple #[.int .i64 s, .int .i64 d, .bool true] by simp [measV, hm])
    have HM := Lib.hid hm
    rw [HV.out] at HC
    clear hm
    go_enter Tryz.func11, Tryz.ntmps11
    go_wp2_with fail
    refine HC.out.mono ?_
    rintro e w1 ⟨rfl, hb⟩
    have HB2 := Lib.hid (bt HB.out hb)
    clear hb
    go_wp2_with fail
    go_ret
    exact ⟨by simp [sizI, HM.out], HB2.out⟩
theorem depth_any (h : Hd) (lk : List Ex) (A : Option Addr) (cap : Nat) (w : World) (hX : XsAt w.heap.size w lk A) (hcap : lk.length ≤ cap) (hsm : AllSm (.mk h lk)) (hc : cnt (.mk h lk) ≤ 999999) (hT : Tabs w) :
    Calls Tryz.prog 12 #[XV h A lk.length cap] w fun e w' => e = .returned (.int .i64 (depI (.mk h lk))) ∧ Below w.heap.size w w' := by
  have HC := Lib.hid (measure_any h lk A cap (w.alloc (xbox h A lk.length cap)) (hX.next (ba w _)) hcap hsm hc (hT.kept (ba w _)))
  have HB := Lib.hid (ba w (xbox h A lk.length cap))
  clear hX hT
  cases hm : measO (.mk h lk) with
  | none =>
    have HV := Lib.hid (show measV (.mk h lk) = .tuple #[.int .i64 0, .int .i64 0, .bool false] by simp [measV, hm])
    have HM := Lib.hid hm
    rw [HV.out] at HC
    clear hm
    go_enter Tryz.func12, Tryz.ntmps12
    go_wp2_with fail
    refine HC.out.mono ?_
    rintro e w1 ⟨rfl, hb⟩
    have HB2 := Lib.hid (bt HB.out hb)
    clear hb
    go_wp2_with fail
    go_ret
    exact ⟨by simp [depI, HM.out], HB2.out⟩
  | some sd =>
    obtain ⟨s, d⟩ := sd
    have HV := Lib.hid (show measV (.mk h lk) = .tuple #[.int .i64 s, .int .i64 d, .bool true] by simp [measV, hm])
    have HM := Lib.hid hm
    rw [HV.out] at HC
    clear hm
    go_enter Tryz.func12, Tryz.ntmps12
    go_wp2_with fail
    refine HC.out.mono ?_
    rintro e w1 ⟨rfl, hb⟩
    have HB2 := Lib.hid (bt HB.out hb)
    clear hb
    go_wp2_with fail
    go_ret
    exact ⟨by simp [depI, HM.out], HB2.out⟩
/-- May it err? -/
def errB (h : Hd) : Bool := h.k == 4 || (h.k == 3 && (decide (10 ≤ h.n) && decide (h.n ≤ 15)))
theorem mayErr_any (h : Hd) (A : Option Addr) (len cap : Nat) (w : World) :
    Calls Tryz.prog 52 #[XV h A len cap] w fun e w' => e = .returned (.bool (errB h)) ∧ Below w.heap.size w w' := by
  obtain ⟨k, n, vk, vn, vs, tab, col⟩ := h

  go_enter Tryz.func52, Tryz.ntmps52
  go_wp2
  all_goals
    go_ret
    exact ⟨ret_bool (by simp_all [errB] <;> (intros; omega)), ba w _⟩
def safeB (x : Ex) : Bool := (measO x).isSome && (preo x 1).all fun y => !errB y.1.hd

set_option maxRecDepth 100000 in
set_option maxHeartbeats 8000000 in
theorem safe_any (h : Hd) (lk : List Ex) (A : Option Addr) (cap : Nat) (w : World) (hX : XsAt w.heap.size w lk A) (hcap : lk.length ≤ cap) (hsm : AllSm (.mk h lk)) (hc : cnt (.mk h lk) ≤ 999999) (hT : Tabs w) :
    Calls Tryz.prog 31 #[XV h A lk.length cap] w fun e w' => e = .returned (.bool (safeB (.mk h lk))) ∧ Below w.heap.size w w' := by
  have hba : Below w.heap.size w ((w.alloc (xbox h A lk.length cap)).alloc (.cells #[.bool false] 4)) := ba2 w _ _
  have HCk := Lib.hid (xcheck_any h lk A cap ((w.alloc (xbox h A lk.length cap)).alloc (.cells #[.bool false] 4)) (hX.next hba) hcap hsm hc (hT.kept hba))
  have HBa := Lib.hid hba
  have HX0 := Lib.hid (((ba (w.alloc (xbox h A lk.length cap)) (.cells #[.bool false] 4)).block w.heap.size (by rw [World.size_alloc]; omega)).trans (MapKept.heap_alloc w (xbox h A lk.length cap)).1)
  have HR0 := Lib.hid (show Boxed ((w.alloc (xbox h A lk.length cap)).alloc (.cells #[.bool false] 4)) (w.heap.size + 1) 4 (.bool false) by have := Boxed.new (w.alloc (xbox h A lk.length cap)) 4 (.bool false); rwa [World.size_alloc] at this)
  have HXs := Lib.hid hX
  have HSm := Lib.hid hsm
  have HS2 := Lib.hid (show ((w.alloc (xbox h A lk.length cap)).alloc (.cells #[.bool false] 4)).heap.size = w.heap.size + 1 + 1 by simp)
  clear hX hT hsm hba
  refine (callsIn_wide (n := 9)).1 ?_
  refine callsIn_of_wp_marks Tryz.func31 rfl trivial ?_ rfl
  simp only [Tryz.ntmps31, List.size_toArray, List.length_cons, List.length_nil, Nat.reduceAdd, Nat.reduceSub, Array.replicate_succ, Array.replicate_zero, List.push_toArray, List.append_toArray, List.nil_append, List.cons_append]
  cases hm : (measO (.mk h lk)).isSome
  · have HV := Lib.hid (show chkI (.mk h lk) = 100 by rw [chkI, hm]; rfl)
    have HM := Lib.hid hm
    rw [HV.out] at HCk
    clear hm
    gi_wp2_with ((try refine ⟨trivial, ?_⟩); gi_at_call 10; refine (callsIn_wide.2 HCk.out).mono ?_; rintro e W1 ⟨rfl, hb⟩; have HB1 := Lib.hid (bt HBa.out hb); have hr := boxed_below HR0.out hb; have r1 := hr.cell; have r2 := hr.frozen; have HR1 := Lib.hid hr; clear hb hr)
    have q1 := (HR1.out.set (.bool false)).cell
    refine ⟨.bool (safeB (.mk h lk)), ?_, rfl, ?_⟩
    · rw [show safeB (.mk h lk) = false by rw [safeB, HM.out]; rfl]; simp [results, Tryz.results31, go_sem, q1]
    · exact HB1.out.setCell (p := ⟨w.heap.size + 1, 0, none⟩) (by simp) _
  · have HV := Lib.hid (show chkI (.mk h lk) = 0 by rw [chkI, hm]; rfl)
    have HM := Lib.hid hm
    rw [HV.out] at HCk
    clear hm
    gi_wp2_with (first
      | ((try refine ⟨trivial, ?_⟩); gi_at_call 10; refine (callsIn_wide.2 HCk.out).mono ?_; rintro e W1 ⟨rfl, hb⟩; have HB1 := Lib.hid (bt HBa.out hb); have hr := boxed_below HR0.out hb; have hx1 := (hb.block w.heap.size (by rw [HS2.out]; omega)).trans HX0.out; obtain ⟨⟨x0, x1, x2, x3, x4, x5, x6, x7⟩, _⟩ := cell8 hx1; have HSz := Lib.hid hb.size; have HR1 := Lib.hid hr; clear hb hr hx1)
      | ((try refine ⟨trivial, ?_⟩); gi_at_call 51; refine (through_in Fence.wide _ trivial rfl _ _ _ _ _).mono ?_; rintro e w' ⟨rfl, rfl⟩))
    have bR := HR1.out.alloc (xbox h A lk.length cap)
    have bX := (MapKept.heap_alloc W1 (xbox h A lk.length cap)).1
    have hB0 := bt HB1.out (ba W1 (xbox h A lk.length cap))
    have hsz : w.heap.size + 2 ≤ W1.heap.size := by have := HSz.out; rw [HS2.out] at this; omega
    have hsz0 : (W1.alloc (xbox h A lk.length cap)).heap.size = W1.heap.size + 1 := by simp
    obtain ⟨W0, hW0⟩ : ∃ W0, W1.alloc (xbox h A lk.length cap) = W0 := ⟨_, rfl⟩
    rw [hW0] at bR bX hB0 hsz0 ⊢
    obtain ⟨u1, hu1⟩ : ∃ u, w.heap.size + 1 = u := ⟨_, rfl⟩
    obtain ⟨u5, hu5⟩ : ∃ u, W1.heap.size = u := ⟨_, rfl⟩
    rw [hu1] at bR ⊢
    rw [hu5] at bX hsz hsz0 ⊢
    clear hW0 HR1 HSz HB1 x0 x1 x2 x3 x4 x5 x6 x7 hu5
    obtain ⟨S, hSd⟩ : ∃ S : Nat → Prop, (fun k => k = u1) = S := ⟨_, rfl⟩
    have hSi : ∀ k, S k ↔ k = u1 := fun k => by rw [← hSd]
    have hS1 : S u1 := (hSi _).2 rfl
    have hSB : ∀ k, S k → k < W0.heap.size := fun k hk => by have := (hSi k).1 hk; omega
    have hSU : ∀ k, S k → w.heap.size ≤ k := fun k hk => by have := (hSi k).1 hk; omega
    have hX0 : XsAt w.heap.size W0 lk A := HXs.out.kept hB0
    have own1 : ∀ {X Y : World} {row : Option Nat} {B : Nat} {t : TypeId} {v : Value}, Boxed X B t v → X.grownBy Y row → (∀ r, row = some r → W0.heap.size ≤ r ∧ ∃ o : Obj, X.heap[r]? = some o ∧ o.isCells = false) → Boxed Y B t v :=
      fun hb hg hr => boxed_own _ _ (fun (_ : Unit) => _) () _ _ _ hb hg (fun r e => (hr r e).2)
    have ownB := @ownFrom_below Unit w.heap.size W0.heap.size w (Nat.le_refl _) (by omega)
    refine wpIn_rangeFunc_ownH rfl (by omega) (gf := 64) (lb := #[.pointer (some ⟨u5, 0, none⟩)]) rfl trivial (enters_of Tryz.func64 (by kernel_rfl) rfl)
      (through_stops Fence.wide rfl _ trivial trivial rfl u5 w.heap.size S (fun _ => False) (fun _ _ _ _ h => h) W0 ⟨⟨.mk h lk, A, cap, 1⟩, ⟨hX0, hcap, HSm.out, by simp only; omega⟩⟩ rfl (by omega) (by omega) hSB bX) KpS.trans (kpS_put (by omega)) (Below.refl _ _) (fun _ => rfl)
      (fun pre W => (pre.map ndp).all (fun y => !errB y.1.hd) = true ∧ (∃ b, Boxed W u1 4 (.bool b)) ∧ Below w.heap.size w W ∧ W0.heap.size ≤ W.heap.size)
      (fun c pre W => c = .ret ∧ (pre.map ndp).all (fun y => !errB y.1.hd) = false ∧ Boxed W u1 4 (.bool false) ∧ Below w.heap.size w W)
      (fun pre X Y row hs hg hr => by
        obtain ⟨h1, ⟨b, h2⟩, h3, h4⟩ := hs
        exact ⟨h1, ⟨b, own1 h2 hg hr⟩, ownB () X Y row h3 hg hr, Nat.le_trans h4 hg.size⟩)
      (fun c pre X Y row hs hg hr => by
        obtain ⟨h0, h1, h2, h3⟩ := hs
        exact ⟨h0, h1, own1 h2 hg hr, ownB () X Y row h3 hg hr⟩)
      ⟨rfl, ⟨_, bR⟩, hB0, Nat.le_refl _⟩
      (fun x a' W => ∃ Bx, u1 < Bx ∧ W.heap[Bx]? = some (xbox x.1.ex.hd x.1.A x.1.ex.kids.length x.1.cap) ∧
        a' = { tmps := #[XV h A lk.length cap, .pointer (some ⟨w.heap.size, 0, none⟩), .pointer (some ⟨u1, 0, none⟩), .pointer (some ⟨Bx, 0, none⟩), XV h A lk.length cap, .int .i64 0, .bool false, XV h A lk.length cap, .func (.func 64) #[] #[.pointer (some ⟨u5, 0, none⟩)], XV x.1.ex.hd x.1.A x.1.ex.kids.length x.1.cap, .int .i64 x.1.lv, undef, undef], defers := [] })
      (fun x a' _ X Y row hs hg hr => by
        obtain ⟨Bx, h1, h2, h3⟩ := hs
        refine ⟨Bx, h1, (hg.block Bx (Array.getElem?_eq_some_iff.1 h2).1 (fun e => ?_)).trans h2, h3⟩
        obtain ⟨_, o, ho, hoc⟩ := hr Bx e.symm
        rw [h2] at ho; cases ho; cases hoc)
      ?assign ?body ?done ?stop
    case assign =>
      rintro l pre x W K ⟨h1, ⟨b, h2⟩, h3, h4⟩ hK
      gi_wp2
      exact hK _ _ ((KeepsOthers.alloc _ _).from _) ((Rd.of (S := S) (ba W _)).kp hSU (by omega)) ⟨h1, ⟨b, boxed_below h2 (ba W _)⟩, bt' h3 (ba W _), by rw [World.size_alloc]; omega⟩ ⟨W.heap.size, by have := h2.lt; omega, (MapKept.heap_alloc W _).1, rfl⟩
    case body =>
      rintro l pre x a' W hl _ ⟨hms, ⟨b, hm⟩, hB, hsz⟩ ⟨Bx, hBx, hXb, rfl⟩ hlt
      obtain ⟨⟨⟨h', l'⟩, A', cap', lv⟩, ok⟩ := x
      have hXb : W.heap[Bx]? = some (.cells #[.int .i64 h'.k, .int .i64 h'.n, .int .i64 h'.vk, .int .i64 h'.vn, .string h'.vs, .string h'.tab, .string h'.col, .slice A' l'.length cap'] 26 (0, 0)) := hXb
      obtain ⟨⟨y0, y1, y2, y3, y4, y5, y6, y7⟩, _⟩ := cell8 hXb
      have Hms := Lib.hid hms
      have HM := Lib.hid hm
      obtain ⟨bf, hbf⟩ : ∃ bf, errB h' = bf := ⟨_, rfl⟩
      have Hbf := Lib.hid hbf
      have HF := Lib.hid (mayErr_any h' A' l'.length cap' W)
      rw [hbf] at HF
      clear hms hm hXb hbf
      have HA := Lib.hid (show ((pre ++ [(⟨⟨.mk h' l', A', cap', lv⟩, ok⟩ : NdS w.heap.size W0)]).map ndp).all (fun y => !errB y.1.hd) = !bf by
        rw [List.map_append, List.all_append, Hms.out]
        simp [Ex.hd, Hbf.out])
      cases bf
      · gi_wp2_with ((try refine ⟨trivial, ?_⟩); gi_at_call 52; refine (CallsIn.inRound l (callsIn_wide.2 HF.out)).mono ?_; rintro e W5 ⟨rfl, hb5⟩)
        exact ⟨(Rd.of (S := S) hb5).from hSB, (Rd.of (S := S) hb5).kp hSU (by omega), HA.out, ⟨_, boxed_below HM.out hb5⟩, bt' hB hb5, Nat.le_trans hsz hb5.size⟩
      · gi_wp2_with ((try refine ⟨trivial, ?_⟩); gi_at_call 52; refine (CallsIn.inRound l (callsIn_wide.2 HF.out)).mono ?_; rintro e W5 ⟨rfl, hb5⟩; have m5 := boxed_below HM.out hb5; have k1 := m5.cell; have g1 := m5.frozen)
        exact ⟨((Rd.of (S := S) hb5).set hS1 _).from hSB, rfl, HA.out, m5.set _, (bt' hB hb5).setCell (p := ⟨u1, 0, none⟩) (by simp only; omega) _⟩
    case done =>
      rintro D ys W hD hys ⟨h1, ⟨b, h2⟩, h3, h4⟩ hK
      have k1 := h2.cell
      have g1 := h2.frozen
      have hR := (Rd.refl S W).set (j := 0) hS1 (.bool true)
      have hKD := (hR.block D (Array.getElem?_eq_some_iff.1 hK).1 (fun e => by have := hSB D e; omega)).trans hK
      have HE := Lib.hid (show safeB (.mk h lk) = true by rw [safeB, HM.out]; rw [hys] at h1; simpa using h1)
      have q1 := cells_put (o' := .deferred none) (h2.set (.bool true)) hKD rfl
      have HBl := Lib.hid (h3.trans (hR.below (n₀ := w.heap.size) hSU (by omega)))
      clear hR hK
      gi_wp2
      refine ⟨by simp, .inl ⟨_, _, rfl, run_takeDeferred hKD, ?_⟩⟩
      refine ⟨.bool (safeB (.mk h lk)), ?_, rfl, ?_⟩
      · rw [HE.out]; simp [results, Tryz.results31, go_sem, q1]
      · exact HBl.out.trans (belowK_b (w := w) (Nat.le_refl _) _ D _ _ (by omega) hKD rfl rfl)
    case stop =>
      rintro D c pre W hD hSp ⟨rfl, h1, h2, h3⟩ hK
      have HE := Lib.hid (show safeB (.mk h lk) = false by
        obtain ⟨r, hr⟩ := hSp
        rw [safeB, HM.out, ← hr, List.all_append, h1]; rfl)
      have q1 := cells_put (o' := .deferred none) h2 hK rfl
      gi_wp2
      refine ⟨by simp, .inl ⟨_, _, rfl, run_takeDeferred hK, ?_⟩⟩
      refine ⟨.bool (safeB (.mk h lk)), ?_, rfl, ?_⟩
      · rw [HE.out]; simp [results, Tryz.results31, go_sem, q1]
      · exact h3.trans (belowK_b (w := w) (Nat.le_refl _) _ D _ _ (by omega) hK rfl rfl)
end Go.Proofs.YteckhaicodmakaaGreatDoor
