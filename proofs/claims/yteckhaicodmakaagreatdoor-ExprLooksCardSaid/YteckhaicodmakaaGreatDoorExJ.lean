/-
  The document's Large.
  The document's contracts, of values that hold expressions; what they come to.
-/
import Derived.Test.YteckhaicodmakaaGreatDoorEx6
import Derived.Test.YteckhaicodmakaaGreatDoorExL
import Derived.Test.YteckhaicodmakaaGreatDoorExg
import Derived.Test.YteckhaicodmakaaGreatDoorExq
namespace Go.Proofs.YteckhaicodmakaaGreatDoor
section
open Go.RowKit Go.Shelf

/-- Is one too much to be looked at, but for its parts? -/
def bigH (h : Hd) : Prop := 200 < h.tab.size ∨ 200 < h.col.size ∨ 500 < h.vs.size
instance (h : Hd) : Decidable (bigH h) := by unfold bigH; exact inferInstance
mutual
/-- Is it too large, so deep, with so many ahead; and how many there are then? -/
def lrgX : Ex → Nat → Nat → Bool × Nat
  | .mk h l, d, c => if 60 < d ∨ 1000 < c + 1 ∨ bigH h then (true, c + 1) else lrgXs l (d + 1) (c + 1)
def lrgXs : List Ex → Nat → Nat → Bool × Nat
  | [], _, c => (false, c)
  | x :: r, d, c => if (lrgX x d c).1 = true then lrgX x d c else lrgXs r d (lrgX x d c).2
end
mutual
theorem lrg_no : ∀ (x : Ex) (d c : Nat), (lrgX x d c).1 = false → AllSm x ∧ (lrgX x d c).2 = c + cnt x ∧ (lrgX x d c).2 ≤ 1000
  | .mk h l, d, c, H => by
    rw [lrgX] at H ⊢
    by_cases hb : 60 < d ∨ 1000 < c + 1 ∨ bigH h
    · rw [if_pos hb] at H; cases H
    · rw [if_neg hb] at H ⊢
      have hn : ¬ bigH h := fun e => hb (.inr (.inr e))
      have hc : ¬ 1000 < c + 1 := fun e => hb (.inr (.inl e))
      obtain ⟨h1, h2, h3⟩ := lrgs_no l (d + 1) (c + 1) (by omega) H
      refine ⟨?_, by rw [cnt_mk]; omega, h3⟩
      rw [AllSm]
      unfold bigH at hn
      exact ⟨⟨by omega, by omega, by omega⟩, h1⟩
theorem lrgs_no : ∀ (l : List Ex) (d c : Nat), c ≤ 1000 → (lrgXs l d c).1 = false → AllSmL l ∧ (lrgXs l d c).2 = c + cntL l ∧ (lrgXs l d c).2 ≤ 1000
  | [], d, c, hc, H => by
    rw [lrgXs]
    exact ⟨by rw [AllSmL]; trivial, by rw [cntL]; rfl, hc⟩
  | x :: r, d, c, hc, H => by
    rw [lrgXs] at H ⊢
    cases hx : (lrgX x d c).1 with
    | true => rw [if_pos hx, hx] at H; cases H
    | false =>
      rw [hx, if_neg (by simp)] at H
      rw [if_neg (by simp)]
      obtain ⟨a1, a2, a3⟩ := lrg_no x d c hx
      obtain ⟨b1, b2, b3⟩ := lrgs_no r d _ a3 H
      exact ⟨by rw [AllSmL]; exact ⟨a1, b1⟩, by rw [cntL]; omega, b3⟩
end
theorem lrgXs_take {l : List Ex} {k : Nat} {x : Ex} (h : l[k]? = some x) (d c : Nat) (hf : (lrgXs (l.take k) d c).1 = false) : lrgXs (l.take (k + 1)) d c = lrgX x d (lrgXs (l.take k) d c).2 := by
  induction l generalizing k c with
  | nil => simp at h
  | cons y r ih =>
    cases k with
    | zero =>
      obtain rfl : y = x := by simpa using h
      simp only [List.take_zero, List.take_succ_cons, lrgXs, List.take_zero]
      cases hy : (lrgX y d c).1 with
      | true => simp
      | false => simp; exact Prod.ext (by simp [hy]) rfl
    | succ k =>
      rw [List.take_succ_cons, lrgXs] at hf ⊢
      rw [List.take_succ_cons, lrgXs]
      cases hy : (lrgX y d c).1 with
      | true => rw [hy, if_pos rfl, hy] at hf; cases hf
      | false =>
        rw [hy, if_neg (by simp)] at hf
        rw [if_neg (by simp), if_neg (by simp)]
        exact ih (by simpa using h) _ hf
theorem lrgXs_yes {l : List Ex} {k : Nat} {d c : Nat} (h : (lrgXs (l.take k) d c).1 = true) : lrgXs l d c = lrgXs (l.take k) d c := by
  induction l generalizing k c with
  | nil => simp
  | cons y r ih =>
    cases k with
    | zero => simp [lrgXs] at h
    | succ k =>
      rw [List.take_succ_cons, lrgXs] at h ⊢
      rw [lrgXs]
      cases hy : (lrgX y d c).1 with
      | true => simp
      | false =>
        rw [hy, if_neg (by simp)] at h
        rw [if_neg (by simp), if_neg (by simp)]
        exact ih h
theorem Rd.bx {b b' : Nat} {W W' : World} {o : Obj} (h : Rd (fun k => k = b) W W') (hk : W.heap[b']? = some o) (hb : b' ≠ b) : W'.heap[b']? = some o :=
  (h.block b' (Array.getElem?_eq_some_iff.1 hk).1 hb).trans hk
set_option maxRecDepth 100000 in
set_option maxHeartbeats 8000000 in
theorem large_n : ∀ (N : Nat) (h : Hd) (l : List Ex), cnt (.mk h l) ≤ N → ∀ (w : World) (n₀ b d c : Nat) (A : Option Addr) (cap : Nat), XsAt n₀ w l A → n₀ ≤ b → Boxed w b 3 (.int .i64 c) → c ≤ 1000 → d ≤ 61 →
    Calls Tryz.prog 37 #[XV h A l.length cap, .int .i64 d, .pointer (some ⟨b, 0, none⟩)] w fun e w' =>
      e = .returned (.bool (lrgX (.mk h l) d c).1) ∧ Boxed w' b 3 (.int .i64 (lrgX (.mk h l) d c).2) ∧ Rd (fun k => k = b) w w' := by
  intro N
  induction N with
  | zero => intro h l hc; have := cnt_pos (.mk h l); omega
  | succ N ih =>
    intro h l hc w n₀ b d c A cap hX hnb hB hcc hd
    rw [cnt_mk] at hc
    have hbl := hB.lt
    have hb0 := hB.alloc (xbox h A l.length cap)
    have k0 := hb0.cell
    have g0 := hb0.frozen
    have hb1 := (hB.set (.int .i64 ((c : Int) + 1))).alloc (xbox h A l.length cap)
    have k1 := hb1.cell
    have HX1 := Lib.hid (show ((w.setCell ⟨b, 0, none⟩ (.int .i64 ((c : Int) + 1))).alloc (xbox h A l.length cap)).heap[w.heap.size]? = some _ by have := (MapKept.heap_alloc (w.setCell ⟨b, 0, none⟩ (.int .i64 ((c : Int) + 1))) (xbox h A l.length cap)).1; rwa [setc_size] at this)
    obtain ⟨⟨x0, x1, x2, x3, x4, x5, x6, x7⟩, _⟩ := cell8 HX1.out
    have HB1 := Lib.hid hb1
    have HR1 := Lib.hid (((Rd.refl (fun k => k = b) w).set (b := b) (j := 0) rfl (.int .i64 ((c : Int) + 1))).alloc (xbox h A l.length cap))
    have HXs := Lib.hid hX
    have HI := Lib.hid ih
    have HC := Lib.hid hc
    have HE := Lib.hid (show lrgX (.mk h l) d c = if 60 < d ∨ 1000 < c + 1 ∨ bigH h then (true, c + 1) else lrgXs l (d + 1) (c + 1) by rw [lrgX])
    clear hX ih hB hb0 hb1 hc
    obtain ⟨k, n, vk, vn, vs, tab, col⟩ := h
    have HBg := Lib.hid (show bigH ⟨k, n, vk, vn, vs, tab, col⟩ ↔ 200 < tab.size ∨ 200 < col.size ∨ 500 < vs.size from Iff.rfl)
    by_cases hbad : 60 < d ∨ 1000 < c + 1 ∨ bigH ⟨k, n, vk, vn, vs, tab, col⟩
    · have HL := Lib.hid (HE.out.trans (if_pos hbad))
      have hcases : (60 < d) ∨ (¬ 60 < d ∧ 1000 < c + 1) ∨ (¬ 60 < d ∧ ¬ 1000 < c + 1 ∧ 200 < tab.size) ∨ (¬ 60 < d ∧ ¬ 1000 < c + 1 ∧ ¬ 200 < tab.size ∧ 200 < col.size) ∨ (¬ 60 < d ∧ ¬ 1000 < c + 1 ∧ ¬ 200 < tab.size ∧ ¬ 200 < col.size ∧ 500 < vs.size) := by
        rw [HBg.out] at hbad; omega
      clear hbad
      rcases hcases with z1 | ⟨z1, z2⟩ | ⟨z1, z2, z3⟩ | ⟨z1, z2, z3, z4⟩ | ⟨z1, z2, z3, z4, z5⟩
      case' inl => have y1 : (60 : Int) < (d : Int) := by omega
      case' inr.inl => have y1 : ¬ (60 : Int) < (d : Int) := by omega
      case' inr.inl => have y2 : (1000 : Int) < (c : Int) + 1 := by omega
      case' inr.inr.inl => have y1 : ¬ (60 : Int) < (d : Int) := by omega
      case' inr.inr.inl => have y2 : ¬ (1000 : Int) < (c : Int) + 1 := by omega
      case' inr.inr.inl => have y3 : (200 : Int) < (tab.size : Int) := by omega
      case' inr.inr.inr.inl => have y1 : ¬ (60 : Int) < (d : Int) := by omega
      case' inr.inr.inr.inl => have y2 : ¬ (1000 : Int) < (c : Int) + 1 := by omega
      case' inr.inr.inr.inl => have y3 : ¬ (200 : Int) < (tab.size : Int) := by omega
      case' inr.inr.inr.inl => have y4 : (200 : Int) < (col.size : Int) := by omega
      case' inr.inr.inr.inr => have y1 : ¬ (60 : Int) < (d : Int) := by omega
      case' inr.inr.inr.inr => have y2 : ¬ (1000 : Int) < (c : Int) + 1 := by omega
      case' inr.inr.inr.inr => have y3 : ¬ (200 : Int) < (tab.size : Int) := by omega
      case' inr.inr.inr.inr => have y4 : ¬ (200 : Int) < (col.size : Int) := by omega
      case' inr.inr.inr.inr => have y5 : (500 : Int) < (vs.size : Int) := by omega
      all_goals
        go_enter Tryz.func37, Tryz.ntmps37
        go_wp2_with fail
        go_ret
        exact ⟨ret_bool (by rw [HL.out]), by rw [HL.out]; exact HB1.out, HR1.out⟩
    · have HL := Lib.hid (HE.out.trans (if_neg hbad))
      rw [HBg.out] at hbad
      have z1 : ¬ (60 : Int) < (d : Int) := by omega
      have z2 : ¬ (1000 : Int) < (c : Int) + 1 := by omega
      have z3 : ¬ (200 : Int) < (tab.size : Int) := by omega
      have z4 : ¬ (200 : Int) < (col.size : Int) := by omega
      have z5 : ¬ (500 : Int) < (vs.size : Int) := by omega
      clear hbad
      obtain ⟨W1, hW1⟩ : ∃ W1, (w.setCell ⟨b, 0, none⟩ (.int .i64 ((c : Int) + 1))).alloc (xbox ⟨k, n, vk, vn, vs, tab, col⟩ A l.length cap) = W1 := ⟨_, rfl⟩
      have HW1 := Lib.hid hW1
      have hsz : W1.heap.size = w.heap.size + 1 := by rw [← hW1, World.size_alloc, setc_size]
      clear hW1
      go_enter Tryz.func37, Tryz.ntmps37
      go_wp2_with fail
      go_loopw [7] (fun i W => ∃ (j : Nat), j ≤ l.length ∧ i = .int .i64 j ∧ Hid ((lrgXs (l.take j) (d + 1) (c + 1)).1 = false ∧ Boxed W b 3 (.int .i64 (lrgXs (l.take j) (d + 1) (c + 1)).2) ∧ Rd (fun k => k = b) W1 W)) (fun i _ => l.length - (intOf i).toNat)
      case atStart =>
        refine ⟨0, Nat.zero_le _, rfl, Lib.hid ⟨by simp [lrgXs], ?_, ?_⟩⟩
        · simpa [lrgXs] using HB1.out
        · rw [HW1.out]; exact Rd.refl _ _
      case round =>
        obtain ⟨j, hj, rfl, HJ⟩ := hrel
        obtain ⟨⟨v0, v1, v2, v3, v4, v5, v6, v7⟩, _⟩ := cell8 (HJ.out.2.2.bx (by rw [← HW1.out]; exact HX1.out) (by omega))
        by_cases hjl : j < l.length
        · obtain ⟨y, hy⟩ : ∃ y, l[j]? = some y := ⟨_, List.getElem?_eq_getElem hjl⟩
          obtain ⟨h', l'⟩ := y
          obtain ⟨g, off, A', cap', rfl, hg, hXc, hle', hl'⟩ := HXs.out.at hy
          have hgw : ∀ q, q < n₀ → wr.heap[q]? = w.heap[q]? := fun q hq => by
            have h1 := HJ.out.2.2.block q (by omega) (by omega)
            rw [h1, ← HW1.out]
            exact ((ba _ _).block q (by rw [setc_size]; omega)).trans (setc_other (by omega) _)
          obtain ⟨a0, a1, a2, a3, a4, a5, a6, a7⟩ := hXc.of (hgw g hg)
          obtain ⟨e1, e2, e3⟩ := lrgs_no (l.take j) (d + 1) (c + 1) (by omega) HJ.out.1
          have hjc : j ≤ 1000 := by have := cntL_len (l.take j); rw [List.length_take] at this; omega
          have hcn := cntL_split hy
          rw [cnt_mk] at hcn
          have HK := Lib.hid (HI.out h' l' (by rw [cnt_mk]; have := HC.out; omega) wr n₀ b (d + 1) (lrgXs (l.take j) (d + 1) (c + 1)).2 A' cap' (XsB.go hgw (fun _ h => h) _ _ hl') hnb HJ.out.2.1 e3 (by omega))
          have HT := Lib.hid (lrgXs_take hy (d + 1) (c + 1) HJ.out.1)
          have HNo := Lib.hid (fun e => lrgXs_yes (l := l) (k := j + 1) (d := d + 1) (c := c + 1) e)
          rw [← HT.out] at HK
          clear hXc hy hl' hcn e1 e2 e3 hgw
          obtain ⟨bl, hbl2⟩ : ∃ bl, (lrgXs (l.take (j + 1)) (d + 1) (c + 1)).1 = bl := ⟨_, rfl⟩
          have HBl := Lib.hid hbl2
          rw [hbl2] at HK
          clear hbl2
          cases bl
          · go_wp2_with fail
            refine (show Calls Tryz.prog 37 #[XV h' A' l'.length cap', .int .i64 ((d : Int) + 1), .pointer (some ⟨b, 0, none⟩)] wr _ from HK.out).mono ?_
            rintro e w3 ⟨rfl, hb3, hr3⟩
            have HB3 := Lib.hid hb3
            have HR3 := Lib.hid (HJ.out.2.2.trans hr3)
            clear hb3 hr3
            go_wp2_with fail
            go_roundw
            case rel => exact ⟨j + 1, by omega, by go_num, Lib.hid ⟨HBl.out, HB3.out, HR3.out⟩⟩
            case measure => simp [intOf]; omega
          · go_wp2_with fail
            refine (show Calls Tryz.prog 37 #[XV h' A' l'.length cap', .int .i64 ((d : Int) + 1), .pointer (some ⟨b, 0, none⟩)] wr _ from HK.out).mono ?_
            rintro e w3 ⟨rfl, hb3, hr3⟩
            have HB3 := Lib.hid hb3
            have HR3 := Lib.hid (HR1.out.trans (by rw [HW1.out]; exact HJ.out.2.2.trans hr3))
            clear hb3 hr3
            go_wp2_with fail
            go_ret
            exact ⟨ret_bool (by rw [HL.out, HNo.out HBl.out, HBl.out]), by rw [HL.out, HNo.out HBl.out]; exact HB3.out, HR3.out⟩
        · obtain rfl : j = l.length := by omega
          have HR3 := Lib.hid (HR1.out.trans (by rw [HW1.out]; exact HJ.out.2.2))
          go_wp2_with fail
          go_ret
          have hf := HJ.out.1
          have hb3 := HJ.out.2.1
          rw [List.take_length] at hf hb3
          exact ⟨ret_bool (by rw [HL.out, hf]), by rw [HL.out]; exact hb3, HR3.out⟩
/-- Is an expression too large? -/
def largeB (x : Ex) : Bool := (lrgX x 0 0).1
theorem large_no {x : Ex} (h : largeB x = false) : AllSm x ∧ cnt x ≤ 1000 := by
  obtain ⟨h1, h2, h3⟩ := lrg_no x 0 0 h
  exact ⟨h1, by omega⟩
theorem large_any (h : Hd) (l : List Ex) (w : World) (A : Option Addr) (cap : Nat) (hX : XsAt w.heap.size w l A) :
    Calls Tryz.prog 7 #[XV h A l.length cap] w fun e w' => e = .returned (.bool (largeB (.mk h l))) ∧ Below w.heap.size w w' := by
  have hb := Boxed.new (w.alloc (xbox h A l.length cap)) 3 (.int .i64 0)
  rw [World.size_alloc] at hb
  have hba := ba2 w (xbox h A l.length cap) (.cells #[.int .i64 0] 3)
  have hx := ((ba (w.alloc (xbox h A l.length cap)) (.cells #[.int .i64 0] 3)).block w.heap.size (by rw [World.size_alloc]; omega)).trans (MapKept.heap_alloc w (xbox h A l.length cap)).1
  obtain ⟨⟨x0, x1, x2, x3, x4, x5, x6, x7⟩, _⟩ := cell8 hx
  have HC := Lib.hid (large_n _ h l (Nat.le_refl _) ((w.alloc (xbox h A l.length cap)).alloc (.cells #[.int .i64 0] 3)) w.heap.size (w.heap.size + 1) 0 0 A cap (XsB.go (fun k hk => hba.block k hk) (fun _ h => h) _ _ hX) (by omega) hb (by omega) (by omega))
  have HB := Lib.hid hba
  clear hX hb hba hx
  go_enter Tryz.func7, Tryz.ntmps7
  go_wp2_with fail
  refine (show Calls Tryz.prog 37 #[XV h A l.length cap, .int .i64 0, .pointer (some ⟨w.heap.size + 1, 0, none⟩)] _ _ from HC.out).mono ?_
  rintro e w3 ⟨rfl, _, hr⟩
  have HB3 := Lib.hid (HB.out.trans (hr.below (n₀ := w.heap.size) (fun k hk => by omega) (by simp; omega)))
  clear hr
  go_wp2_with fail
  go_ret
  exact ⟨rfl, HB3.out⟩
end
section
open Go.RowKit Go.Shelf

theorem rv_large {x : Ex} {v : Value} {w : World} (h : EV x v w) {c : Bool} (e : largeB x = c) :
    Calls Tryz.prog 7 #[v] w fun e w' => ∃ u, e = .returned u ∧ Bel w w' ∧ u = .bool c := by
  obtain ⟨hd, l⟩ := x
  obtain ⟨A, cap, rfl, hl, hx⟩ := h
  refine (large_any hd l w A cap hx).mono ?_
  rintro _ w' ⟨rfl, hb⟩
  exact ⟨_, rfl, hb, by rw [← e]⟩
theorem rv_check {x : Ex} {v : Value} {w : World} (h : EV x v w) (hsm : AllSm x) (hc : cnt x ≤ 1000000) {c : Bool} (e : okX x = c) :
    Calls Tryz.prog 9 #[v] w fun e w' => ∃ u, e = .returned u ∧ Bel w w' ∧ u = .bool c := by
  obtain ⟨hd, l⟩ := x
  obtain ⟨A, cap, rfl, hl, hx⟩ := h
  refine (refCheck10_any hd l w A cap hc hsm hx).mono ?_
  rintro _ w' ⟨rfl, hb⟩
  exact ⟨_, rfl, hb, by rw [← e]⟩
theorem rv_size {x : Ex} {v : Value} {w : World} (h : EV x v w) (hsm : AllSm x) (hc : cnt x ≤ 1000000) {c : Nat} (e : sizN x = c) :
    Calls Tryz.prog 14 #[v] w fun e w' => ∃ u, e = .returned u ∧ Bel w w' ∧ u = .int .i64 c := by
  obtain ⟨hd, l⟩ := x
  obtain ⟨A, cap, rfl, hl, hx⟩ := h
  refine (refSize_any hd l w A cap hc hsm hx).mono ?_
  rintro _ w' ⟨rfl, hb⟩
  exact ⟨_, rfl, hb, by rw [← e]⟩
theorem rv_depth {x : Ex} {v : Value} {w : World} (h : EV x v w) (hc : cnt x ≤ 1000000) {c : Nat} (e : depX x = c) :
    Calls Tryz.prog 15 #[v] w fun e w' => ∃ u, e = .returned u ∧ Bel w w' ∧ u = .int .i64 c := by
  obtain ⟨hd, l⟩ := x
  obtain ⟨A, cap, rfl, hl, hx⟩ := h
  refine (refDepth_any hd l w A cap hc hx).mono ?_
  rintro _ w' ⟨rfl, hb⟩
  exact ⟨_, rfl, hb, by rw [← e]⟩
theorem rv_safe {x : Ex} {v : Value} {w : World} (h : EV x v w) (hc : cnt x ≤ 1000000) {c : Bool} (e : (!errsX x) = c) :
    Calls Tryz.prog 35 #[v] w fun e w' => ∃ u, e = .returned u ∧ Bel w w' ∧ u = .bool c := by
  obtain ⟨hd, l⟩ := x
  obtain ⟨A, cap, rfl, hl, hx⟩ := h
  refine (refSafe_any hd l w A cap hc hx).mono ?_
  rintro _ w' ⟨rfl, hb⟩
  exact ⟨_, rfl, hb, by rw [← e]⟩
theorem rv_show {x : Ex} {v : Value} {w : World} (h : EV x v w) (hsm : AllSm x) (hc : cnt x ≤ 512) (hf : FitX x) {c : List UInt8} (e : shwX x = c) :
    Calls Tryz.prog 16 #[v] w fun e w' => ∃ u, e = .returned u ∧ Bel w w' ∧ u = .string (bstr c) := by
  obtain ⟨hd, l⟩ := x
  obtain ⟨A, cap, rfl, hl, hx⟩ := h
  refine (refShow_n 512 hd l hc (Nat.le_refl _) hsm hf w A cap hx hl).mono ?_
  rintro _ w' ⟨rfl, hb⟩
  exact ⟨_, rfl, hb, by rw [← e]⟩
theorem rv_same {x y : Ex} {v u : Value} {w : World} (h : EV x v w) (h' : EV y u w) (hc : cnt x ≤ 1000000) (hc' : cnt y ≤ 1000000) {c : Bool} (e : sameX x y = c) :
    Calls Tryz.prog 17 #[v, u] w fun e w' => ∃ u, e = .returned u ∧ Bel w w' ∧ u = .bool c := by
  obtain ⟨hd, l⟩ := x
  obtain ⟨hd', l'⟩ := y
  obtain ⟨A, cap, rfl, hl, hx⟩ := h
  obtain ⟨A', cap', rfl, hl', hx'⟩ := h'
  refine (refSame_any hd hd' l l' w A cap A' cap' hx hl hx' hl' hc hc').mono ?_
  rintro _ w' ⟨rfl, hb⟩
  exact ⟨_, rfl, hb, by rw [e]⟩
theorem rv_list {l : List Ex} {v u : Value} {w : World} (h : LV l v w) (h' : LV l u w) (hc : cntL l ≤ 1000000) :
    Calls Tryz.prog 32 #[v, u] w fun e w' => ∃ u, e = .returned u ∧ Bel w w' ∧ u = .bool true := by
  obtain ⟨A, cap, rfl, hl, hx⟩ := h
  obtain ⟨A', cap', rfl, hl', hx'⟩ := h'
  refine (sameList_yes l w A cap A' cap' hx hx' hc).mono ?_
  rintro _ w' ⟨rfl, hb⟩
  exact ⟨_, rfl, hb, rfl⟩
theorem chk_of {x : Ex} : chkI x = if okX x = true then 0 else 100 := by rw [chkI, meas_some]
theorem siz_of {x : Ex} : sizI x = if okX x = true then (cnt x : Int) else 0 := by
  rw [sizI, meas_eq]
  cases okX x <;> simp
theorem dep_of {x : Ex} : depI x = if okX x = true then (depX x : Int) else 0 := by
  rw [depI, meas_eq]
  cases okX x <;> simp
theorem sho_of {x : Ex} : shoX x = if okX x = true then shwX x else [] := by rw [shoX, meas_some]
theorem safe_of {x : Ex} : safeB x = (okX x && !errsX x) := by rw [safeB, meas_some, errs_preo]
theorem same_self (x : Ex) : sameX x x = true := (sameX_iff x x).2 rfl
end
end Go.Proofs.YteckhaicodmakaaGreatDoor
