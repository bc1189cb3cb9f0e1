/-
  The document's Check, Size, SameList.
The document's Large.
  The document's contracts, of values that hold expressions; what they come to.
CalcSafe's walk, the law's lives given.
The library's IndexFunc and ContainsFunc over values, with isNull and with isWrong; the closure of Fold.
fold of two values, as the law's example has it.
slices.Clone of a row of values.
slices.DeleteFunc of three values, the middle one null.
-/
import Derived.Test.YtpokpiphnggfpaaDoorZ13
import Derived.Lib.LazyBuf
import Derived.Laws.AppendOwnNone
import Derived.WalkSpells
import Derived.Lib.SliceRun
section
namespace Go.Proofs.YtpokpiphnggfpaaDoor
open Go.RowKit Go.Shelf

theorem walkV_1 (x : Ex) : walkV x 1 false = if okX x = true then .tuple #[.int .i64 (cnt x), .bool true] else .tuple #[.int .i64 0, .bool false] := by
  unfold walkV okX
  by_cases h : goodB x 1 false = true ∧ cnt x ≤ 512
  · rw [if_pos h, if_pos (by simp [h.1, h.2])]
  · rw [if_neg h, if_neg (by simpa using h)]
def sizN (x : Ex) : Nat := if okX x = true then cnt x else 0
end Go.Proofs.YtpokpiphnggfpaaDoor
end
section
namespace Go.Proofs.YtpokpiphnggfpaaDoor
section
open Go.RowKit Go.Shelf

/-- Is one too much to be looked at, but for its parts? -/
def bigH (h : Hd) : Prop := 200 < h.tab.size ∨ 200 < h.col.size ∨ 500 < h.vs.size
instance (h : Hd) : Decidable (bigH h) := by unfold bigH; exact inferInstance
mutual
/-- Is it too large, so deep, with so many ahead; and how many there are then? -/
def lrgX : Ex → Nat → Nat → Bool × Nat
  | .mk h l, d, c => if 60 < d ∨ 1000 < c + 1 ∨ bigH h then (true, c + 1) else lrgXs l (d + 1) (c + 1)
def lrgXs : List Ex → Nat → Nat → Bool × Nat
  | [], _, c => (false, c)
  | x :: r, d, c => if (lrgX x d c).1 = true then lrgX x d c else lrgXs r d (lrgX x d c).2
end
mutual
theorem lrg_no : ∀ (x : Ex) (d c : Nat), (lrgX x d c).1 = false → AllSm x ∧ (lrgX x d c).2 = c + cnt x ∧ (lrgX x d c).2 ≤ 1000
  | .mk h l, d, c, H => by
    rw [lrgX] at H ⊢
    by_cases hb : 60 < d ∨ 1000 < c + 1 ∨ bigH h
    · rw [if_pos hb] at H; cases H
    · rw [if_neg hb] at H ⊢
      have hn : ¬ bigH h := fun e => hb (.inr (.inr e))
      have hc : ¬ 1000 < c + 1 := fun e => hb (.inr (.inl e))
      obtain ⟨h1, h2, h3⟩ := lrgs_no l (d + 1) (c + 1) (by omega) H
      refine ⟨?_, by rw [cnt_mk]; omega, h3⟩
      rw [AllSm]
      unfold bigH at hn
      exact ⟨⟨by omega, by omega, by omega⟩, h1⟩
theorem lrgs_no : ∀ (l : List Ex) (d c : Nat), c ≤ 1000 → (lrgXs l d c).1 = false → AllSmL l ∧ (lrgXs l d c).2 = c + cntL l ∧ (lrgXs l d c).2 ≤ 1000
  | [], d, c, hc, H => by
    rw [lrgXs]
    exact ⟨by rw [AllSmL]; trivial, by rw [cntL]; rfl, hc⟩
  | x :: r, d, c, hc, H => by
    rw [lrgXs] at H ⊢
    cases hx : (lrgX x d c).1 with
    | true => rw [if_pos hx, hx] at H; cases H
    | false =>
      rw [hx, if_neg (by simp)] at H
      rw [if_neg (by simp)]
      obtain ⟨a1, a2, a3⟩ := lrg_no x d c hx
      obtain ⟨b1, b2, b3⟩ := lrgs_no r d _ a3 H
      exact ⟨by rw [AllSmL]; exact ⟨a1, b1⟩, by rw [cntL]; omega, b3⟩
end
theorem lrgXs_take {l : List Ex} {k : Nat} {x : Ex} (h : l[k]? = some x) (d c : Nat) (hf : (lrgXs (l.take k) d c).1 = false) : lrgXs (l.take (k + 1)) d c = lrgX x d (lrgXs (l.take k) d c).2 := by
  induction l generalizing k c with
  | nil => simp at h
  | cons y r ih =>
    cases k with
    | zero =>
      obtain rfl : y = x := by simpa using h
      simp only [List.take_zero, List.take_succ_cons, lrgXs, List.take_zero]
      cases hy : (lrgX y d c).1 with
      | true => simp
      | false => simp; exact Prod.ext (by simp [hy]) rfl
    | succ k =>
      rw [List.take_succ_cons, lrgXs] at hf ⊢
      rw [List.take_succ_cons, lrgXs]
      cases hy : (lrgX y d c).1 with
      | true => rw [hy, if_pos rfl, hy] at hf; cases hf
      | false =>
        rw [hy, if_neg (by simp)] at hf
        rw [if_neg (by simp), if_neg (by simp)]
        exact ih (by simpa using h) _ hf
theorem lrgXs_yes {l : List Ex} {k : Nat} {d c : Nat} (h : (lrgXs (l.take k) d c).1 = true) : lrgXs l d c = lrgXs (l.take k) d c := by
  induction l generalizing k c with
  | nil => simp
  | cons y r ih =>
    cases k with
    | zero => simp [lrgXs] at h
    | succ k =>
      rw [List.take_succ_cons, lrgXs] at h ⊢
      rw [lrgXs]
      cases hy : (lrgX y d c).1 with
      | true => simp
      | false =>
        rw [hy, if_neg (by simp)] at h
        rw [if_neg (by simp), if_neg (by simp)]
        exact ih h
theorem Rd.bx {b b' : Nat} {W W' : World} {o : Obj} (h : Rd (fun k => k = b) W W') (hk : W.heap[b']? = some o) (hb : b' ≠ b) : W'.heap[b']? = some o :=
  (h.block b' (Array.getElem?_eq_some_iff.1 hk).1 hb).trans hk
set_option maxRecDepth 100000 in
set_option maxHeartbeats 8000000 in
theorem large_n : ∀ (N : Nat) (h : Hd) (l : List Ex), cnt (.mk h l) ≤ N → ∀ (w : World) (n₀ b d c : Nat) (A : Option Addr) (cap : Nat), XsAt n₀ w l A → n₀ ≤ b → Boxed w b 3 (.int .i64 c) → c ≤ 1000 → d ≤ 61 →
    Calls Tryd.prog 11 #[XV h A l.length cap, .int .i64 d, .pointer (some ⟨b, 0, none⟩)] w fun e w' =>
      e = .returned (.bool (lrgX (.mk h l) d c).1) ∧ Boxed w' b 3 (.int .i64 (lrgX (.mk h l) d c).2) ∧ Rd (fun k => k = b) w w' := by
  intro N
  induction N with
  | zero => intro h l hc; have := cnt_pos (.mk h l); omega
  | succ N ih =>
    intro h l hc w n₀ b d c A cap hX hnb hB hcc hd
    rw [cnt_mk] at hc
    have hbl := hB.lt
    have hb0 := hB.alloc (xbox h A l.length cap)
    have k0 := hb0.cell
    have g0 := hb0.frozen
    have hb1 := (hB.set (.int .i64 ((c : Int) + 1))).alloc (xbox h A l.length cap)
    have k1 := hb1.cell
    have HX1 := Lib.hid (show ((w.setCell ⟨b, 0, none⟩ (.int .i64 ((c : Int) + 1))).alloc (xbox h A l.length cap)).heap[w.heap.size]? = some _ by have := (MapKept.heap_alloc (w.setCell ⟨b, 0, none⟩ (.int .i64 ((c : Int) + 1))) (xbox h A l.length cap)).1; rwa [setc_size] at this)
    obtain ⟨⟨x0, x1, x2, x3, x4, x5, x6, x7⟩, _⟩ := cell8 HX1.out
    have HB1 := Lib.hid hb1
    have HR1 := Lib.hid (((Rd.refl (fun k => k = b) w).set (b := b) (j := 0) rfl (.int .i64 ((c : Int) + 1))).alloc (xbox h A l.length cap))
    have HXs := Lib.hid hX
    have HI := Lib.hid ih
    have HC := Lib.hid hc
    have HE := Lib.hid (show lrgX (.mk h l) d c = if 60 < d ∨ 1000 < c + 1 ∨ bigH h then (true, c + 1) else lrgXs l (d + 1) (c + 1) by rw [lrgX])
    clear hX ih hB hb0 hb1 hc
    obtain ⟨k, n, vk, vn, vs, tab, col⟩ := h
    have HBg := Lib.hid (show bigH ⟨k, n, vk, vn, vs, tab, col⟩ ↔ 200 < tab.size ∨ 200 < col.size ∨ 500 < vs.size from Iff.rfl)
    by_cases hbad : 60 < d ∨ 1000 < c + 1 ∨ bigH ⟨k, n, vk, vn, vs, tab, col⟩
    · have HL := Lib.hid (HE.out.trans (if_pos hbad))
      have hcases : (60 < d) ∨ (¬ 60 < d ∧ 1000 < c + 1) ∨ (¬ 60 < d ∧ ¬ 1000 < c + 1 ∧ 200 < tab.size) ∨ (¬ 60 < d ∧ ¬ 1000 < c + 1 ∧ ¬ 200 < tab.size ∧ 200 < col.size) ∨ (¬ 60 < d ∧ ¬ 1000 < c + 1 ∧ ¬ 200 < tab.size ∧ ¬ 200 < col.size ∧ 500 < vs.size) := by
        rw [HBg.out] at hbad; omega
      clear hbad
      rcases hcases with z1 | ⟨z1, z2⟩ | ⟨z1, z2, z3⟩ | ⟨z1, z2, z3, z4⟩ | ⟨z1, z2, z3, z4, z5⟩
      case' inl => have y1 : (60 : Int) < (d : Int) := by omega
      case' inr.inl => have y1 : ¬ (60 : Int) < (d : Int) := by omega
      case' inr.inl => have y2 : (1000 : Int) < (c : Int) + 1 := by omega
      case' inr.inr.inl => have y1 : ¬ (60 : Int) < (d : Int) := by omega
      case' inr.inr.inl => have y2 : ¬ (1000 : Int) < (c : Int) + 1 := by omega
      case' inr.inr.inl => have y3 : (200 : Int) < (tab.size : Int) := by omega
      case' inr.inr.inr.inl => have y1 : ¬ (60 : Int) < (d : Int) := by omega
      case' inr.inr.inr.inl => have y2 : ¬ (1000 : Int) < (c : Int) + 1 := by omega
      case' inr.inr.inr.inl => have y3 : ¬ (200 : Int) < (tab.size : Int) := by omega
      case' inr.inr.inr.inl => have y4 : (200 : Int) < (col.size : Int) := by omega
      case' inr.inr.inr.inr => have y1 : ¬ (60 : Int) < (d : Int) := by omega
      case' inr.inr.inr.inr => have y2 : ¬ (1000 : Int) < (c : Int) + 1 := by omega
      case' inr.inr.inr.inr => have y3 : ¬ (200 : Int) < (tab.size : Int) := by omega
      case' inr.inr.inr.inr => have y4 : ¬ (200 : Int) < (col.size : Int) := by omega
      case' inr.inr.inr.inr => have y5 : (500 : Int) < (vs.size : Int) := by omega
      all_goals
        go_enter Tryd.func11, Tryd.ntmps11
        go_wp2_with fail
        go_ret
        exact ⟨ret_bool (by rw [HL.out]), by rw [HL.out]; exact HB1.out, HR1.out⟩
    · have HL := Lib.hid (HE.out.trans (if_neg hbad))
      rw [HBg.out] at hbad
      have z1 : ¬ (60 : Int) < (d : Int) := by omega
      have z2 : ¬ (1000 : Int) < (c : Int) + 1 := by omega
      have z3 : ¬ (200 : Int) < (tab.size : Int) := by omega
      have z4 : ¬ (200 : Int) < (col.size : Int) := by omega
      have z5 : ¬ (500 : Int) < (vs.size : Int) := by omega
      clear hbad
      obtain ⟨W1, hW1⟩ : ∃ W1, (w.setCell ⟨b, 0, none⟩ (.int .i64 ((c : Int) + 1))).alloc (xbox ⟨k, n, vk, vn, vs, tab, col⟩ A l.length cap) = W1 := ⟨_, rfl⟩
      have HW1 := Lib.hid hW1
      have hsz : W1.heap.size = w.heap.size + 1 := by rw [← hW1, World.size_alloc, setc_size]
      clear hW1
      go_enter Tryd.func11, Tryd.ntmps11
      go_wp2_with fail
      go_loopw [7] (fun i W => ∃ (j : Nat), j ≤ l.length ∧ i = .int .i64 j ∧ Hid ((lrgXs (l.take j) (d + 1) (c + 1)).1 = false ∧ Boxed W b 3 (.int .i64 (lrgXs (l.take j) (d + 1) (c + 1)).2) ∧ Rd (fun k => k = b) W1 W)) (fun i _ => l.length - (intOf i).toNat)
      case atStart =>
        refine ⟨0, Nat.zero_le _, rfl, Lib.hid ⟨by simp [lrgXs], ?_, ?_⟩⟩
        · simpa [lrgXs] using HB1.out
        · rw [HW1.out]; exact Rd.refl _ _
      case round =>
        obtain ⟨j, hj, rfl, HJ⟩ := hrel
        obtain ⟨⟨v0, v1, v2, v3, v4, v5, v6, v7⟩, _⟩ := cell8 (HJ.out.2.2.bx (by rw [← HW1.out]; exact HX1.out) (by omega))
        by_cases hjl : j < l.length
        · obtain ⟨y, hy⟩ : ∃ y, l[j]? = some y := ⟨_, List.getElem?_eq_getElem hjl⟩
          obtain ⟨h', l'⟩ := y
          obtain ⟨g, off, A', cap', rfl, hg, hXc, hle', hl'⟩ := HXs.out.at hy
          have hgw : ∀ q, q < n₀ → wr.heap[q]? = w.heap[q]? := fun q hq => by
            have h1 := HJ.out.2.2.block q (by omega) (by omega)
            rw [h1, ← HW1.out]
            exact ((ba _ _).block q (by rw [setc_size]; omega)).trans (setc_other (by omega) _)
          obtain ⟨a0, a1, a2, a3, a4, a5, a6, a7⟩ := hXc.of (hgw g hg)
          obtain ⟨e1, e2, e3⟩ := lrgs_no (l.take j) (d + 1) (c + 1) (by omega) HJ.out.1
          have hjc : j ≤ 1000 := by have := cntL_len (l.take j); rw [List.length_take] at this; omega
          have hcn := cntL_split hy
          rw [cnt_mk] at hcn
          have HK := Lib.hid (HI.out h' l' (by rw [cnt_mk]; have := HC.out; omega) wr n₀ b (d + 1) (lrgXs (l.take j) (d + 1) (c + 1)).2 A' cap' (XsB.go hgw (fun _ h => h) _ _ hl') hnb HJ.out.2.1 e3 (by omega))
          have HT := Lib.hid (lrgXs_take hy (d + 1) (c + 1) HJ.out.1)
          have HNo := Lib.hid (fun e => lrgXs_yes (l := l) (k := j + 1) (d := d + 1) (c := c + 1) e)
          rw [← HT.out] at HK
          clear hXc hy hl' hcn e1 e2 e3 hgw
          obtain ⟨bl, hbl2⟩ : ∃ bl, (lrgXs (l.take (j + 1)) (d + 1) (c + 1)).1 = bl := ⟨_, rfl⟩
          have HBl := Lib.hid hbl2
          rw [hbl2] at HK
          clear hbl2
          cases bl
          · go_wp2_with fail
            refine (show Calls Tryd.prog 11 #[XV h' A' l'.length cap', .int .i64 ((d : Int) + 1), .pointer (some ⟨b, 0, none⟩)] wr _ from HK.out).mono ?_
            rintro e w3 ⟨rfl, hb3, hr3⟩
            have HB3 := Lib.hid hb3
            have HR3 := Lib.hid (HJ.out.2.2.trans hr3)
            clear hb3 hr3
            go_wp2_with fail
            go_roundw
            case rel => exact ⟨j + 1, by omega, by go_num, Lib.hid ⟨HBl.out, HB3.out, HR3.out⟩⟩
            case measure => simp [intOf]; omega
          · go_wp2_with fail
            refine (show Calls Tryd.prog 11 #[XV h' A' l'.length cap', .int .i64 ((d : Int) + 1), .pointer (some ⟨b, 0, none⟩)] wr _ from HK.out).mono ?_
            rintro e w3 ⟨rfl, hb3, hr3⟩
            have HB3 := Lib.hid hb3
            have HR3 := Lib.hid (HR1.out.trans (by rw [HW1.out]; exact HJ.out.2.2.trans hr3))
            clear hb3 hr3
            go_wp2_with fail
            go_ret
            exact ⟨ret_bool (by rw [HL.out, HNo.out HBl.out, HBl.out]), by rw [HL.out, HNo.out HBl.out]; exact HB3.out, HR3.out⟩
        · obtain rfl : j = l.length := by omega
          have HR3 := Lib.hid (HR1.out.trans (by rw [HW1.out]; exact HJ.out.2.2))
          go_wp2_with fail
          go_ret
          have hf := HJ.out.1
          have hb3 := HJ.out.2.1
          rw [List.take_length] at hf hb3
          exact ⟨ret_bool (by rw [HL.out, hf]), by rw [HL.out]; exact hb3, HR3.out⟩
/-- Is an expression too large? -/
def largeB (x : Ex) : Bool := (lrgX x 0 0).1
theorem large_no {x : Ex} (h : largeB x = false) : AllSm x ∧ cnt x ≤ 1000 := by
  obtain ⟨h1, h2, h3⟩ := lrg_no x 0 0 h
  exact ⟨h1, by omega⟩
theorem large_any (h : Hd) (l : List Ex) (w : World) (A : Option Addr) (cap : Nat) (hX : XsAt w.heap.size w l A) :
    Calls Tryd.prog 4 #[XV h A l.length cap] w fun e w' => e = .returned (.bool (largeB (.mk h l))) ∧ Below w.heap.size w w' := by
  have hb := Boxed.new (w.alloc (xbox h A l.length cap)) 3 (.int .i64 0)
  rw [World.size_alloc] at hb
  have hba := ba2 w (xbox h A l.length cap) (.cells #[.int .i64 0] 3)
  have hx := ((ba (w.alloc (xbox h A l.length cap)) (.cells #[.int .i64 0] 3)).block w.heap.size (by rw [World.size_alloc]; omega)).trans (MapKept.heap_alloc w (xbox h A l.length cap)).1
  obtain ⟨⟨x0, x1, x2, x3, x4, x5, x6, x7⟩, _⟩ := cell8 hx
  have HC := Lib.hid (large_n _ h l (Nat.le_refl _) ((w.alloc (xbox h A l.length cap)).alloc (.cells #[.int .i64 0] 3)) w.heap.size (w.heap.size + 1) 0 0 A cap (XsB.go (fun k hk => hba.block k hk) (fun _ h => h) _ _ hX) (by omega) hb (by omega) (by omega))
  have HB := Lib.hid hba
  clear hX hb hba hx
  go_enter Tryd.func4, Tryd.ntmps4
  go_wp2_with fail
  refine (show Calls Tryd.prog 11 #[XV h A l.length cap, .int .i64 0, .pointer (some ⟨w.heap.size + 1, 0, none⟩)] _ _ from HC.out).mono ?_
  rintro e w3 ⟨rfl, _, hr⟩
  have HB3 := Lib.hid (HB.out.trans (hr.below (n₀ := w.heap.size) (fun k hk => by omega) (by simp; omega)))
  clear hr
  go_wp2_with fail
  go_ret
  exact ⟨rfl, HB3.out⟩
end
section
open Go.RowKit Go.Shelf

theorem rv_large {x : Ex} {v : Value} {w : World} (h : EV x v w) {c : Bool} (e : largeB x = c) :
    Calls Tryd.prog 4 #[v] w fun e w' => ∃ u, e = .returned u ∧ Bel w w' ∧ u = .bool c := by
  obtain ⟨hd, l⟩ := x
  obtain ⟨A, cap, rfl, hl, hx⟩ := h
  refine (large_any hd l w A cap hx).mono ?_
  rintro _ w' ⟨rfl, hb⟩
  exact ⟨_, rfl, hb, by rw [← e]⟩
theorem chk_of {x : Ex} : chkI x = if okX x = true then 0 else 100 := by rw [chkI, meas_some]
theorem siz_of {x : Ex} : sizI x = if okX x = true then (cnt x : Int) else 0 := by
  rw [sizI, meas_eq]
  cases okX x <;> simp
theorem dep_of {x : Ex} : depI x = if okX x = true then (depX x : Int) else 0 := by
  rw [depI, meas_eq]
  cases okX x <;> simp
theorem sho_of {x : Ex} : shoX x = if okX x = true then shwX x else [] := by rw [shoX, meas_some]
theorem safe_of {x : Ex} : safeB x = (okX x && !errsX x) := by rw [safeB, meas_some, errs_preo]
theorem same_self (x : Ex) : sameX x x = true := (sameX_iff x x).2 rfl
end
end Go.Proofs.YtpokpiphnggfpaaDoor
end
section
namespace Go.Proofs.YtpokpiphnggfpaaDoor
open Go.RowKit Go.Shelf
attribute [local go_sem] Oper.semAt_some

mutual
theorem errs_agg : ∀ (x : Ex), errsX x = false → hasA x = false
  | .mk h l, he => by
    rw [errsX, Bool.or_eq_false_iff] at he
    rw [hasA, errs_aggs l he.2, Bool.or_false]
    have := he.1
    simp only [errB, Bool.or_eq_false_iff] at this
    exact this.1
theorem errs_aggs : ∀ (l : List Ex), errsXs l = false → hasAs l = false
  | [], _ => by rw [hasAs]
  | x :: l, he => by
    rw [errsXs, Bool.or_eq_false_iff] at he
    rw [hasAs, errs_agg x he.1, errs_aggs l he.2]; rfl
end
theorem safe_may {x : Ex} (h : safeB x = true) : mayI x = 0 ∧ okX x = true ∧ errsX x = false := by
  rw [safe_ofC, Bool.and_eq_true, Bool.not_eq_true'] at h
  refine ⟨?_, h.1, h.2⟩
  unfold mayI
  rw [h.1, errs_agg x h.2]; simp
theorem ev2_form {r : List Va} (hr : OkR r) (x : Ex) : ∃ K N S2 F, ev2 r x = .tuple #[VV K N S2, .int .i64 F] ∧ S2.size ≤ 9223372036854775807 ∧ (F = 0 → okV K N S2 = true) ∧ (safeB x = true → F = 0) := by
  by_cases hm : mayI x = 0
  · rw [ev2, if_pos hm]
    have hf := (ok_fit (may_zero hm).1).1
    cases hv : comX r x with
    | none =>
      refine ⟨0, 0, ⟨#[]⟩, 160, rfl, by decide, fun h => by omega, fun hs => ?_⟩
      have := com_some r x hf (safe_may hs).2.2
      rw [hv] at this; cases this
    | some v =>
      have ho := com_ok hr x hf v hv
      exact ⟨v.k, v.n, v.s, 0, rfl, ok_sh ho, fun _ => ho, fun _ => rfl⟩
  · rw [ev2, if_neg hm]
    exact ⟨0, 0, ⟨#[]⟩, mayI x, rfl, by decide, fun h => absurd h hm, fun hs => (safe_may hs).1⟩
theorem ho2_form (r : List Va) (x : Ex) : ∃ B G, ho2 r x = .tuple #[.bool B, .int .i64 G] ∧ (safeB x = true → G = 0) := by
  by_cases hm : mayI x = 0
  · rw [ho2, if_pos hm]
    cases hv : holdO r x with
    | none =>
      refine ⟨false, 160, rfl, fun hs => ?_⟩
      obtain ⟨_, h1, h2⟩ := safe_may hs
      obtain ⟨h3, h4⟩ := hold_safe (r := r) h1 h2
      rw [← h3, hv] at h4; cases h4
    | some b => exact ⟨b, 0, rfl, fun _ => rfl⟩
  · rw [ho2, if_neg hm]
    exact ⟨false, mayI x, rfl, fun hs => (safe_may hs).1⟩
set_option maxRecDepth 100000 in
set_option maxHeartbeats 8000000 in
theorem calcSafe_walk (h : Hd) (l : List Ex) (A : Option Addr) (cap : Nat) (r : List Va) (Ar : Option Addr) (rc : Nat) (w : World) (hX : XsAt w.heap.size w l A) (hcap : l.length ≤ cap) (hR : RowAt w Ar r) (hfine : Fine r) (hrl : r.length ≤ 9223372036854775807) (hV : TabV w) (hT : Tabs w)
    (hL : ∀ w1, Below w.heap.size w w1 → Calls Tryd.prog 6 #[] w1 fun e w' => e = .returned (.bool true) ∧ Below w1.heap.size w1 w') :
    Calls Tryd.prog 3 #[XV h A l.length cap, .slice Ar r.length rc] w fun e w' => e = .returned (.bool true) ∧ Below w.heap.size w w' := by
  have HM := Lib.hid (Am.new w h A l.length cap Ar r hV hT hR)
  have HXs := Lib.hid (fun w1 (hb : Below w.heap.size w w1) => XsAt.next hX hb)
  have HV := Lib.hid hL
  have HL := fun w1 (hb : Below w.heap.size w w1) => large_any h l w1 A cap (XsAt.next hX hb)
  have HC := fun w1 hr => refRowCheck_any Ar rc r w1 hr hfine hrl
  clear hX hR hV hT hL
  cases hla : largeB (.mk h l)
  · rw [hla] at HL
    have HL := Lib.hid HL
    obtain ⟨hsm, hcn⟩ := large_no hla
    cases hok : okR r
    · rw [hok] at HC
      have HC := Lib.hid HC
      clear hla hok hsm hcn
      go_enter Tryd.func3, Tryd.ntmps3
      go_upto_region 1 with fail
      generalize w.alloc (.cells #[.int .i64 h.k, .int .i64 h.n, .int .i64 h.vk, .int .i64 h.vn, .string h.vs, .string h.tab, .string h.col, .slice A l.length cap] 26) = W at HM ⊢
      obtain ⟨⟨x0, x1, x2, x3, x4, x5, x6, x7⟩, _⟩ := cell8 HM.out.x
      go_wp2_with fail
      refine (HL.out _ HM.out.bel).mono ?_
      rintro e W ⟨rfl, hb⟩
      have HM := Lib.hid (HM.out.next hb)
      clear hb x0 x1 x2 x3 x4 x5 x6 x7
      obtain ⟨⟨x0, x1, x2, x3, x4, x5, x6, x7⟩, _⟩ := cell8 HM.out.x
      go_wp2_with fail
      refine (HC.out _ HM.out.row).mono ?_
      rintro e W ⟨rfl, hb⟩
      have HM := Lib.hid (HM.out.next hb)
      clear hb x0 x1 x2 x3 x4 x5 x6 x7
      obtain ⟨⟨x0, x1, x2, x3, x4, x5, x6, x7⟩, _⟩ := cell8 HM.out.x
      go_wp2_with fail
      refine (HV.out _ HM.out.bel).mono ?_
      rintro e W ⟨rfl, hb⟩
      have HM := Lib.hid (HM.out.next hb)
      clear hb x0 x1 x2 x3 x4 x5 x6 x7
      obtain ⟨⟨x0, x1, x2, x3, x4, x5, x6, x7⟩, _⟩ := cell8 HM.out.x
      go_wp2_with fail
      go_ret
      exact ⟨rfl, HM.out.bel⟩
    · rw [hok] at HC
      have HC := Lib.hid HC
      obtain ⟨hor, _⟩ := okR_all hok
      have HE := fun w1 hx hr hv ht => eval_any r Ar rc hrl hfine h l A cap w1 hx hcap hsm (by omega) hr hv ht
      have HH := fun w1 hx hr hv ht => holds_any r Ar rc hrl hfine h l A cap w1 hx hcap hsm (by omega) hr hv ht
      have HS := fun w1 hx ht => errs_any h l A cap w1 hx hcap hsm (by omega) ht
      obtain ⟨K, N, S2, F, hev, hs2, hF, hsF⟩ := ev2_form hor (.mk h l)
      obtain ⟨B, G, hho, hsG⟩ := ho2_form r (.mk h l)
      rw [hev] at HE
      rw [hho] at HH
      generalize safeB (.mk h l) = sb at HS hsF hsG
      have HE := Lib.hid HE
      have HH := Lib.hid HH
      have HCk := fun w => refCheck_any K N S2 w hs2
      clear hla hok hsm hcn hor hev hho
      by_cases hF0 : F = 0
      · subst hF0
        rw [hF rfl] at HCk
        have HCk := Lib.hid HCk
        clear hF hsF
        cases sb
        case' true => obtain rfl := hsG rfl
        all_goals
          have HS := Lib.hid HS
          clear hsG
          go_enter Tryd.func3, Tryd.ntmps3
          go_upto_region 1 with fail
          generalize w.alloc (.cells #[.int .i64 h.k, .int .i64 h.n, .int .i64 h.vk, .int .i64 h.vn, .string h.vs, .string h.tab, .string h.col, .slice A l.length cap] 26) = W at HM ⊢
          obtain ⟨⟨x0, x1, x2, x3, x4, x5, x6, x7⟩, _⟩ := cell8 HM.out.x
          go_wp2_with fail
          refine (HL.out _ HM.out.bel).mono ?_
          rintro e W ⟨rfl, hb⟩
          have HM := Lib.hid (HM.out.next hb)
          clear hb x0 x1 x2 x3 x4 x5 x6 x7
          obtain ⟨⟨x0, x1, x2, x3, x4, x5, x6, x7⟩, _⟩ := cell8 HM.out.x
          go_wp2_with fail
          refine (HC.out _ HM.out.row).mono ?_
          rintro e W ⟨rfl, hb⟩
          have HM := Lib.hid (HM.out.next hb)
          clear hb x0 x1 x2 x3 x4 x5 x6 x7
          obtain ⟨⟨x0, x1, x2, x3, x4, x5, x6, x7⟩, _⟩ := cell8 HM.out.x
          go_wp2_with fail
          refine (HE.out _ (HXs.out _ HM.out.bel) HM.out.row HM.out.tab HM.out.tabs).mono ?_
          rintro e W ⟨rfl, hb⟩
          have HM := Lib.hid (HM.out.next hb)
          clear hb x0 x1 x2 x3 x4 x5 x6 x7
          obtain ⟨⟨x0, x1, x2, x3, x4, x5, x6, x7⟩, _⟩ := cell8 HM.out.x
          have HM2 := Lib.hid (HM.out.next (ba W (vbox K N S2)))
          have HBx := Lib.hid (Bx.new W K N S2)
          clear x0 x1 x2 x3 x4 x5 x6 x7
          obtain ⟨⟨x0, x1, x2, x3, x4, x5, x6, x7⟩, _⟩ := cell8 HM2.out.x
          go_wp2_with fail
          clear HM
          have HM := HM2
          clear HM2
          generalize W.heap.size = ul at HBx ⊢
          refine (HH.out _ (HXs.out _ HM.out.bel) HM.out.row HM.out.tab HM.out.tabs).mono ?_
          rintro e W2 ⟨rfl, hb⟩
          have HBx := Lib.hid (HBx.out.kept hb)
          have HM := Lib.hid (HM.out.next hb)
          clear hb x0 x1 x2 x3 x4 x5 x6 x7
          go_wp2_with fail
          refine (HV.out _ HM.out.bel).mono ?_
          rintro e W3 ⟨rfl, hb⟩
          have HBx := Lib.hid (HBx.out.kept hb)
          have HM := Lib.hid (HM.out.next hb)
          clear hb
          obtain ⟨l0, l1, l2, _, _, _⟩ := HBx.out
          go_wp2_with fail
          refine (HCk.out _).mono ?_
          rintro e W4 ⟨rfl, hb⟩
          have HM := Lib.hid (HM.out.next hb)
          clear hb l0 l1 l2
          obtain ⟨⟨x0, x1, x2, x3, x4, x5, x6, x7⟩, _⟩ := cell8 HM.out.x
          go_wp2_with fail
          refine (HS.out _ (HXs.out _ HM.out.bel) HM.out.tabs).mono ?_
          rintro e W ⟨rfl, hb⟩
          have HM := Lib.hid (HM.out.next hb)
          clear hb x0 x1 x2 x3 x4 x5 x6 x7
          obtain ⟨⟨x0, x1, x2, x3, x4, x5, x6, x7⟩, _⟩ := cell8 HM.out.x
          go_wp2_with fail
          go_ret
          exact ⟨rfl, HM.out.bel⟩
      · have gF : (F != 0) = true := by simpa using hF0
        have gF2 : (F == 0) = false := by simpa using hF0
        obtain rfl : sb = false := by cases sb; · rfl
                                      · exact absurd (hsF rfl) hF0
        have HS := Lib.hid HS
        clear hF hsF hsG hF0 HCk
        go_enter Tryd.func3, Tryd.ntmps3
        go_upto_region 1 with fail
        generalize w.alloc (.cells #[.int .i64 h.k, .int .i64 h.n, .int .i64 h.vk, .int .i64 h.vn, .string h.vs, .string h.tab, .string h.col, .slice A l.length cap] 26) = W at HM ⊢
        obtain ⟨⟨x0, x1, x2, x3, x4, x5, x6, x7⟩, _⟩ := cell8 HM.out.x
        go_wp2_with fail
        refine (HL.out _ HM.out.bel).mono ?_
        rintro e W ⟨rfl, hb⟩
        have HM := Lib.hid (HM.out.next hb)
        clear hb x0 x1 x2 x3 x4 x5 x6 x7
        obtain ⟨⟨x0, x1, x2, x3, x4, x5, x6, x7⟩, _⟩ := cell8 HM.out.x
        go_wp2_with fail
        refine (HC.out _ HM.out.row).mono ?_
        rintro e W ⟨rfl, hb⟩
        have HM := Lib.hid (HM.out.next hb)
        clear hb x0 x1 x2 x3 x4 x5 x6 x7
        obtain ⟨⟨x0, x1, x2, x3, x4, x5, x6, x7⟩, _⟩ := cell8 HM.out.x
        go_wp2_with fail
        refine (HE.out _ (HXs.out _ HM.out.bel) HM.out.row HM.out.tab HM.out.tabs).mono ?_
        rintro e W ⟨rfl, hb⟩
        have HM := Lib.hid (HM.out.next hb)
        clear hb x0 x1 x2 x3 x4 x5 x6 x7
        obtain ⟨⟨x0, x1, x2, x3, x4, x5, x6, x7⟩, _⟩ := cell8 HM.out.x
        have HM2 := Lib.hid (HM.out.next (ba W (vbox K N S2)))
        clear x0 x1 x2 x3 x4 x5 x6 x7
        obtain ⟨⟨x0, x1, x2, x3, x4, x5, x6, x7⟩, _⟩ := cell8 HM2.out.x
        go_wp2_with fail
        clear HM
        have HM := HM2
        clear HM2
        refine (HH.out _ (HXs.out _ HM.out.bel) HM.out.row HM.out.tab HM.out.tabs).mono ?_
        rintro e W ⟨rfl, hb⟩
        have HM := Lib.hid (HM.out.next hb)
        clear hb x0 x1 x2 x3 x4 x5 x6 x7
        obtain ⟨⟨x0, x1, x2, x3, x4, x5, x6, x7⟩, _⟩ := cell8 HM.out.x
        go_wp2_with fail
        refine (HV.out _ HM.out.bel).mono ?_
        rintro e W ⟨rfl, hb⟩
        have HM := Lib.hid (HM.out.next hb)
        clear hb x0 x1 x2 x3 x4 x5 x6 x7
        obtain ⟨⟨x0, x1, x2, x3, x4, x5, x6, x7⟩, _⟩ := cell8 HM.out.x
        go_wp2_with fail
        refine (HS.out _ (HXs.out _ HM.out.bel) HM.out.tabs).mono ?_
        rintro e W ⟨rfl, hb⟩
        have HM := Lib.hid (HM.out.next hb)
        clear hb x0 x1 x2 x3 x4 x5 x6 x7
        obtain ⟨⟨x0, x1, x2, x3, x4, x5, x6, x7⟩, _⟩ := cell8 HM.out.x
        go_wp2_with fail
        go_ret
        exact ⟨rfl, HM.out.bel⟩
  · rw [hla] at HL
    have HL := Lib.hid HL
    clear hla HC
    go_enter Tryd.func3, Tryd.ntmps3
    go_upto_region 1 with fail
    generalize w.alloc (.cells #[.int .i64 h.k, .int .i64 h.n, .int .i64 h.vk, .int .i64 h.vn, .string h.vs, .string h.tab, .string h.col, .slice A l.length cap] 26) = W at HM ⊢
    obtain ⟨⟨x0, x1, x2, x3, x4, x5, x6, x7⟩, _⟩ := cell8 HM.out.x
    go_wp2_with fail
    refine (HL.out _ HM.out.bel).mono ?_
    rintro e W ⟨rfl, hb⟩
    have HM := Lib.hid (HM.out.next hb)
    clear hb x0 x1 x2 x3 x4 x5 x6 x7
    obtain ⟨⟨x0, x1, x2, x3, x4, x5, x6, x7⟩, _⟩ := cell8 HM.out.x
    go_wp2_with fail
    refine (HV.out _ HM.out.bel).mono ?_
    rintro e W ⟨rfl, hb⟩
    have HM := Lib.hid (HM.out.next hb)
    clear hb x0 x1 x2 x3 x4 x5 x6 x7
    obtain ⟨⟨x0, x1, x2, x3, x4, x5, x6, x7⟩, _⟩ := cell8 HM.out.x
    go_wp2_with fail
    go_ret
    exact ⟨rfl, HM.out.bel⟩
end Go.Proofs.YtpokpiphnggfpaaDoor
end
section
namespace Go.Proofs.YtpokpiphnggfpaaDoor
open Go.RowKit Go.Shelf
attribute [local go_sem] Oper.semAt_some

def nullP (v : Va) : Bool := v.k == 0
theorem isNull_p (v : Va) (w : World) (_ : v.s.size ≤ 9223372036854775807) {b : Bool} (h : nullP v = b) :
    Calls Tryd.prog 26 #[VV v.k v.n v.s] w fun e w' => e = .returned (.bool b) ∧ Below w.heap.size w w' := by
  rw [← h]; exact isNull_any v.k v.n v.s w
theorem isWrong_p (v : Va) (w : World) (hs : v.s.size ≤ 9223372036854775807) {b : Bool} (h : wrongA v = b) :
    Calls Tryd.prog 29 #[VV v.k v.n v.s] w fun e w' => e = .returned (.bool b) ∧ Below w.heap.size w w' := isWrong_any _ _ _ _ hs h
/-- The first place at which it is so, or none. -/
def IdxP (p : Va → Bool) (r : List Va) (w : World) (e : Ending) (w' : World) : Prop :=
  ∃ i : Int, e = .returned (.int .i64 i) ∧ Below w.heap.size w w' ∧ ((i = -1 ∧ r.any p = false) ∨ ∃ j : Nat, ∃ hj : j < r.length, i = j ∧ p r[j] = true ∧ (r.take j).any p = false)
set_option maxHeartbeats 1000000 in
theorem indexNull_any (A : Option Addr) (c : Nat) (r : List Va) (w : World) (h : RowAt w A r) (hf : Fine r) (hl : r.length ≤ 9223372036854775807) :
    Calls Tryd.prog 46 #[.slice A r.length c, .func (.func 26) #[] #[]] w (IdxP nullP r w) := by
  have eg := enters_of Tryd.func26 (by kernel_rfl) rfl
  unfold Enters at eg
  go_enter Tryd.func46, Tryd.ntmps46
  go_wp2_with fail
  go_loopw [8] (fun i wr => ∃ j : Nat, j ≤ r.length ∧ i = .int .i64 j ∧ Below w.heap.size w wr ∧ Hid ((r.take j).any nullP = false)) (fun i _ => r.length - (intOf i).toNat)
  case atStart => exact ⟨0, Nat.zero_le _, rfl, Below.refl _ _, Lib.hid (by simp)⟩
  case round =>
    obtain ⟨j, hj, rfl, hB, HN⟩ := hrel
    have hr := h.kept hB
    have HR := Lib.hid h
    clear h
    by_cases hlt : j < r.length
    · obtain ⟨b, off, rfl, hb, c0, c1, c2⟩ := hr.at hlt
      have hz := hf.at hlt
      have HS := Lib.hid (any_take_succ nullP r j hlt)
      obtain ⟨v, hv⟩ : ∃ v, r[j] = v := ⟨_, rfl⟩
      have HV := Lib.hid hv
      rw [hv] at c0 c1 c2 hz HS
      clear hr hv
      cases hbd : nullP v
      · have HD := Lib.hid hbd
        have HE := Lib.hid (show (r.take (j + 1)).any nullP = false by rw [HS.out, HN.out, hbd]; rfl)
        clear hbd
        go_wp2_with fail
        refine (isNull_p v _ hz HD.out).mono ?_
        rintro e w1 ⟨rfl, hb1⟩
        go_wp2_with fail
        go_roundw
        case rel => exact ⟨j + 1, by omega, by go_num, bt hB hb1, HE⟩
        case measure => simp [intOf]; omega
      · have HD := Lib.hid hbd
        clear hbd
        go_wp2_with fail
        refine (isNull_p v _ hz HD.out).mono ?_
        rintro e w1 ⟨rfl, hb1⟩
        go_wp2_with fail
        go_ret
        exact ⟨j, rfl, bt hB hb1, .inr ⟨j, hlt, rfl, by rw [HV.out]; exact HD.out, HN.out⟩⟩
    · have HE := Lib.hid (show r.any nullP = false by rw [← HN.out, List.take_of_length_le (by omega)])
      go_wp2_with fail
      go_ret
      exact ⟨-1, rfl, hB, .inl ⟨rfl, HE.out⟩⟩
set_option maxHeartbeats 1000000 in
theorem indexWrong_any (A : Option Addr) (c : Nat) (r : List Va) (w : World) (h : RowAt w A r) (hf : Fine r) (hl : r.length ≤ 9223372036854775807) :
    Calls Tryd.prog 46 #[.slice A r.length c, .func (.func 29) #[] #[]] w (IdxP wrongA r w) := by
  have eg := enters_of Tryd.func29 (by kernel_rfl) rfl
  unfold Enters at eg
  go_enter Tryd.func46, Tryd.ntmps46
  go_wp2_with fail
  go_loopw [8] (fun i wr => ∃ j : Nat, j ≤ r.length ∧ i = .int .i64 j ∧ Below w.heap.size w wr ∧ Hid ((r.take j).any wrongA = false)) (fun i _ => r.length - (intOf i).toNat)
  case atStart => exact ⟨0, Nat.zero_le _, rfl, Below.refl _ _, Lib.hid (by simp)⟩
  case round =>
    obtain ⟨j, hj, rfl, hB, HN⟩ := hrel
    have hr := h.kept hB
    have HR := Lib.hid h
    clear h
    by_cases hlt : j < r.length
    · obtain ⟨b, off, rfl, hb, c0, c1, c2⟩ := hr.at hlt
      have hz := hf.at hlt
      have HS := Lib.hid (any_take_succ wrongA r j hlt)
      obtain ⟨v, hv⟩ : ∃ v, r[j] = v := ⟨_, rfl⟩
      have HV := Lib.hid hv
      rw [hv] at c0 c1 c2 hz HS
      clear hr hv
      cases hbd : wrongA v
      · have HD := Lib.hid hbd
        have HE := Lib.hid (show (r.take (j + 1)).any wrongA = false by rw [HS.out, HN.out, hbd]; rfl)
        clear hbd
        go_wp2_with fail
        refine (isWrong_p v _ hz HD.out).mono ?_
        rintro e w1 ⟨rfl, hb1⟩
        go_wp2_with fail
        go_roundw
        case rel => exact ⟨j + 1, by omega, by go_num, bt hB hb1, HE⟩
        case measure => simp [intOf]; omega
      · have HD := Lib.hid hbd
        clear hbd
        go_wp2_with fail
        refine (isWrong_p v _ hz HD.out).mono ?_
        rintro e w1 ⟨rfl, hb1⟩
        go_wp2_with fail
        go_ret
        exact ⟨j, rfl, bt hB hb1, .inr ⟨j, hlt, rfl, by rw [HV.out]; exact HD.out, HN.out⟩⟩
    · have HE := Lib.hid (show r.any wrongA = false by rw [← HN.out, List.take_of_length_le (by omega)])
      go_wp2_with fail
      go_ret
      exact ⟨-1, rfl, hB, .inl ⟨rfl, HE.out⟩⟩
set_option maxHeartbeats 1000000 in
theorem containsWrong_any (A : Option Addr) (c : Nat) (r : List Va) (w : World) (h : RowAt w A r) (hf : Fine r) (hl : r.length ≤ 9223372036854775807) :
    Calls Tryd.prog 28 #[.slice A r.length c, .func (.func 29) #[] #[]] w fun e w' => e = .returned (.bool (r.any wrongA)) ∧ Below w.heap.size w w' := by
  have HI := Lib.hid (indexWrong_any A c r w h hf hl)
  clear h hf
  go_enter Tryd.func28, Tryd.ntmps28
  go_wp2_with fail
  refine HI.out.mono ?_
  rintro e w1 ⟨i, rfl, hb1, hi⟩
  have HB := Lib.hid hb1
  rcases hi with ⟨rfl, ha⟩ | ⟨j, hj, rfl, hp, _⟩
  · have HA := Lib.hid ha
    clear hb1 ha
    go_wp2_with fail
    go_ret
    exact ⟨ret_bool (by rw [HA.out]), HB.out⟩
  · have HA := Lib.hid (show r.any wrongA = true from List.any_eq_true.2 ⟨_, List.getElem_mem hj, hp⟩)
    clear hb1 hp
    go_wp2_with fail
    go_ret
    exact ⟨ret_bool (by rw [HA.out]), HB.out⟩
set_option maxHeartbeats 4000000 in
theorem fold1_any (a b : Va) (w0 : World) (ha : a.s.size ≤ 9223372036854775807) (hb' : b.s.size ≤ 9223372036854775807) :
    Calls Tryd.prog 31 #[VV a.k a.n a.s, VV b.k b.n b.s] w0 fun e w' => e = .returned (rk2 (reckA sumI a b)) ∧ Below w0.heap.size w0 w' := by
  have HS := fun w => reckon_any 33 sumI (fun a b W h1 h2 => sum_any a b W h1 h2) (enters_of Tryd.func33 (by kernel_rfl) rfl) a b w ha hb'
  obtain ⟨k, n, s⟩ := a
  obtain ⟨k', n', s'⟩ := b
  have H3 := three w0 k n k' n' s s'
  have HA := Lib.hid H3.1
  have HB := Lib.hid H3.2.1
  have HR := Lib.hid H3.2.2.1
  have HW := Lib.hid H3.2.2.2
  obtain ⟨K, N, S2, E, hE⟩ := rk2_form (reckA sumI ⟨k, n, s⟩ ⟨k', n', s'⟩)
  rw [hE] at HS ⊢
  have HC := Lib.hid HS
  clear H3 ha hb' HS hE
  go_enter Tryd.func31, Tryd.ntmps31
  go_upto_region 1 with fail
  generalize ((w0.alloc (.cells #[.int .i64 k, .int .i64 n, .string s] 23)).alloc (.cells #[.int .i64 k', .int .i64 n', .string s'] 23)).alloc (.cells #[.int .i64 0, .int .i64 0, .string ⟨#[]⟩] 23) = W at HA HB HR HW ⊢
  obtain ⟨a0, a1, a2, _, _, _⟩ := HA.out
  obtain ⟨b0, b1, b2, _, _, _⟩ := HB.out
  go_wp2_with fail
  refine (HC.out _).mono ?_
  rintro e W ⟨rfl, hb⟩
  have HW := Lib.hid (bt HW.out hb)
  have HR := Lib.hid (HR.out.kept hb)
  clear hb
  obtain ⟨r0, r1, r2, f0, f1, f2⟩ := HR.out
  go_wp2_with fail
  exact bodyPost_ret (v := .tuple #[VV K N S2, .int .i64 E]) (by simp [results, Tryd.results31, go_sem, r0, r1, r2]) rfl ⟨rfl, below_set3 HW.out (by omega)⟩
end Go.Proofs.YtpokpiphnggfpaaDoor
end
section
namespace Go.Proofs.YtpokpiphnggfpaaDoor
open Go.RowKit Go.Shelf
attribute [local go_sem] Oper.semAt_some

theorem Bx.put {W : World} {u : Nat} {k n k' n' : Int} {s s' : ByteArray} (h : Bx W u k n s) : Bx (((W.setCell ⟨u, 0, none⟩ (.int .i64 k')).setCell ⟨u, 1, none⟩ (.int .i64 n')).setCell ⟨u, 2, none⟩ (.string s')) u k' n' s' := by
  obtain ⟨c0, c1, c2, f0, f1, f2⟩ := h
  refine ⟨?_, ?_, ?_, ?_, ?_, ?_⟩
  all_goals simp [go_sem, c0, c1, c2, f0, f1, f2]
theorem Bx.other {W : World} {u m : Nat} {k n k' n' : Int} {s s' : ByteArray} (h : Bx W u k n s) (hm : u ≠ m) : Bx (((W.setCell ⟨m, 0, none⟩ (.int .i64 k')).setCell ⟨m, 1, none⟩ (.int .i64 n')).setCell ⟨m, 2, none⟩ (.string s')) u k n s := by
  have e : (((W.setCell ⟨m, 0, none⟩ (.int .i64 k')).setCell ⟨m, 1, none⟩ (.int .i64 n')).setCell ⟨m, 2, none⟩ (.string s')).heap[u]? = W.heap[u]? := by rw [setc_other hm, setc_other hm, setc_other hm]
  have c : ∀ o, (((W.setCell ⟨m, 0, none⟩ (.int .i64 k')).setCell ⟨m, 1, none⟩ (.int .i64 n')).setCell ⟨m, 2, none⟩ (.string s')).cell? ⟨u, o, none⟩ = W.cell? ⟨u, o, none⟩ := fun o => World.cell?_of_block e
  have f : ∀ o, (((W.setCell ⟨m, 0, none⟩ (.int .i64 k')).setCell ⟨m, 1, none⟩ (.int .i64 n')).setCell ⟨m, 2, none⟩ (.string s')).frozen? ⟨u, o, none⟩ = W.frozen? ⟨u, o, none⟩ := fun o => by simp only [World.frozen?, e]
  exact ⟨(c 0).trans h.c0, (c 1).trans h.c1, (c 2).trans h.c2, (f 0).trans h.f0, (f 1).trans h.f1, (f 2).trans h.f2⟩
set_option maxRecDepth 100000 in
set_option maxHeartbeats 4000000 in
theorem fold_two (a b v : Va) (A : Option Addr) (cap : Nat) (w0 : World) (hR : RowAt w0 A [a, b]) (hcap : 2 ≤ cap) (ha : a.s.size ≤ 9223372036854775807) (hb : b.s.size ≤ 9223372036854775807) (hv : reckA sumI a b = some v) :
    Calls Tryd.prog 30 #[.slice A 2 cap, .func (.func 31) #[] #[]] w0 fun e w' => e = .returned (.tuple #[VV v.k v.n v.s, .int .i64 0]) ∧ Below w0.heap.size w0 w' := by
  have eg := enters_of Tryd.func31 (by kernel_rfl) rfl
  unfold Enters at eg
  have HC := fun w => fold1_any a b w ha hb
  rw [hv] at HC
  have HC := Lib.hid (show ∀ w, Calls Tryd.prog 31 #[VV a.k a.n a.s, VV b.k b.n b.s] w fun e w' => e = .returned (.tuple #[VV v.k v.n v.s, .int .i64 0]) ∧ Below w.heap.size w w' from HC)
  obtain ⟨g, off, rfl, hg, a0, a1, a2⟩ := hR.at (i := 0) (by simp)
  obtain ⟨g', off', hA, _, b0, b1, b2⟩ := hR.at (i := 1) (by simp)
  simp only [Option.some.injEq, Addr.mk.injEq] at hA
  obtain ⟨rfl, rfl, _⟩ := hA
  simp only [List.getElem_cons_zero, List.getElem_cons_succ, Nat.zero_mul, Nat.add_zero, Nat.one_mul] at a0 a1 a2 b0 b1 b2
  have HA := Lib.hid (And.intro a0 (And.intro a1 a2))
  have HB := Lib.hid (And.intro b0 (And.intro b1 b2))
  have HG := Lib.hid hg
  have HR := Lib.hid (Bx.new w0 0 0 ⟨#[]⟩)
  have HW := Lib.hid (ba w0 (vbox 0 0 ⟨#[]⟩))
  have HS := Lib.hid (show (w0.alloc (vbox 0 0 ⟨#[]⟩)).heap.size = w0.heap.size + 1 by simp)
  obtain ⟨ak, an, at1⟩ := a
  obtain ⟨bk, bn, bt1⟩ := b
  obtain ⟨k, n, s⟩ := v
  simp only at HA HB HC ⊢
  clear hR hv a0 a1 a2 b0 b1 b2 ha hb hg
  have kp : ∀ (W : World), Below w0.heap.size w0 W → ∀ o, W.cell? ⟨g, o, none⟩ = w0.cell? ⟨g, o, none⟩ := fun W h o => h.cell (p := ⟨g, o, none⟩) HG.out
  have HK := Lib.hid kp
  clear kp
  go_enter Tryd.func30, Tryd.ntmps30
  go_upto_region 1 with fail
  generalize w0.alloc (.cells #[.int .i64 0, .int .i64 0, .string ⟨#[]⟩] 23) = W at HR HW HS ⊢
  have a0 := (HK.out W HW.out off).trans HA.out.1
  have a1 := (HK.out W HW.out (off + 1)).trans HA.out.2.1
  have a2 := (HK.out W HW.out (off + 2)).trans HA.out.2.2
  have HR2 := Lib.hid (HR.out.kept (ba W (vbox ak an at1)))
  have HM := Lib.hid (show Bx (W.alloc (vbox ak an at1)) (w0.heap.size + 1) ak an at1 by rw [← HS.out]; exact Bx.new W ak an at1)
  have HW2 := Lib.hid (bt HW.out (ba W (vbox ak an at1)))
  go_wp2_with fail
  clear HR HW
  generalize W.alloc _ = W1 at HR2 HM HW2 ⊢
  obtain ⟨M, hM⟩ : ∃ M, W.heap.size = M := ⟨_, rfl⟩
  have HMs := Lib.hid (show M = w0.heap.size + 1 by rw [← hM]; exact HS.out)
  rw [← HMs.out] at HM
  rw [hM]
  clear hM a0 a1 a2 HS
  go_loopw [21] (fun i wr => ∃ j : Int, (j = 0 ∨ j = 1) ∧ i = .int .i64 j ∧ Hid (Below w0.heap.size w0 wr) ∧ Hid (Bx wr w0.heap.size 0 0 ⟨#[]⟩) ∧ Hid (j = 0 → Bx wr M ak an at1) ∧ Hid (j = 1 → Bx wr M k n s)) (fun i _ => 2 - (intOf i).toNat)
  case atStart => exact ⟨0, .inl rfl, rfl, HW2, HR2, Lib.hid (fun _ => HM.out), Lib.hid (fun h => absurd h (by decide))⟩
  case round =>
    obtain ⟨j, hj, rfl, HW, HR, H0, H1⟩ := hrel
    clear HW2 HR2 HM
    rcases hj with rfl | rfl
    · have HM := Lib.hid (H0.out rfl)
      clear H0 H1
      have b0 := (HK.out wr HW.out (off + 3)).trans HB.out.1
      have b1 := (HK.out wr HW.out (off + 3 + 1)).trans HB.out.2.1
      have b2 := (HK.out wr HW.out (off + 3 + 2)).trans HB.out.2.2
      have HM2 := Lib.hid (HM.out.kept (ba wr (vbox bk bn bt1)))
      have HR2 := Lib.hid (HR.out.kept (ba wr (vbox bk bn bt1)))
      have HW2 := Lib.hid (bt HW.out (ba wr (vbox bk bn bt1)))
      obtain ⟨m0, m1, m2, _, _, _⟩ := HM2.out
      go_wp2_with fail
      refine (HC.out _).mono ?_
      rintro e W2 ⟨rfl, hb⟩
      have HM3 := Lib.hid ((HM2.out.kept hb).kept (ba W2 (vbox k n s)))
      have HR3 := Lib.hid ((HR2.out.kept hb).kept (ba W2 (vbox k n s)))
      have HW3 := Lib.hid (bt (bt HW2.out hb) (ba W2 (vbox k n s)))
      clear hb m0 m1 m2 b0 b1 b2
      obtain ⟨m0, m1, m2, f0, f1, f2⟩ := HM3.out
      go_wp2_with fail
      refine ⟨⟨1, .inr rfl, rfl, Lib.hid (below_set3 HW3.out (by rw [HMs.out]; omega)), Lib.hid (HR3.out.other (by rw [HMs.out]; omega)), Lib.hid (fun h => absurd h (by decide)), Lib.hid (fun _ => HM3.out.put)⟩, by simp [intOf]⟩
    · have HM := Lib.hid (H1.out rfl)
      clear H0 H1
      obtain ⟨m0, m1, m2, _, _, _⟩ := HM.out
      obtain ⟨r0, r1, r2, f0, f1, f2⟩ := HR.out
      go_wp2_with fail
      exact bodyPost_ret (v := .tuple #[VV k n s, .int .i64 0]) (by simp [results, Tryd.results30, go_sem, r0, r1, r2]) rfl ⟨rfl, below_set3 HW.out (by omega)⟩
end Go.Proofs.YtpokpiphnggfpaaDoor
end
section
namespace Go.Proofs.YtpokpiphnggfpaaDoor
open Go.RowKit Go.Shelf
attribute [local go_sem] Oper.semAt_some

def rcells (l : List Va) : List Value := l.flatMap fun v => [.int .i64 v.k, .int .i64 v.n, .string v.s]
theorem rcells_len (l : List Va) : (rcells l).length = l.length * 3 := by
  induction l with
  | nil => rfl
  | cons v l ih => show ([_, _, _] ++ rcells l).length = _; rw [List.length_append, ih]; simp; omega
theorem rcells_one (l : List Va) : ∀ u ∈ rcells l, u.oneCell' = true := by
  intro u hu
  obtain ⟨v, _, hv⟩ := List.mem_flatMap.1 hu
  simp at hv
  rcases hv with rfl | rfl | rfl <;> rfl
theorem rcells_at : ∀ (l : List Va) (W : World) (g o : Nat), (∀ (i : Nat) (v : Va), l[i]? = some v → W.cell? ⟨g, o + i * 3, none⟩ = some (.int .i64 v.k) ∧ W.cell? ⟨g, o + i * 3 + 1, none⟩ = some (.int .i64 v.n) ∧ W.cell? ⟨g, o + i * 3 + 2, none⟩ = some (.string v.s)) →
    ∀ (j : Nat) (u : Value), (rcells l)[j]? = some u → W.cell? ⟨g, o + j, none⟩ = some u
  | [], _, _, _, _, j, u, hj => by simp [rcells] at hj
  | v :: l, W, g, o, h, j, u, hj => by
    have e : rcells (v :: l) = [.int .i64 v.k, .int .i64 v.n, .string v.s] ++ rcells l := rfl
    rw [e] at hj
    obtain ⟨h0, h1, h2⟩ := h 0 v rfl
    match j, hj with
    | 0, hj => obtain rfl := Option.some.inj hj; simpa using h0
    | 1, hj => obtain rfl := Option.some.inj hj; simpa using h1
    | 2, hj => obtain rfl := Option.some.inj hj; simpa using h2
    | j + 3, hj =>
      have := rcells_at l W g (o + 3) (fun i v hv => by
        have := h (i + 1) v (by simpa using hv)
        rw [show o + (i + 1) * 3 = o + 3 + i * 3 by omega] at this
        exact this) j u (by simpa using hj)
      rwa [show o + 3 + j = o + (j + 3) by omega] at this
theorem info_value : (Tryd.prog.info? 23).map (fun i => (i.zero, i.size, i.bytes)) = some (some (VV 0 0 ⟨#[]⟩), 3, 32) := by kernel_rfl
theorem info_valueP : ∃ i, Tryd.prog.info? 23 = some i ∧ i.zero = some (VV 0 0 ⟨#[]⟩) ∧ i.size = 3 ∧ i.bytes = 32 := by
  have h := info_value
  cases hi : Tryd.prog.info? 23 with
  | none => rw [hi] at h; cases h
  | some i => rw [hi] at h; simp at h; exact ⟨i, rfl, h.1, h.2.1, h.2.2⟩
theorem below_grownV {W w' : World} {base n size : Nat} {v : Value} {e : TypeId} {xs : List Value} (hown : W.ownsRow base e size v n xs) (hbase : base ≤ W.heap.size) (hg : W.grownBy w' v.ownBlock) : Below base W w' :=
  (Below.refl base W).grown hg hbase (fun k hk => by
    rcases hown.2 with ⟨rfl, _⟩ | ⟨g, cap, cur, rfl, hb, _⟩
    · simp [Value.ownBlock] at hk
    · simp [Value.ownBlock] at hk; omega)
theorem owns_emptyV (w : World) (T : TypeId) (size : Nat) : (w.alloc (.cells #[] T)).ownsRow w.heap.size T size (.slice (some ⟨w.heap.size, 0, none⟩) 0 0) 0 [] :=
  ⟨by simp, .inr ⟨w.heap.size, 0, #[], rfl, Nat.le_refl _, (MapKept.heap_alloc w _).1, Nat.le_refl _, Nat.zero_le _, by simp, by simp⟩⟩
set_option maxRecDepth 100000 in
set_option maxHeartbeats 2000000 in
theorem clone_any {w : World} {A : Option Addr} {c : Nat} {r : List Va} (h : RowAt w A r) (h1 : 1 ≤ r.length) (h2 : r.length ≤ 64) :
    Calls Tryd.prog 25 #[.slice A r.length c] w fun e w' => ∃ v, e = .returned v ∧ w'.ownsRow w.heap.size 23 3 v r.length (rcells r) ∧ Below w.heap.size w w' := by
  obtain ⟨b, off, rfl, hlt, hc⟩ : ∃ b off : Nat, A = some ⟨b, off, none⟩ ∧ b < w.heap.size ∧ ∀ (i : Nat) (v : Va), r[i]? = some v →
      w.cell? ⟨b, off + i * 3, none⟩ = some (.int .i64 v.k) ∧ w.cell? ⟨b, off + i * 3 + 1, none⟩ = some (.int .i64 v.n) ∧ w.cell? ⟨b, off + i * 3 + 2, none⟩ = some (.string v.s) := by
    rcases h with h | h
    · subst h; simp at h1
    · exact h
  have hcs := rcells_at r w b off hc
  obtain ⟨i0, hi, hz0, hz1, hz2⟩ := info_valueP
  have hq := fun w : World => Lib.run_eql_slice_nil (P := Tryd.prog) w 27 23 (some ⟨b, off, none⟩) r.length c 0 0 Tryd.underlying27
  have hb0 := ba w (.cells #[] 23)
  have HN := Lib.hid (show ∀ j u, (rcells r)[j]? = some u → (w.alloc (.cells #[] 23)).cell? ((⟨b, off, none⟩ : Addr).add j) = some u from fun j u hu => by
    have := (hb0.cell (p := ⟨b, off + j, none⟩) hlt).trans (hcs j u hu)
    by_cases h0 : j = 0
    · subst h0; simpa [Addr.add] using this
    · simpa [Addr.add, h0] using this)
  have HO := Lib.hid (rcells_one r)
  have HL := Lib.hid (rcells_len r)
  have HB := Lib.hid hb0
  have HW := Lib.hid (owns_emptyV w 23 3)
  obtain ⟨xs, hxs⟩ : ∃ xs, rcells r = xs := ⟨_, rfl⟩
  obtain ⟨n, hn⟩ : ∃ n, r.length = n := ⟨_, rfl⟩
  rw [hxs, hn] at HL
  rw [hxs] at HN HO ⊢
  rw [hn] at hq h1 h2 ⊢
  clear h hc hb0 hcs hn hxs
  go_enter Tryd.func25, Tryd.ntmps25
  go_wp2_with (at_builtin; refine wpList_append_own _ rfl _ _ 27 rfl w.heap.size 23 i0 _ 3 32 Tryd.underlying27 hi hz0 hz1 hz2 rfl (by decide) _ 0 [] rfl HW.out ⟨b, off, none⟩ n c xs rfl ?c0 HN.out HO.out ?c3 ?c4 ?c5 ?_)
  case c0 => rw [HL.out]
  case c3 => simp [maxLen]; omega
  case c4 => omega
  case c5 => simp
  intro v' w1 hown1 hgrow1 _
  have HB1 := Lib.hid (HB.out.trans (below_grownV HW.out (by simp) hgrow1))
  have HO1 := Lib.hid hown1
  clear hown1 hgrow1
  go_wp2_with fail
  go_ret
  refine ⟨_, rfl, ?_, HB1.out⟩
  simpa using HO1.out
end Go.Proofs.YtpokpiphnggfpaaDoor
end
section
namespace Go.Proofs.YtpokpiphnggfpaaDoor
open Go.RowKit Go.Shelf
attribute [local go_sem] Oper.semAt_some

/-- Three values in a block of one's own. -/
structure R3 (W : World) (g : Nat) (a b c : Va) : Prop where
  a0 : W.cell? ⟨g, 0, none⟩ = some (.int .i64 a.k)
  a1 : W.cell? ⟨g, 1, none⟩ = some (.int .i64 a.n)
  a2 : W.cell? ⟨g, 2, none⟩ = some (.string a.s)
  b0 : W.cell? ⟨g, 3, none⟩ = some (.int .i64 b.k)
  b1 : W.cell? ⟨g, 4, none⟩ = some (.int .i64 b.n)
  b2 : W.cell? ⟨g, 5, none⟩ = some (.string b.s)
  c0 : W.cell? ⟨g, 6, none⟩ = some (.int .i64 c.k)
  c1 : W.cell? ⟨g, 7, none⟩ = some (.int .i64 c.n)
  c2 : W.cell? ⟨g, 8, none⟩ = some (.string c.s)
  f : ∀ o, W.frozen? ⟨g, o, none⟩ = false
theorem R3.kept {W W' : World} {g : Nat} {a b c : Va} (h : R3 W g a b c) (hb : Below W.heap.size W W') : R3 W' g a b c :=
  have hl := ltV_of_cell h.a0
  ⟨cellV_kept hb h.a0, cellV_kept hb h.a1, cellV_kept hb h.a2, cellV_kept hb h.b0, cellV_kept hb h.b1, cellV_kept hb h.b2, cellV_kept hb h.c0, cellV_kept hb h.c1, cellV_kept hb h.c2, fun o => (hb.frozen (p := ⟨g, o, none⟩) hl).trans (h.f o)⟩
theorem R3.put {W : World} {g : Nat} {a b c : Va} (h : R3 W g a b c) (d : Va) : R3 (((W.setCell ⟨g, 3, none⟩ (.int .i64 d.k)).setCell ⟨g, 4, none⟩ (.int .i64 d.n)).setCell ⟨g, 5, none⟩ (.string d.s)) g a d c := by
  obtain ⟨a0, a1, a2, b0, b1, b2, c0, c1, c2, f⟩ := h
  refine ⟨?_, ?_, ?_, ?_, ?_, ?_, ?_, ?_, ?_, ?_⟩
  all_goals simp [go_sem, a0, a1, a2, b0, b1, b2, c0, c1, c2, f]
theorem R3.put2 {W : World} {g : Nat} {a b c : Va} (h : R3 W g a b c) (d : Va) : R3 (((W.setCell ⟨g, 6, none⟩ (.int .i64 d.k)).setCell ⟨g, 7, none⟩ (.int .i64 d.n)).setCell ⟨g, 8, none⟩ (.string d.s)) g a b d := by
  obtain ⟨a0, a1, a2, b0, b1, b2, c0, c1, c2, f⟩ := h
  refine ⟨?_, ?_, ?_, ?_, ?_, ?_, ?_, ?_, ?_, ?_⟩
  all_goals simp [go_sem, a0, a1, a2, b0, b1, b2, c0, c1, c2, f]
theorem R3.row {W : World} {g : Nat} {a b c : Va} (h : R3 W g a b c) : RowAt W (some ⟨g, 0, none⟩) [a, b, c] := by
  refine .inr ⟨g, 0, rfl, ltV_of_cell h.a0, fun i v hv => ?_⟩
  match i, hv with
  | 0, hv => obtain rfl := Option.some.inj hv; exact ⟨h.a0, h.a1, h.a2⟩
  | 1, hv => obtain rfl := Option.some.inj hv; exact ⟨h.b0, h.b1, h.b2⟩
  | 2, hv => obtain rfl := Option.some.inj hv; exact ⟨h.c0, h.c1, h.c2⟩
  | i + 3, hv => simp at hv
theorem R3.two {W : World} {g : Nat} {a b c : Va} (h : R3 W g a b c) : RowAt W (some ⟨g, 0, none⟩) [a, b] := by
  refine .inr ⟨g, 0, rfl, ltV_of_cell h.a0, fun i v hv => ?_⟩
  match i, hv with
  | 0, hv => obtain rfl := Option.some.inj hv; exact ⟨h.a0, h.a1, h.a2⟩
  | 1, hv => obtain rfl := Option.some.inj hv; exact ⟨h.b0, h.b1, h.b2⟩
  | i + 2, hv => simp at hv
theorem zeroV_run (w : World) : (zeroValue 23).run Tryd.prog w = .ok (VV 0 0 ⟨#[]⟩) w := by kernel_rfl
theorem clear_one {w : World} {g : Nat} {a b c : Va} (h : R3 w g a b c) (ty : TypeId) (cap : Nat) :
    (Builtin.clear_ #[27] ty #[.slice (some ⟨g, 6, none⟩) 1 cap]).run Tryd.prog w = .ok (.tuple #[]) (((w.setCell ⟨g, 6, none⟩ (.int .i64 0)).setCell ⟨g, 7, none⟩ (.int .i64 0)).setCell ⟨g, 8, none⟩ (.string ⟨#[]⟩)) := by
  have hzc : (Builtin.zeroCells (VV 0 0 ⟨#[]⟩).cells 1).toList = [.int .i64 0, .int .i64 0, .string ⟨#[]⟩] := by kernel_rfl
  have hst := run_storeCells_cells (P := Tryd.prog) g 6 [.int .i64 0, .int .i64 0, .string ⟨#[]⟩] 0 w
    (fun j hj => by
      have : j = 0 ∨ j = 1 ∨ j = 2 := by simp at hj; omega
      rcases this with rfl | rfl | rfl
      · rw [h.c0]; rfl
      · rw [h.c1]; rfl
      · rw [h.c2]; rfl)
    (fun j _ => h.f _)
    (by intro v hv; simp at hv; rcases hv with rfl | rfl | rfl <;> rfl)
  have e : w.setCells g (6 + 0) [.int .i64 0, .int .i64 0, .string ⟨#[]⟩] = ((w.setCell ⟨g, 6, none⟩ (.int .i64 0)).setCell ⟨g, 7, none⟩ (.int .i64 0)).setCell ⟨g, 8, none⟩ (.string ⟨#[]⟩) := rfl
  rw [e] at hst
  simp [Builtin.clear_, run_underlying Tryd.underlying27, hzc, hst]
theorem below_put {n u o : Nat} {w W : World} {x y z : Value} (h : Below n w W) (hu : n ≤ u) : Below n w (((W.setCell ⟨u, o, none⟩ x).setCell ⟨u, o + 1, none⟩ y).setCell ⟨u, o + 2, none⟩ z) :=
  ((h.setCell hu _).setCell hu _).setCell hu _
set_option maxRecDepth 100000 in
set_option maxHeartbeats 4000000 in
theorem delete_mid (a b : Va) (g cap : Nat) (w : World) (hcap : 3 ≤ cap) (ha : a.s.size ≤ 9223372036854775807) (hb : b.s.size ≤ 9223372036854775807) (hna : nullP a = false) (hnb : nullP b = false)
    (hR : R3 w g a nullA b) :
    Calls Tryd.prog 24 #[.slice (some ⟨g, 0, none⟩) 3 cap, .func (.func 26) #[] #[]] w fun e w' => e = .returned (.slice (some ⟨g, 0, none⟩) 2 cap) ∧ Below g w w' ∧ R3 w' g a b nullA := by
  have eg := enters_of Tryd.func26 (by kernel_rfl) rfl
  unfold Enters at eg
  have hfine : Fine [a, nullA, b] := by
    intro v hv
    simp only [List.mem_cons, List.mem_nil_iff, or_false] at hv
    rcases hv with rfl | rfl | rfl
    · exact ha
    · decide
    · exact hb
  have HI := Lib.hid (indexNull_any (some ⟨g, 0, none⟩) cap [a, nullA, b] w hR.row hfine (by simp))
  have HRw := Lib.hid hR
  have HN := Lib.hid (And.intro hna hnb)
  have HG := Lib.hid (show g ≤ w.heap.size from Nat.le_of_lt (ltV_of_cell hR.a0))
  have HC := Lib.hid (fun w => isNull_p b w hb hnb)
  clear hfine hR hna hnb
  go_enter Tryd.func24, Tryd.ntmps24
  go_wp2_with fail
  refine HI.out.mono ?_
  rintro e w1 ⟨i, rfl, hb1, hi⟩
  have hi1 : i = 1 := by
    rcases hi with ⟨_, h⟩ | ⟨j, hj, rfl, h1, h2⟩
    · exact absurd h (by simp [nullP, nullA])
    · have : j = 0 ∨ j = 1 ∨ j = 2 := by simp at hj; omega
      rcases this with rfl | rfl | rfl
      · exact absurd h1 (by simp [HN.out.1])
      · rfl
      · exact absurd h2 (by simp [nullP, nullA])
  subst hi1
  have HB := Lib.hid (hb1.mono HG.out)
  have HR1 := Lib.hid (HRw.out.kept hb1)
  clear hb1 hi HI HRw
  go_wp2_with fail
  go_loopw [5, 6] (fun i j wr => ∃ k : Int, (k = 2 ∨ k = 3) ∧ i = .int .i64 (k - 1) ∧ j = .int .i64 k ∧ Hid (Below g w wr) ∧ Hid (k = 2 → R3 wr g a nullA b) ∧ Hid (k = 3 → R3 wr g a b b)) (fun _ j _ => 3 - (intOf j).toNat)
  case atStart => exact ⟨2, .inl rfl, rfl, rfl, HB, Lib.hid (fun _ => HR1.out), Lib.hid (fun h => absurd h (by decide))⟩
  case round =>
    obtain ⟨k, hk, rfl, rfl, HW, H0, H1⟩ := hrel
    clear HB HR1
    rcases hk with rfl | rfl
    · have HR := Lib.hid (H0.out rfl)
      clear H0 H1
      obtain ⟨_, _, _, _, _, _, q0, q1, q2, _⟩ := HR.out
      have HM := Lib.hid (Bx.new wr b.k b.n b.s)
      have HR2 := Lib.hid (HR.out.kept (ba wr (vbox b.k b.n b.s)))
      have HW2 := Lib.hid (HW.out.trans ((ba wr (vbox b.k b.n b.s)).mono (Nat.le_of_lt (show g < wr.heap.size from ltV_of_cell HR.out.a0))))
      obtain ⟨m0, m1, m2, _, _, _⟩ := HM.out
      go_wp2_with fail
      refine (HC.out _).mono ?_
      rintro e w2 ⟨rfl, hb2⟩
      have HM3 := Lib.hid (HM.out.kept hb2)
      have HR3 := Lib.hid (HR2.out.kept hb2)
      have HW3 := Lib.hid (HW2.out.trans (hb2.mono (Nat.le_of_lt (show g < (wr.alloc (vbox b.k b.n b.s)).heap.size from ltV_of_cell HR2.out.a0))))
      clear hb2 m0 m1 m2 q0 q1 q2
      obtain ⟨m0, m1, m2, _, _, _⟩ := HM3.out
      obtain ⟨_, _, _, n0, n1, n2, _, _, _, f⟩ := HR3.out
      have f3 := f 3
      have f4 := f 4
      have f5 := f 5
      clear f
      go_wp2_with fail
      go_roundw
      case rel => exact ⟨3, .inr rfl, rfl, rfl, Lib.hid (below_put HW3.out (Nat.le_refl _)), Lib.hid (fun h => absurd h (by decide)), Lib.hid (fun _ => HR3.out.put b)⟩
      case measure => simp [intOf]
    · have HR := Lib.hid (H1.out rfl)
      clear H0 H1
      have hcl := fun ty => clear_one HR.out ty (cap - 2)
      go_wp2_with (simp only [hcl])
      go_ret
      exact ⟨rfl, below_put HW.out (Nat.le_refl _), HR.out.put2 nullA⟩
end Go.Proofs.YtpokpiphnggfpaaDoor
end
