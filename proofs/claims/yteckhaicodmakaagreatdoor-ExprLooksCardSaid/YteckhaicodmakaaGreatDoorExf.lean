/-
  The document's Depth and Safe.
-/
import Derived.Test.YteckhaicodmakaaGreatDoorExp
namespace Go.Proofs.YteckhaicodmakaaGreatDoor
open Go.RowKit Go.Shelf

/-- A part of an expression, in memory, found again. -/
theorem kid_at {W : World} {w : World} {l : List Ex} {A : Option Addr} {j : Nat} (hX : XsAt w.heap.size w l A) (hb : Below w.heap.size w W) (hj : j < l.length) :
    ∃ h' l' g o A' cap', l[j]? = some (.mk h' l') ∧ A = some ⟨g, o, none⟩ ∧ g < W.heap.size ∧ XC W g (o + j * 8) h' A' l'.length cap' ∧ l'.length ≤ cap' ∧ XsAt W.heap.size W l' A' := by
  obtain ⟨x, hx⟩ : ∃ x, l[j]? = some x := ⟨_, List.getElem?_eq_getElem hj⟩
  obtain ⟨h', l'⟩ := x
  obtain ⟨g, o, A', cap', e, hg, hc, hl, hx2⟩ := hX.at hx
  exact ⟨h', l', g, o, A', cap', hx, e, Nat.lt_of_lt_of_le hg hb.size, hc.of (hb.block g hg), hl, XsAt.next hx2 hb⟩
set_option maxHeartbeats 4000000 in
theorem refDepth_n : ∀ (N : Nat) (h : Hd) (l : List Ex), cnt (.mk h l) ≤ N → N ≤ 1000000 → ∀ (w : World) (A : Option Addr) (cap : Nat), XsAt w.heap.size w l A →
    Calls Tryz.prog 15 #[XV h A l.length cap] w fun e w' => e = .returned (.int .i64 (depX (.mk h l))) ∧ Below w.heap.size w w' := by
  intro N
  induction N with
  | zero => intro h l hc; have := cnt_pos (.mk h l); omega
  | succ N ih =>
    intro h l hc hN w A cap hX
    rw [cnt_mk] at hc
    have hlen := cntL_len l
    have hba := ba w (xbox h A l.length cap)
    have HX0 := Lib.hid (MapKept.heap_alloc w (xbox h A l.length cap)).1
    have HBa := Lib.hid hba
    have HXl := Lib.hid hX
    have HI := Lib.hid (show ∀ (h' : Hd) (l' : List Ex), cnt (.mk h' l') ≤ N → ∀ (w1 : World) (A' : Option Addr) (cap' : Nat), XsAt w1.heap.size w1 l' A' →
        Calls Tryz.prog 15 #[XV h' A' l'.length cap'] w1 fun e w' => e = .returned (.int .i64 (depX (.mk h' l'))) ∧ Below w1.heap.size w1 w' from fun h' l' hc' w1 A' cap' hx => ih h' l' hc' (by omega) w1 A' cap' hx)
    have HD := Lib.hid (show depX (.mk h l) = depXs l + 1 by rw [depX])
    have hl6 : l.length ≤ 1000000 := by omega
    have hdl := depXs_le l
    clear hX ih hba
    go_enter Tryz.func15, Tryz.ntmps15
    go_wp2_with fail
    go_loopw [4, 3] (fun i v W => ∃ j : Nat, j ≤ l.length ∧ i = .int .i64 j ∧ Hid (Below (w.alloc (xbox h A l.length cap)).heap.size (w.alloc (xbox h A l.length cap)) W) ∧ v = .int .i64 (depXs (l.take j))) (fun i _ _ => l.length - (intOf i).toNat)
    case atStart => exact ⟨0, Nat.zero_le _, rfl, Lib.hid (Below.refl _ _), by simp [depXs]⟩
    case round =>
      obtain ⟨j, hj, rfl, HW, rfl⟩ := hrel
      obtain ⟨⟨_, _, _, _, _, _, _, p7⟩, _⟩ := cell8 ((HW.out.block w.heap.size (by rw [World.size_alloc]; omega)).trans HX0.out)
      have hbw := bt HBa.out HW.out
      by_cases hkl : j < l.length
      · obtain ⟨h', l', g, o, A', cap', hx, rfl, hg, ⟨a0, a1, a2, a3, a4, a5, a6, a7⟩, hle, hx2⟩ := kid_at HXl.out hbw hkl
        have hcm := cntL_mem hx
        have HT := Lib.hid (depXs_take hx)
        have HC := Lib.hid (HI.out h' l' (by omega) wr A' cap' hx2)
        have hdx := depX_le (.mk h' l')
        have hdt := depXs_le (l.take j)
        have hct := cntL_take_le l j
        have HBw := Lib.hid hbw
        clear hx hx2 hbw
        obtain ⟨m, hm⟩ : ∃ m, depX (.mk h' l') = m := ⟨_, rfl⟩
        obtain ⟨t, ht⟩ : ∃ t, depXs (l.take j) = t := ⟨_, rfl⟩
        rw [hm] at HC HT hdx
        rw [ht] at HT hdt ⊢
        have HM := Lib.hid hm
        clear hm ht
        by_cases hmt : t < m
        · have hmt' : (t : Int) < (m : Int) := by omega
          go_wp2_with fail
          refine HC.out.mono ?_
          rintro e w3 ⟨rfl, hb⟩
          have HB3 := Lib.hid (HW.out.trans (hb.mono HW.out.size))
          clear hb
          go_wp2_with fail
          go_roundw
          case rel => first | exact ⟨j + 1, by omega, by go_num, HB3, by rw [HT.out, show max t m = m by omega]⟩ | ((repeat apply Exists.intro); exact ⟨⟨j + 1, by omega, by go_num, HB3, by rw [HT.out, show max t m = m by omega]⟩, rfl⟩)
          case measure => simp [intOf]; omega
        · have hmt' : ¬ (t : Int) < (m : Int) := by omega
          go_wp2_with fail
          refine HC.out.mono ?_
          rintro e w3 ⟨rfl, hb⟩
          have HB3 := Lib.hid (HW.out.trans (hb.mono HW.out.size))
          clear hb
          go_wp2_with fail
          go_roundw
          case rel => first | exact ⟨j + 1, by omega, by go_num, HB3, by rw [HT.out, show max t m = t by omega]⟩ | ((repeat apply Exists.intro); exact ⟨⟨j + 1, by omega, by go_num, HB3, by rw [HT.out, show max t m = t by omega]⟩, rfl⟩)
          case measure => simp [intOf]; omega
      · have hkk : j = l.length := by omega
        have HE := Lib.hid (show l.take j = l by rw [hkk, List.take_length])
        rw [HE.out]
        have HBw := Lib.hid hbw
        clear hbw hkk
        obtain ⟨t, ht⟩ : ∃ t, depXs l = t := ⟨_, rfl⟩
        rw [ht] at HD hdl ⊢
        clear ht
        go_wp2_with fail
        go_ret
        exact ⟨ret_i (by rw [HD.out]; push_cast; rfl), HBw.out⟩
theorem refDepth_any (h : Hd) (l : List Ex) (w : World) (A : Option Addr) (cap : Nat) (hc : cnt (.mk h l) ≤ 1000000) (hX : XsAt w.heap.size w l A) :
    Calls Tryz.prog 15 #[XV h A l.length cap] w fun e w' => e = .returned (.int .i64 (depX (.mk h l))) ∧ Below w.heap.size w w' :=
  refDepth_n _ h l hc (Nat.le_refl _) w A cap hX
set_option maxHeartbeats 4000000 in
theorem refSafe_n : ∀ (N : Nat) (h : Hd) (l : List Ex), cnt (.mk h l) ≤ N → N ≤ 1000000 → ∀ (w : World) (A : Option Addr) (cap : Nat), XsAt w.heap.size w l A →
    Calls Tryz.prog 35 #[XV h A l.length cap] w fun e w' => e = .returned (.bool (!errsX (.mk h l))) ∧ Below w.heap.size w w' := by
  intro N
  induction N with
  | zero => intro h l hc; have := cnt_pos (.mk h l); omega
  | succ N ih =>
    intro h l hc hN w A cap hX
    rw [cnt_mk] at hc
    have hlen := cntL_len l
    have hba := ba w (xbox h A l.length cap)
    have HX0 := Lib.hid (MapKept.heap_alloc w (xbox h A l.length cap)).1
    have HBa := Lib.hid hba
    have HXl := Lib.hid hX
    have HI := Lib.hid (show ∀ (h' : Hd) (l' : List Ex), cnt (.mk h' l') ≤ N → ∀ (w1 : World) (A' : Option Addr) (cap' : Nat), XsAt w1.heap.size w1 l' A' →
        Calls Tryz.prog 35 #[XV h' A' l'.length cap'] w1 fun e w' => e = .returned (.bool (!errsX (.mk h' l'))) ∧ Below w1.heap.size w1 w' from fun h' l' hc' w1 A' cap' hx => ih h' l' hc' (by omega) w1 A' cap' hx)
    have HD := Lib.hid (show errsX (.mk h l) = (errB h || errsXs l) by rw [errsX])
    have hl6 : l.length ≤ 1000000 := by omega
    clear hX ih hba
    obtain ⟨k, n, vk, vn, vs, tab, col⟩ := h
    obtain ⟨W0, hW0⟩ : ∃ W0, w.alloc (xbox ⟨k, n, vk, vn, vs, tab, col⟩ A l.length cap) = W0 := ⟨_, rfl⟩
    have HW0 := Lib.hid hW0
    have hsz0 : W0.heap.size = w.heap.size + 1 := by rw [← hW0, World.size_alloc]
    clear hW0
    have HEr := Lib.hid (show errB ⟨k, n, vk, vn, vs, tab, col⟩ = (k == 4 || (k == 3 && (decide (10 ≤ n) && decide (n ≤ 15)))) from rfl)
    by_cases herr : errB ⟨k, n, vk, vn, vs, tab, col⟩ = true
    · have hcs : k = 4 ∨ (¬ k = 4 ∧ k = 3 ∧ 10 ≤ n ∧ n ≤ 15) := by
        rw [HEr.out] at herr
        simp at herr
        rcases herr with h | h
        · exact .inl h
        · exact .inr ⟨by omega, h⟩
      have HR := Lib.hid herr
      clear herr
      rcases hcs with rfl | ⟨h4, rfl, h10, h15⟩
      all_goals
        go_enter Tryz.func35, Tryz.ntmps35
        go_wp2_with fail
        go_ret
        exact ⟨ret_bool (by rw [HD.out, HR.out]; rfl), HBa.out⟩
    · have hcs : (¬ k = 4 ∧ ¬ k = 3) ∨ (¬ k = 4 ∧ k = 3 ∧ ¬ 10 ≤ n) ∨ (¬ k = 4 ∧ k = 3 ∧ 10 ≤ n ∧ ¬ n ≤ 15) := by
        rw [HEr.out] at herr
        simp at herr
        omega
      have HR := Lib.hid (show errB ⟨k, n, vk, vn, vs, tab, col⟩ = false by simpa using herr)
      clear herr
      rcases hcs with ⟨h4, h3⟩ | ⟨h4, rfl, h10⟩ | ⟨h4, rfl, h10, h15⟩
      case' inl => have h3b : (k == 3) = false := by simpa using h3
      case' inl => have h4b : (k == 4) = false := by simpa using h4
      all_goals
        go_enter Tryz.func35, Tryz.ntmps35
        go_wp2_with fail
        go_loopw [3] (fun i W => ∃ j : Nat, j ≤ l.length ∧ i = .int .i64 j ∧ Hid (Below W0.heap.size W0 W) ∧ Hid (errsXs (l.take j) = false)) (fun i _ => l.length - (intOf i).toNat)
        case atStart => exact ⟨0, Nat.zero_le _, rfl, Lib.hid (by rw [HW0.out]; exact Below.refl _ _), Lib.hid (by simp [errsXs])⟩
        case round =>
          obtain ⟨j, hj, rfl, HW, HS⟩ := hrel
          obtain ⟨⟨_, _, _, _, _, _, _, p7⟩, _⟩ := cell8 ((HW.out.block w.heap.size (by omega)).trans (by rw [← HW0.out]; exact HX0.out))
          have hbw := bt HBa.out (by rw [HW0.out]; exact HW.out)
          by_cases hkl : j < l.length
          · obtain ⟨h', l', g, o, A', cap', hx, rfl, hg, ⟨a0, a1, a2, a3, a4, a5, a6, a7⟩, hle, hx2⟩ := kid_at HXl.out hbw hkl
            have hcm := cntL_mem hx
            have HT := Lib.hid (errsXs_take hx)
            have HC := Lib.hid (HI.out h' l' (by omega) wr A' cap' hx2)
            have HYes := Lib.hid (fun e => errsXs_yes (l := l) (k := j + 1) e)
            have HBw := Lib.hid hbw
            clear hx hx2 hbw
            obtain ⟨m, hm⟩ : ∃ m, errsX (.mk h' l') = m := ⟨_, rfl⟩
            rw [hm] at HC HT
            clear hm
            cases m
            · go_wp2_with fail
              refine HC.out.mono ?_
              rintro e w3 ⟨rfl, hb⟩
              have HB3 := Lib.hid (HW.out.trans (hb.mono HW.out.size))
              clear hb
              go_wp2_with fail
              go_roundw
              case rel => first | exact ⟨j + 1, by omega, by go_num, HB3, Lib.hid (by rw [HT.out, HS.out]; rfl)⟩ | ((repeat apply Exists.intro); exact ⟨⟨j + 1, by omega, by go_num, HB3, Lib.hid (by rw [HT.out, HS.out]; rfl)⟩, rfl⟩)
              case measure => simp [intOf]; omega
            · go_wp2_with fail
              refine HC.out.mono ?_
              rintro e w3 ⟨rfl, hb⟩
              have HB3 := Lib.hid (bt HBw.out hb)
              clear hb
              go_wp2_with fail
              go_ret
              exact ⟨ret_bool (by rw [HD.out, HYes.out (by rw [HT.out, Bool.or_true])]; simp), HB3.out⟩
          · have hkk : j = l.length := by omega
            have HE := Lib.hid (show errsXs l = false by have := HS.out; rwa [hkk, List.take_length] at this)
            have HBw := Lib.hid hbw
            clear hbw hkk
            go_wp2_with fail
            go_ret
            exact ⟨ret_bool (by rw [HD.out, HR.out, HE.out]; rfl), HBw.out⟩
theorem refSafe_any (h : Hd) (l : List Ex) (w : World) (A : Option Addr) (cap : Nat) (hc : cnt (.mk h l) ≤ 1000000) (hX : XsAt w.heap.size w l A) :
    Calls Tryz.prog 35 #[XV h A l.length cap] w fun e w' => e = .returned (.bool (!errsX (.mk h l))) ∧ Below w.heap.size w w' :=
  refSafe_n _ h l hc (Nat.le_refl _) w A cap hX
end Go.Proofs.YteckhaicodmakaaGreatDoor
