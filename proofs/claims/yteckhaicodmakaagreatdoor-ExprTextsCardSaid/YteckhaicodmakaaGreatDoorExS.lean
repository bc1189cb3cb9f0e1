/-
  The law's own plain: an expression whose columns have no places.
-/
import Derived.Test.YteckhaicodmakaaGreatDoorExq
import Derived.Test.YteckhaicodmakaaGreatDoorEx4
import Derived.Maps.AppendAt
namespace Go.Proofs.YteckhaicodmakaaGreatDoor
open Go.RowKit Go.Shelf

theorem plnXs_len : ∀ l : List Ex, (plnXs l).length = l.length
  | [] => by rw [plnXs]
  | x :: r => by rw [plnXs, List.length_cons, List.length_cons, plnXs_len r]
theorem plnXs_take : ∀ (l : List Ex) (k : Nat) (x : Ex), l[k]? = some x → plnXs (l.take (k + 1)) = plnXs (l.take k) ++ [plnX x]
  | [], k, x, h => by simp at h
  | y :: r, 0, x, h => by
    obtain rfl : y = x := by simpa using h
    simp [plnXs]
  | y :: r, k + 1, x, h => by
    rw [List.take_succ_cons, List.take_succ_cons, plnXs, plnXs, plnXs_take r k x (by simpa using h), List.cons_append]
theorem Xown.weak {base base' : Nat} {W0 W1 W : World} {v : Value} {l : List Ex} (h : Xown base W1 W v l) (hb : Below base' W0 W1) (hle : base' ≤ base) : Below base' W0 W := hb.trans (h.bel.mono hle)
set_option maxRecDepth 100000 in
set_option maxHeartbeats 8000000 in
theorem plain_n : ∀ (N : Nat) (h : Hd) (l : List Ex), cnt (.mk h l) ≤ N → N ≤ 1000000 → ∀ (w : World) (A : Option Addr) (cap : Nat), XsAt w.heap.size w l A → l.length ≤ cap →
    Calls Tryz.prog 36 #[XV h A l.length cap] w (CopyE w (plnX (.mk h l))) := by
  intro N
  induction N with
  | zero => intro h l hc; have := cnt_pos (.mk h l); omega
  | succ N ih =>
    intro h l hc hN w A cap hX hcap
    rw [cnt_mk] at hc
    obtain ⟨i0, hi, hz0, hz1, hz2⟩ := infoE_parts info_expr
    have hlen := cntL_len l
    have hba := ba w (xbox h A l.length cap)
    have hba2 := ba (w.alloc (xbox h A l.length cap)) x0
    have HX1 := Lib.hid ((hba2.block w.heap.size (by simp)).trans (MapKept.heap_alloc w (xbox h A l.length cap)).1)
    have HX2 := Lib.hid (show ((w.alloc (xbox h A l.length cap)).alloc x0).heap[w.heap.size + 1]? = some x0 by
      have := (MapKept.heap_alloc (w.alloc (xbox h A l.length cap)) x0).1
      rwa [World.size_alloc] at this)
    have HB := Lib.hid (bt hba hba2)
    have HXl := Lib.hid hX
    have HI := Lib.hid (show ∀ (h' : Hd) (l' : List Ex), cnt (.mk h' l') ≤ N → ∀ (w1 : World) (A' : Option Addr) (cap' : Nat), XsAt w1.heap.size w1 l' A' → l'.length ≤ cap' →
        Calls Tryz.prog 36 #[XV h' A' l'.length cap'] w1 (CopyE w1 (plnX (.mk h' l'))) from fun h' l' hc' w1 A' cap' hx hl => ih h' l' hc' (by omega) w1 A' cap' hx hl)
    clear hX ih hba hba2
    have HP := Lib.hid (show plnX (.mk h l) = .mk (plnH h) (plnXs l) by rw [plnX])
    obtain ⟨⟨c0, c1, c2, c3, c4, c5, c6, c7⟩, f0, f1, f2, f3, f4, f5, f6, f7⟩ := cell8 HX1.out
    by_cases hk : h.k = 2
    case' pos =>
      have hkb : (h.k == 2) = true := by simpa using hk
      have HH := Lib.hid (show plnH h = ⟨h.k, 0, h.vk, h.vn, h.vs, h.tab, h.col⟩ by unfold plnH; rw [if_pos hk])
      clear hk
      have hba3 := ba w (.cells #[.int .i64 h.k, .int .i64 0, .int .i64 h.vk, .int .i64 h.vn, .string h.vs, .string h.tab, .string h.col, .slice A l.length cap] 26)
      have hba4 := ba (w.alloc (.cells #[.int .i64 h.k, .int .i64 0, .int .i64 h.vk, .int .i64 h.vn, .string h.vs, .string h.tab, .string h.col, .slice A l.length cap] 26)) x0
      have HZ := Lib.hid ((hba4.block w.heap.size (by simp)).trans (MapKept.heap_alloc w (.cells #[.int .i64 h.k, .int .i64 0, .int .i64 h.vk, .int .i64 h.vn, .string h.vs, .string h.tab, .string h.col, .slice A l.length cap] 26)).1)
      have HO := Lib.hid (show ((w.alloc (.cells #[.int .i64 h.k, .int .i64 0, .int .i64 h.vk, .int .i64 h.vn, .string h.vs, .string h.tab, .string h.col, .slice A l.length cap] 26)).alloc x0).heap[w.heap.size + 1]? = some x0 by
        have := (MapKept.heap_alloc (w.alloc (.cells #[.int .i64 h.k, .int .i64 0, .int .i64 h.vk, .int .i64 h.vn, .string h.vs, .string h.tab, .string h.col, .slice A l.length cap] 26)) x0).1
        rwa [World.size_alloc] at this)
      have HB0 := Lib.hid (bt hba3 hba4)
      have hsz : ((w.alloc (.cells #[.int .i64 h.k, .int .i64 0, .int .i64 h.vk, .int .i64 h.vn, .string h.vs, .string h.tab, .string h.col, .slice A l.length cap] 26)).alloc x0).heap.size = w.heap.size + 2 := by simp
      clear hba3 hba4
      go_enter Tryz.func36, Tryz.ntmps36
      go_upto_region 3 with fail
      obtain ⟨W0, hW0⟩ : ∃ W0, (w.alloc (.cells #[.int .i64 h.k, .int .i64 0, .int .i64 h.vk, .int .i64 h.vn, .string h.vs, .string h.tab, .string h.col, .slice A l.length cap] 26)).alloc x0 = W0 := ⟨_, rfl⟩
      rw [hW0] at HZ HO HB0 hsz ⊢
      replace HZ : Hid (W0.heap[w.heap.size]? = some (xbox ⟨h.k, 0, h.vk, h.vn, h.vs, h.tab, h.col⟩ A l.length cap)) := HZ
      rw [← HH.out] at HZ
    case' neg =>
      have hkb : (h.k == 2) = false := by simpa using hk
      have HH := Lib.hid (show plnH h = h by unfold plnH; rw [if_neg hk])
      clear hk
      have hsz : ((w.alloc (xbox h A l.length cap)).alloc x0).heap.size = w.heap.size + 2 := by simp
      go_enter Tryz.func36, Tryz.ntmps36
      go_upto_region 3 with fail
      have HZ := Lib.hid HX1.out
      have HO := Lib.hid HX2.out
      have HB0 := Lib.hid HB.out
      obtain ⟨W0, hW0⟩ : ∃ W0, (w.alloc (xbox h A l.length cap)).alloc x0 = W0 := ⟨_, rfl⟩
      rw [hW0] at HZ HO HB0 hsz ⊢
      rw [← HH.out] at HZ
    all_goals
      clear hW0 HX1 HX2 HB c0 c1 c2 c3 c4 c5 c6 c7 f0 f1 f2 f3 f4 f5 f6 f7 hkb
      obtain ⟨ph, hph⟩ : ∃ x, plnH h = x := ⟨_, rfl⟩
      rw [hph] at HZ HP
      have Hph := Lib.hid hph
      clear hph HH
      have HS := Lib.hid hsz
      clear hsz
      have hll : l.length ≤ 1000000 := by omega
      go_wp2_with fail
      go_loopw [4, 3] (fun i v W => ∃ k : Nat, k ≤ l.length ∧ i = .int .i64 k ∧ Hid (Xown W0.heap.size W0 W v (plnXs (l.take k)))) (fun i _ _ => l.length - (intOf i).toNat)
      case atStart => exact ⟨0, Nat.zero_le _, rfl, Lib.hid (by rw [List.take_zero, plnXs]; exact Xown.nil _)⟩
      case round =>
        obtain ⟨k, hk, rfl, HW⟩ := hrel
        have hkl : (plnXs (l.take k)).length = k := by rw [plnXs_len, List.length_take]; omega
        obtain ⟨AS, capS, hv⟩ := HW.out.slice
        rw [hkl] at hv
        subst hv
        have hbw : Below w.heap.size w wr := HB0.out.trans (HW.out.bel.mono HB0.out.size)
        have hz1 := (HW.out.bel.block w.heap.size (by have := HS.out; omega)).trans HZ.out
        have hz2' := (HW.out.bel.block (w.heap.size + 1) (by have := HS.out; omega)).trans HO.out
        obtain ⟨⟨p0, p1, p2, p3, p4, p5, p6, p7⟩, g0, g1, g2, g3, g4, g5, g6, g7⟩ := cell8 hz1
        by_cases hkn : k < l.length
        · obtain ⟨x, hx⟩ : ∃ x, l[k]? = some x := ⟨_, List.getElem?_eq_getElem hkn⟩
          obtain ⟨h', l'⟩ := x
          have HT := Lib.hid (show plnXs (l.take (k + 1)) = plnXs (l.take k) ++ [.mk (plnH h') (plnXs l')] by rw [plnXs_take l k _ hx, plnX])
          have hc' := cntL_mem hx
          obtain ⟨g, off, A', cap', rfl, hg, hX, hle', hl'⟩ := HXl.out.at hx
          obtain ⟨c0, c1, c2, c3, c4, c5, c6, c7⟩ := hX.of (hbw.block g hg)
          have hgr : g < wr.heap.size := Nat.lt_of_lt_of_le hg hbw.size
          have HC := Lib.hid (HI.out h' l' (by omega) wr A' cap' (XsAt.next hl' hbw) hle')
          rw [plnX] at HC
          clear hX hl' hx hc' hg hbw hz1 hz2'
          go_wp2_with fail
          refine HC.out.mono ?_
          rintro e w3 ⟨A3, cap3, rfl, hle3, hx3, hb3⟩
          simp only [Ex.hd, Ex.kids] at hle3 hx3 ⊢
          have H3 := HW.out.below hb3
          obtain ⟨q, hq⟩ := H3.row
          have hq2 := hq.2
          rw [hkl] at hq2
          have hxr : XR (Ot W0.heap.size w3 (.slice AS k capS)) w3 (.mk (plnH h') (plnXs l')) (plnH h', A3, (plnXs l').length, cap3) := by
            refine ⟨rfl, rfl, hle3, XsB.go (fun _ _ => rfl) (fun j hj => ⟨?_, hj.2, fun e => ?_⟩) _ _ hx3⟩
            · have := hj.1; have := HW.out.bel.size; omega
            · obtain ⟨q0, hq0⟩ := HW.out.row
              have := (hq0.2.lt j e).2
              have h2 := hj.1; omega
          have HQ2 := Lib.hid hq2
          have HH3 := Lib.hid (show ∀ o v' w', w'.ownsRow W0.heap.size 26 8 v' (k + 1) (xcells q ++ xcell (plnH h', A3, (plnXs l').length, cap3)) → (w3.alloc o).grownBy w' (Value.ownBlock (.slice AS k capS)) →
              (v'.ownBlock = Value.ownBlock (.slice AS k capS) ∨ v'.ownBlock = some (w3.heap.size + 1)) → Xown W0.heap.size W0 w' v' (plnXs (l.take (k + 1))) from fun o v' w' ho hg hat => by
            rw [HT.out]
            exact H3.grow hq hxr (by rw [hkl]; exact ho) hg (by rw [World.size_alloc]; exact hat))
          have HLE := Lib.hid H3.le
          obtain ⟨nl, hnl⟩ : ∃ n, (plnXs l').length = n := ⟨_, rfl⟩
          obtain ⟨hh, hhh⟩ : ∃ n, plnH h' = n := ⟨_, rfl⟩
          rw [hnl, hhh] at HH3 ⊢
          clear hq2 hxr hq H3 hb3 hx3 hle3 c0 c1 c2 c3 c4 c5 c6 c7 p0 p1 p2 p3 p4 p5 p6 p7 g0 g1 g2 g3 g4 g5 g6 g7 hnl hhh
          go_wp2_with (at_builtin; refine wpList_append_own_at _ rfl _ _ 24 rfl W0.heap.size 26 i0 _ 8 104 Tryz.underlying24 hi hz0 hz1 hz2 rfl (by decide) _ _ _ rfl (HQ2.out.alloc _) ⟨w3.heap.size, 0, none⟩ 1 1 (xcell (hh, A3, nl, cap3)) rfl rfl (xnews _ _ _) (xcell_one _) ?c3 ?c4 ?c5 ?_)
          case c3 => unfold maxLen; omega
          case c4 => omega
          case c5 => have := HLE.out; simp; omega
          intro v' w4 hown' hg4 _ hat
          have HG := Lib.hid (HH3.out _ _ _ hown' hg4 hat)
          clear hown' hg4 hat
          go_wp2_with fail
          go_roundw
          case rel => first | exact ⟨k + 1, by omega, by go_num, HG⟩ | ((repeat apply Exists.intro); exact ⟨⟨k + 1, by omega, by go_num, HG⟩, rfl⟩)
          case measure => simp [intOf]; omega
        · obtain rfl : k = l.length := by omega
          obtain ⟨A2, cap2, hv2, hle2, hx2⟩ := HW.out.xsB
          rw [List.take_length] at hv2 hle2 hx2
          rw [plnXs_len] at hv2
          obtain ⟨rfl, _, rfl⟩ := Value.slice.inj hv2
          have HE := Lib.hid hx2
          have HBw := Lib.hid hbw
          obtain ⟨⟨d0, d1, d2, d3, d4, d5, d6, d7⟩, e0, e1, e2, e3, e4, e5, e6, e7⟩ := cell8 hz2'
          have HY := Lib.hid (set8_box ((setc_other (W := wr) (U := w.heap.size) (k := w.heap.size + 1) (j := 7) (by omega) (.slice AS l.length capS)).trans hz2') (.int .i64 ph.k) (.int .i64 ph.n) (.int .i64 ph.vk) (.int .i64 ph.vn) (.string ph.vs) (.string ph.tab) (.string ph.col) (.slice AS l.length capS))
          have Hle := Lib.hid (show l.length ≤ capS by rw [plnXs_len] at hle2; exact hle2)
          clear hx2 hv2 hbw hz1 hz2' hle2
          obtain ⟨U, hU⟩ : ∃ U, w.heap.size = U := ⟨_, rfl⟩
          have HU := Lib.hid hU
          rw [hU] at HY p0 p1 p2 p3 p4 p5 p6 p7 g0 g1 g2 g3 g4 g5 g6 g7 d0 d1 d2 d3 d4 d5 d6 d7 e0 e1 e2 e3 e4 e5 e6 e7 ⊢
          clear hU
          go_wp2_with fail
          obtain ⟨⟨q0, q1, q2, q3, q4, q5, q6, q7⟩, _⟩ := cell8 HY.out
          refine bodyPost_ret (v := XV ph AS l.length capS) (by simp [results, Tryz.results36, go_sem, q0, q1, q2, q3, q4, q5, q6, q7]) rfl ?_
          rw [HP.out]
          refine ⟨AS, capS, by simp only [Ex.hd, Ex.kids, plnXs_len], by simp only [Ex.kids, plnXs_len]; exact Hle.out, ?_, ?_⟩
          · have hsz := HS.out
            have hu := HU.out
            refine XsB.go (fun k hk => (set8_other (by have := hk.1; omega) _ _ _ _ _ _ _ _).trans (setc_other (by have := hk.1; omega) _)) (fun k hk => ⟨by have := hk.1; omega, ?_⟩) _ _ HE.out
            rw [set8_size, setc_size]; exact hk.2
          · have hu := HU.out
            exact set8_below (HBw.out.setCell (p := ⟨U, 7, none⟩) (by rw [hu]; exact Nat.le_refl _) _) (by omega) _ _ _ _ _ _ _ _
end Go.Proofs.YteckhaicodmakaaGreatDoor
