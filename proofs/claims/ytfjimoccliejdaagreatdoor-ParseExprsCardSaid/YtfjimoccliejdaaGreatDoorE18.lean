/-
  The program's own comparison of an item, of a source with itself.
-/
import Derived.Test.YtfjimoccliejdaaGreatDoorE17
import Derived.StillTailTactics
import Derived.Deep.RegionHeld3
section
namespace Go.Proofs.YtfjimoccliejdaaGreatDoor
open Go.RowKit Go.Shelf

set_option maxRecDepth 100000 in
set_option maxHeartbeats 4000000 in
theorem pa_ok : OkB slC 57 (fun s => GdL s ∧ s.its.length ≤ 1000000 ∧ s.frs.length ≤ 1000000 ∧ s.grp.length ≤ 1000000) isPaB := by
 intro x c w h hg hT
 obtain ⟨b, hb⟩ : ∃ b, isPaB x = b := ⟨_, rfl⟩
 rw [hb]
 have HX := Lib.hid hb
 have HT := Lib.hid hT
 obtain ⟨hg, hl⟩ := hg
 have HG := Lib.hid hg
 clear hb hT hg
 obtain ⟨iA, fA, gA, ic, fc, gc, hd, A, n, cp, rfl, ⟨hi1, hf1, hg1⟩, hI, hF, hW, hGr⟩ := slC_ex h
 obtain ⟨dist, its, frs, wh, grp⟩ := x
 simp only at hI hF hW hGr hi1 hf1 hg1 ⊢
 have HI := Lib.hid hI
 have HF := Lib.hid hF
 have HE := Lib.hid (exC_of_ev hW)
 have HGr := Lib.hid (xs_ls hGr)
 have HG1 := Lib.hid HG.out.its
 have HG2 := Lib.hid HG.out.frs
 have HG3 := Lib.hid HG.out.wh
 have HG4 := Lib.hid HG.out.grp
 simp only at HG1 HG2 HG3 HG4
 have HLn := Lib.hid hl
 clear h hI hF hW hGr hi1 hg1 hl
 have HB0 := Lib.hid (ba w (.cells #[.bool dist, .slice iA its.length ic, .slice fA frs.length fc, .int .i64 hd.k, .int .i64 hd.n, .int .i64 hd.vk, .int .i64 hd.vn, .string hd.vs, .string hd.tab, .string hd.col, .slice A n cp, .slice gA grp.length gc] 47))
 have HU0 := Lib.hid (show BxU (w.alloc (.cells #[.bool dist, .slice iA its.length ic, .slice fA frs.length fc, .int .i64 hd.k, .int .i64 hd.n, .int .i64 hd.vk, .int .i64 hd.vn, .string hd.vs, .string hd.tab, .string hd.col, .slice A n cp, .slice gA grp.length gc] 47)) w.heap.size #[.bool dist, .slice iA its.length ic, .slice fA frs.length fc, .int .i64 hd.k, .int .i64 hd.n, .int .i64 hd.vk, .int .i64 hd.vn, .string hd.vs, .string hd.tab, .string hd.col, .slice A n cp, .slice gA grp.length gc] 47 from (MapKept.heap_alloc w (.cells #[.bool dist, .slice iA its.length ic, .slice fA frs.length fc, .int .i64 hd.k, .int .i64 hd.n, .int .i64 hd.vk, .int .i64 hd.vn, .string hd.vs, .string hd.tab, .string hd.col, .slice A n cp, .slice gA grp.length gc] 47)).1)
 obtain ⟨t1, ht⟩ : ∃ t, lsB 1 16 isItB its = t := ⟨_, rfl⟩
 have HN1 := Lib.hid (lsIt_any it_ok 1 16 (by decide) (by decide) its iA ic (w.alloc (.cells #[.bool dist, .slice iA its.length ic, .slice fA frs.length fc, .int .i64 hd.k, .int .i64 hd.n, .int .i64 hd.vk, .int .i64 hd.vn, .string hd.vs, .string hd.tab, .string hd.col, .slice A n cp, .slice gA grp.length gc] 47)) (HI.out.nxt itC_ok HB0.out) HG1.out (HT.out.kept HB0.out) HLn.out.1 ht)
 have H1 := Lib.hid ht
 clear ht
 show Calls Tryz.prog 57 #[.agg #[.bool dist, .slice iA its.length ic, .slice fA frs.length fc, .int .i64 hd.k, .int .i64 hd.n, .int .i64 hd.vk, .int .i64 hd.vn, .string hd.vs, .string hd.tab, .string hd.col, .slice A n cp, .slice gA grp.length gc]] w _
 go_enter Tryz.func57, Tryz.ntmps57
 go_wp2_with fail
 refine HN1.out.mono ?_
 rintro e v1 ⟨rfl, hb⟩
 have HB1 := Lib.hid (bt HB0.out hb)
 have HU1 := Lib.hid (HU0.out.next hb)
 clear hb
 cases t1
 ·go_wp2_with fail
  have HXe := Lib.hid (show b = false by rw [← HX.out]; simp [isPaB, H1.out])
  exact bodyPost_ret (v := .bool false) (by simp [results, Tryz.results57, go_sem]) rfl ⟨by rw [HXe.out], HB1.out⟩
 ·have b2 : (v1).cell? ⟨w.heap.size, 2, none⟩ = some (.slice fA frs.length fc) := HU1.out.cell 2
  obtain ⟨t2, ht⟩ : ∃ t, lsB 1 6 isSoB frs = t := ⟨_, rfl⟩
  have HN2 := Lib.hid (lsSo_any so_ok 1 6 (by decide) (by decide) frs fA fc v1 (HF.out.nxt srC_ok HB1.out) HG2.out (HT.out.kept HB1.out) HLn.out.2.1 ht)
  have H2 := Lib.hid ht
  clear ht
  go_wp2_with fail
  clear b2
  refine HN2.out.mono ?_
  rintro e v2 ⟨rfl, hb⟩
  have HB2 := Lib.hid (bt HB1.out hb)
  have HU2 := Lib.hid (HU1.out.next hb)
  clear hb
  cases t2
  ·go_wp2_with fail
   have HXe := Lib.hid (show b = false by rw [← HX.out]; simp [isPaB, H1.out, H2.out])
   exact bodyPost_ret (v := .bool false) (by simp [results, Tryz.results57, go_sem]) rfl ⟨by rw [HXe.out], HB2.out⟩
  ·cases frs with
   | nil => exact absurd H2.out (by decide)
   | cons x0 r =>
    obtain ⟨g, o, cc, rfl, _, hp, hc⟩ := (HF.out.nxt srC_ok HB2.out).at srC_ok (i := 0) (x := x0) rfl
    have HF0 := Lib.hid hp
    obtain ⟨hd0, A0, n0, cp0, rfl, _⟩ := srC_ex hp
    simp only [Nat.zero_mul, Nat.add_zero] at hc
    have e0 : v2.cell? ⟨g, o, none⟩ = some (st x0.tb) := hc 0 _ rfl
    have e1 : v2.cell? ⟨g, o + 1, none⟩ = some (st x0.nm) := hc 1 _ rfl
    have e2 : v2.cell? ⟨g, o + 2, none⟩ = some (.int .i64 x0.join) := hc 2 _ rfl
    have e3 : v2.cell? ⟨g, o + 3, none⟩ = some (.int .i64 hd0.k) := hc 3 _ rfl
    have e4 : v2.cell? ⟨g, o + 4, none⟩ = some (.int .i64 hd0.n) := hc 4 _ rfl
    have e5 : v2.cell? ⟨g, o + 5, none⟩ = some (.int .i64 hd0.vk) := hc 5 _ rfl
    have e6 : v2.cell? ⟨g, o + 6, none⟩ = some (.int .i64 hd0.vn) := hc 6 _ rfl
    have e7 : v2.cell? ⟨g, o + 7, none⟩ = some (.string hd0.vs) := hc 7 _ rfl
    have e8 : v2.cell? ⟨g, o + 8, none⟩ = some (.string hd0.tab) := hc 8 _ rfl
    have e9 : v2.cell? ⟨g, o + 9, none⟩ = some (.string hd0.col) := hc 9 _ rfl
    have e10 : v2.cell? ⟨g, o + 10, none⟩ = some (.slice A0 n0 cp0) := hc 10 _ rfl
    have b2 : (v2).cell? ⟨w.heap.size, 2, none⟩ = some (.slice (some ⟨g, o, none⟩) (r.length + 1) fc) := HU2.out.cell 2
    obtain ⟨t3, ht⟩ : ∃ t, isFiB x0 = t := ⟨_, rfl⟩
    have HN3 := Lib.hid (fi_ok x0 _ v2 HF0.out (HG2.out x0 (List.mem_cons_self ..)) (HT.out.kept HB2.out))
    rw [ht] at HN3
    have H3 := Lib.hid ht
    clear ht hp hc
    go_wp2_with fail
    clear b2
    clear e0 e1 e2 e3 e4 e5 e6 e7 e8 e9 e10
    refine HN3.out.mono ?_
    rintro e v3 ⟨rfl, hb⟩
    have HB3 := Lib.hid (bt HB2.out hb)
    have HU3 := Lib.hid (HU2.out.next hb)
    clear hb
    cases t3
    ·go_wp2_with fail
     have HXe := Lib.hid (show b = false by rw [← HX.out]; simp [isPaB, H1.out, H2.out, H3.out])
     exact bodyPost_ret (v := .bool false) (by simp [results, Tryz.results57, go_sem]) rfl ⟨by rw [HXe.out], HB3.out⟩
    ·have hfc : r.length + 1 ≤ fc := hf1
     by_cases h1 : fc = 1
     ·subst h1
      have hr : r = [] := List.eq_nil_of_length_eq_zero (by omega)
      have HFr := Lib.hid (show Ls srC (Ab v3) v3 r (some ⟨g, o, none⟩) from by rw [hr]; exact Ls.nil _ _ _ _)
      obtain ⟨t4, ht⟩ : ∃ t, lsB 0 6 isJoB r = t := ⟨_, rfl⟩
      have HN4 := Lib.hid (lsJo_any jo_ok 0 6 (by decide) (by decide) [] (some ⟨g, o, none⟩) 0 v3 (Ls.nil _ _ _ _) (fun _ h => nomatch h) (HT.out.kept HB3.out) (by decide) (show lsB 0 6 isJoB [] = t4 by rw [← hr]; exact ht))
      have H4 := Lib.hid ht
      clear ht hr
      have b2 : (v3).cell? ⟨w.heap.size, 2, none⟩ = some (.slice (some ⟨g, o, none⟩) (r.length + 1) 1) := HU3.out.cell 2
      go_wp2_with fail
      clear b2
      refine HN4.out.mono ?_
      rintro e v4 ⟨rfl, hb⟩
      have HB4 := Lib.hid (bt HB3.out hb)
      have HU4 := Lib.hid (HU3.out.next hb)
      clear hb
      cases t4
      ·go_wp2_with fail
       have HXe := Lib.hid (show b = false by rw [← HX.out]; simp [isPaB, H1.out, H2.out, H3.out, H4.out])
       exact bodyPost_ret (v := .bool false) (by simp [results, Tryz.results57, go_sem]) rfl ⟨by rw [HXe.out], HB4.out⟩
      ·have b3 : (v4).cell? ⟨w.heap.size, 3, none⟩ = some (.int .i64 hd.k) := HU4.out.cell 3
       have b4 : (v4).cell? ⟨w.heap.size, 4, none⟩ = some (.int .i64 hd.n) := HU4.out.cell 4
       have b5 : (v4).cell? ⟨w.heap.size, 5, none⟩ = some (.int .i64 hd.vk) := HU4.out.cell 5
       have b6 : (v4).cell? ⟨w.heap.size, 6, none⟩ = some (.int .i64 hd.vn) := HU4.out.cell 6
       have b7 : (v4).cell? ⟨w.heap.size, 7, none⟩ = some (.string hd.vs) := HU4.out.cell 7
       have b8 : (v4).cell? ⟨w.heap.size, 8, none⟩ = some (.string hd.tab) := HU4.out.cell 8
       have b9 : (v4).cell? ⟨w.heap.size, 9, none⟩ = some (.string hd.col) := HU4.out.cell 9
       have b10 : (v4).cell? ⟨w.heap.size, 10, none⟩ = some (.slice A n cp) := HU4.out.cell 10
       obtain ⟨t5, ht⟩ : ∃ t, isNoB wh = t := ⟨_, rfl⟩
       have HN5 := Lib.hid (isNo_any (HE.out.next HB4.out) HG3.out ht)
       have H5 := Lib.hid ht
       clear ht
       go_wp2_with fail
       clear b3 b4 b5 b6 b7 b8 b9 b10
       refine HN5.out.mono ?_
       rintro e v5 ⟨rfl, hb⟩
       have HB5 := Lib.hid (bt HB4.out hb)
       have HU5 := Lib.hid (HU4.out.next hb)
       clear hb
       cases t5
       ·have b3 : (v5).cell? ⟨w.heap.size, 3, none⟩ = some (.int .i64 hd.k) := HU5.out.cell 3
        have b4 : (v5).cell? ⟨w.heap.size, 4, none⟩ = some (.int .i64 hd.n) := HU5.out.cell 4
        have b5 : (v5).cell? ⟨w.heap.size, 5, none⟩ = some (.int .i64 hd.vk) := HU5.out.cell 5
        have b6 : (v5).cell? ⟨w.heap.size, 6, none⟩ = some (.int .i64 hd.vn) := HU5.out.cell 6
        have b7 : (v5).cell? ⟨w.heap.size, 7, none⟩ = some (.string hd.vs) := HU5.out.cell 7
        have b8 : (v5).cell? ⟨w.heap.size, 8, none⟩ = some (.string hd.tab) := HU5.out.cell 8
        have b9 : (v5).cell? ⟨w.heap.size, 9, none⟩ = some (.string hd.col) := HU5.out.cell 9
        have b10 : (v5).cell? ⟨w.heap.size, 10, none⟩ = some (.slice A n cp) := HU5.out.cell 10
        obtain ⟨t6, ht⟩ : ∃ t, isCoB wh = t := ⟨_, rfl⟩
        have HN6 := Lib.hid (isCo_any (HE.out.next HB5.out) HG3.out (HT.out.kept HB5.out) ht)
        have H6 := Lib.hid ht
        clear ht
        go_wp2_with fail
        clear b3 b4 b5 b6 b7 b8 b9 b10
        refine HN6.out.mono ?_
        rintro e v6 ⟨rfl, hb⟩
        have HB6 := Lib.hid (bt HB5.out hb)
        have HU6 := Lib.hid (HU5.out.next hb)
        clear hb
        cases t6
        ·go_wp2_with fail
         have HXe := Lib.hid (show b = false by rw [← HX.out]; simp [isPaB, H1.out, H2.out, H3.out, H4.out, H5.out, H6.out])
         exact bodyPost_ret (v := .bool false) (by simp [results, Tryz.results57, go_sem]) rfl ⟨by rw [HXe.out], HB6.out⟩
        ·have b11 : (v6).cell? ⟨w.heap.size, 11, none⟩ = some (.slice gA grp.length gc) := HU6.out.cell 11
         obtain ⟨t7, ht⟩ : ∃ t, lsB 0 8 isGrB grp = t := ⟨_, rfl⟩
         have HN7 := Lib.hid (lsGr_any gr_ok 0 8 (by decide) (by decide) grp gA gc v6 (HGr.out.nxt exC_ok HB6.out) HG4.out (HT.out.kept HB6.out) HLn.out.2.2 ht)
         have H7 := Lib.hid ht
         clear ht
         go_wp2_with fail
         clear b11
         refine HN7.out.mono ?_
         rintro e v7 ⟨rfl, hb⟩
         have HB7 := Lib.hid (bt HB6.out hb)
         have HU7 := Lib.hid (HU6.out.next hb)
         clear hb
         go_wp2_with fail
         have HXe := Lib.hid (show b = t7 by rw [← HX.out]; simp [isPaB, H1.out, H2.out, H3.out, H4.out, H5.out, H6.out, H7.out])
         exact bodyPost_ret (v := .bool t7) (by simp [results, Tryz.results57, go_sem]) rfl ⟨by rw [HXe.out], HB7.out⟩
       ·have b11 : (v5).cell? ⟨w.heap.size, 11, none⟩ = some (.slice gA grp.length gc) := HU5.out.cell 11
        obtain ⟨t7, ht⟩ : ∃ t, lsB 0 8 isGrB grp = t := ⟨_, rfl⟩
        have HN7 := Lib.hid (lsGr_any gr_ok 0 8 (by decide) (by decide) grp gA gc v5 (HGr.out.nxt exC_ok HB5.out) HG4.out (HT.out.kept HB5.out) HLn.out.2.2 ht)
        have H7 := Lib.hid ht
        clear ht
        go_wp2_with fail
        clear b11
        refine HN7.out.mono ?_
        rintro e v6 ⟨rfl, hb⟩
        have HB6 := Lib.hid (bt HB5.out hb)
        have HU6 := Lib.hid (HU5.out.next hb)
        clear hb
        go_wp2_with fail
        have HXe := Lib.hid (show b = t7 by rw [← HX.out]; simp [isPaB, H1.out, H2.out, H3.out, H4.out, H5.out, H7.out])
        exact bodyPost_ret (v := .bool t7) (by simp [results, Tryz.results57, go_sem]) rfl ⟨by rw [HXe.out], HB6.out⟩
     ·have HFr := Lib.hid ((HF.out.nxt srC_ok HB3.out).tail srC_ok)
      obtain ⟨t4, ht⟩ : ∃ t, lsB 0 6 isJoB r = t := ⟨_, rfl⟩
      have HN4 := Lib.hid (lsJo_any jo_ok 0 6 (by decide) (by decide) r (some ⟨g, o + 11, none⟩) (fc - 1) v3 HFr.out (fun x hx => HG2.out x (List.mem_cons_of_mem _ hx)) (HT.out.kept HB3.out) (by have := HLn.out.2.1; simp only [List.length_cons] at this; omega) ht)
      have H4 := Lib.hid ht
      clear ht
      have b2 : (v3).cell? ⟨w.heap.size, 2, none⟩ = some (.slice (some ⟨g, o, none⟩) (r.length + 1) fc) := HU3.out.cell 2
      go_wp2_with fail
      clear b2
      refine HN4.out.mono ?_
      rintro e v4 ⟨rfl, hb⟩
      have HB4 := Lib.hid (bt HB3.out hb)
      have HU4 := Lib.hid (HU3.out.next hb)
      clear hb
      cases t4
      ·go_wp2_with fail
       have HXe := Lib.hid (show b = false by rw [← HX.out]; simp [isPaB, H1.out, H2.out, H3.out, H4.out])
       exact bodyPost_ret (v := .bool false) (by simp [results, Tryz.results57, go_sem]) rfl ⟨by rw [HXe.out], HB4.out⟩
      ·have b3 : (v4).cell? ⟨w.heap.size, 3, none⟩ = some (.int .i64 hd.k) := HU4.out.cell 3
       have b4 : (v4).cell? ⟨w.heap.size, 4, none⟩ = some (.int .i64 hd.n) := HU4.out.cell 4
       have b5 : (v4).cell? ⟨w.heap.size, 5, none⟩ = some (.int .i64 hd.vk) := HU4.out.cell 5
       have b6 : (v4).cell? ⟨w.heap.size, 6, none⟩ = some (.int .i64 hd.vn) := HU4.out.cell 6
       have b7 : (v4).cell? ⟨w.heap.size, 7, none⟩ = some (.string hd.vs) := HU4.out.cell 7
       have b8 : (v4).cell? ⟨w.heap.size, 8, none⟩ = some (.string hd.tab) := HU4.out.cell 8
       have b9 : (v4).cell? ⟨w.heap.size, 9, none⟩ = some (.string hd.col) := HU4.out.cell 9
       have b10 : (v4).cell? ⟨w.heap.size, 10, none⟩ = some (.slice A n cp) := HU4.out.cell 10
       obtain ⟨t5, ht⟩ : ∃ t, isNoB wh = t := ⟨_, rfl⟩
       have HN5 := Lib.hid (isNo_any (HE.out.next HB4.out) HG3.out ht)
       have H5 := Lib.hid ht
       clear ht
       go_wp2_with fail
       clear b3 b4 b5 b6 b7 b8 b9 b10
       refine HN5.out.mono ?_
       rintro e v5 ⟨rfl, hb⟩
       have HB5 := Lib.hid (bt HB4.out hb)
       have HU5 := Lib.hid (HU4.out.next hb)
       clear hb
       cases t5
       ·have b3 : (v5).cell? ⟨w.heap.size, 3, none⟩ = some (.int .i64 hd.k) := HU5.out.cell 3
        have b4 : (v5).cell? ⟨w.heap.size, 4, none⟩ = some (.int .i64 hd.n) := HU5.out.cell 4
        have b5 : (v5).cell? ⟨w.heap.size, 5, none⟩ = some (.int .i64 hd.vk) := HU5.out.cell 5
        have b6 : (v5).cell? ⟨w.heap.size, 6, none⟩ = some (.int .i64 hd.vn) := HU5.out.cell 6
        have b7 : (v5).cell? ⟨w.heap.size, 7, none⟩ = some (.string hd.vs) := HU5.out.cell 7
        have b8 : (v5).cell? ⟨w.heap.size, 8, none⟩ = some (.string hd.tab) := HU5.out.cell 8
        have b9 : (v5).cell? ⟨w.heap.size, 9, none⟩ = some (.string hd.col) := HU5.out.cell 9
        have b10 : (v5).cell? ⟨w.heap.size, 10, none⟩ = some (.slice A n cp) := HU5.out.cell 10
        obtain ⟨t6, ht⟩ : ∃ t, isCoB wh = t := ⟨_, rfl⟩
        have HN6 := Lib.hid (isCo_any (HE.out.next HB5.out) HG3.out (HT.out.kept HB5.out) ht)
        have H6 := Lib.hid ht
        clear ht
        go_wp2_with fail
        clear b3 b4 b5 b6 b7 b8 b9 b10
        refine HN6.out.mono ?_
        rintro e v6 ⟨rfl, hb⟩
        have HB6 := Lib.hid (bt HB5.out hb)
        have HU6 := Lib.hid (HU5.out.next hb)
        clear hb
        cases t6
        ·go_wp2_with fail
         have HXe := Lib.hid (show b = false by rw [← HX.out]; simp [isPaB, H1.out, H2.out, H3.out, H4.out, H5.out, H6.out])
         exact bodyPost_ret (v := .bool false) (by simp [results, Tryz.results57, go_sem]) rfl ⟨by rw [HXe.out], HB6.out⟩
        ·have b11 : (v6).cell? ⟨w.heap.size, 11, none⟩ = some (.slice gA grp.length gc) := HU6.out.cell 11
         obtain ⟨t7, ht⟩ : ∃ t, lsB 0 8 isGrB grp = t := ⟨_, rfl⟩
         have HN7 := Lib.hid (lsGr_any gr_ok 0 8 (by decide) (by decide) grp gA gc v6 (HGr.out.nxt exC_ok HB6.out) HG4.out (HT.out.kept HB6.out) HLn.out.2.2 ht)
         have H7 := Lib.hid ht
         clear ht
         go_wp2_with fail
         clear b11
         refine HN7.out.mono ?_
         rintro e v7 ⟨rfl, hb⟩
         have HB7 := Lib.hid (bt HB6.out hb)
         have HU7 := Lib.hid (HU6.out.next hb)
         clear hb
         go_wp2_with fail
         have HXe := Lib.hid (show b = t7 by rw [← HX.out]; simp [isPaB, H1.out, H2.out, H3.out, H4.out, H5.out, H6.out, H7.out])
         exact bodyPost_ret (v := .bool t7) (by simp [results, Tryz.results57, go_sem]) rfl ⟨by rw [HXe.out], HB7.out⟩
       ·have b11 : (v5).cell? ⟨w.heap.size, 11, none⟩ = some (.slice gA grp.length gc) := HU5.out.cell 11
        obtain ⟨t7, ht⟩ : ∃ t, lsB 0 8 isGrB grp = t := ⟨_, rfl⟩
        have HN7 := Lib.hid (lsGr_any gr_ok 0 8 (by decide) (by decide) grp gA gc v5 (HGr.out.nxt exC_ok HB5.out) HG4.out (HT.out.kept HB5.out) HLn.out.2.2 ht)
        have H7 := Lib.hid ht
        clear ht
        go_wp2_with fail
        clear b11
        refine HN7.out.mono ?_
        rintro e v6 ⟨rfl, hb⟩
        have HB6 := Lib.hid (bt HB5.out hb)
        have HU6 := Lib.hid (HU5.out.next hb)
        clear hb
        go_wp2_with fail
        have HXe := Lib.hid (show b = t7 by rw [← HX.out]; simp [isPaB, H1.out, H2.out, H3.out, H4.out, H5.out, H7.out])
        exact bodyPost_ret (v := .bool t7) (by simp [results, Tryz.results57, go_sem]) rfl ⟨by rw [HXe.out], HB6.out⟩
end Go.Proofs.YtfjimoccliejdaaGreatDoor
end
section
namespace Go.Proofs.YtfjimoccliejdaaGreatDoor
open Go.RowKit Go.Shelf

set_option maxRecDepth 100000 in
set_option maxHeartbeats 4000000 in
theorem qu_ok : OkB quC 27 GdQ2 isQuB := by
 intro x c w h hg hT
 obtain ⟨b, hb⟩ : ∃ b, isQuB x = b := ⟨_, rfl⟩
 rw [hb]
 have HX := Lib.hid hb
 have HT := Lib.hid hT
 have HG := Lib.hid hg
 clear hb hT hg
 obtain ⟨pA, oA, pc, oc, rfl, _, hP, hK⟩ := h
 obtain ⟨pts, ord, lim⟩ := x
 simp only at hP hK ⊢
 have HP := Lib.hid hP
 have HK := Lib.hid hK
 have HG1 := Lib.hid HG.out.1
 have HG2 := Lib.hid HG.out.2.1
 have HLn := Lib.hid HG.out.2.2
 simp only at HG1 HG2 HLn
 clear hP hK
 have HB0 := Lib.hid (ba w (.cells #[.slice pA pts.length pc, .slice oA ord.length oc, .int .i64 lim] 26))
 have HU0 := Lib.hid (show BxU (w.alloc (.cells #[.slice pA pts.length pc, .slice oA ord.length oc, .int .i64 lim] 26)) w.heap.size #[.slice pA pts.length pc, .slice oA ord.length oc, .int .i64 lim] 26 from (MapKept.heap_alloc w (.cells #[.slice pA pts.length pc, .slice oA ord.length oc, .int .i64 lim] 26)).1)
 obtain ⟨t1, ht⟩ : ∃ t, lsB 1 8 isPaB pts = t := ⟨_, rfl⟩
 have HN1 := Lib.hid (lsPa_any pa_ok 1 8 (by decide) (by decide) pts pA pc (w.alloc (.cells #[.slice pA pts.length pc, .slice oA ord.length oc, .int .i64 lim] 26)) (HP.out.nxt slC_ok HB0.out) HG1.out (HT.out.kept HB0.out) HLn.out.1 ht)
 have H1 := Lib.hid ht
 clear ht
 show Calls Tryz.prog 27 #[.agg #[.slice pA pts.length pc, .slice oA ord.length oc, .int .i64 lim]] w _
 go_enter Tryz.func27, Tryz.ntmps27
 go_wp2_with fail
 refine HN1.out.mono ?_
 rintro e v1 ⟨rfl, hb⟩
 have HB1 := Lib.hid (bt HB0.out hb)
 have HU1 := Lib.hid (HU0.out.next hb)
 clear hb
 cases t1
 ·go_wp2_with fail
  have HXe := Lib.hid (show b = false by rw [← HX.out]; simp [isQuB, H1.out])
  exact bodyPost_ret (v := .bool false) (by simp [results, Tryz.results27, go_sem]) rfl ⟨by rw [HXe.out], HB1.out⟩
 ·have b1 : (v1).cell? ⟨w.heap.size, 1, none⟩ = some (.slice oA ord.length oc) := HU1.out.cell 1
  obtain ⟨t2, ht⟩ : ∃ t, lsB 0 8 isKyB ord = t := ⟨_, rfl⟩
  have HN2 := Lib.hid (lsKy_any ky_ok 0 8 (by decide) (by decide) ord oA oc v1 (HK.out.nxt kyC_ok HB1.out) HG2.out (HT.out.kept HB1.out) HLn.out.2 ht)
  have H2 := Lib.hid ht
  clear ht
  go_wp2_with fail
  clear b1
  refine HN2.out.mono ?_
  rintro e v2 ⟨rfl, hb⟩
  have HB2 := Lib.hid (bt HB1.out hb)
  have HU2 := Lib.hid (HU1.out.next hb)
  clear hb
  cases t2
  ·go_wp2_with fail
   have HXe := Lib.hid (show b = false by rw [← HX.out]; simp [isQuB, H1.out, H2.out])
   exact bodyPost_ret (v := .bool false) (by simp [results, Tryz.results27, go_sem]) rfl ⟨by rw [HXe.out], HB2.out⟩
  ·have b2 : (v2).cell? ⟨w.heap.size, 2, none⟩ = some (.int .i64 lim) := HU2.out.cell 2
   by_cases h1 : -1 ≤ lim
   ·by_cases h2 : lim ≤ 9007199254740991
    ·have HZ := Lib.hid (And.intro h1 h2)
     go_wp2_with fail
     have HXe := Lib.hid (show b = true by rw [← HX.out]; simp [isQuB, H1.out, H2.out, HZ.out.1, HZ.out.2])
     exact bodyPost_ret (v := .bool true) (by simp [results, Tryz.results27, go_sem]) rfl ⟨by rw [HXe.out], HB2.out⟩
    ·have HZ := Lib.hid h2
     go_wp2_with fail
     have HXe := Lib.hid (show b = false by rw [← HX.out]; have := HZ.out; simp [isQuB]; intros; omega)
     exact bodyPost_ret (v := .bool false) (by simp [results, Tryz.results27, go_sem]; have := HZ.out; omega) rfl ⟨by rw [HXe.out], HB2.out⟩
   ·have HZ := Lib.hid h1
    go_wp2_with fail
    have HXe := Lib.hid (show b = false by rw [← HX.out]; have := HZ.out; simp [isQuB]; intros; omega)
    exact bodyPost_ret (v := .bool false) (by simp [results, Tryz.results27, go_sem]) rfl ⟨by rw [HXe.out], HB2.out⟩
set_option maxRecDepth 100000 in
set_option maxHeartbeats 4000000 in
theorem qcheck_any (x : Pa.Qu) (c : List Value) (w : World) (h : quC (Ab w) w x c) (hg : GdQ2 x) (hT : Tabs w) : Calls Tryz.prog 10 #[.agg c.toArray] w fun e w' => e = .returned (.int .i64 (if isQuB x then 0 else 110)) ∧ Below w.heap.size w w' := by
 obtain ⟨b, hb⟩ : ∃ b, isQuB x = b := ⟨_, rfl⟩
 obtain ⟨X, hX⟩ : ∃ X : Int, (if isQuB x then 0 else 110) = X := ⟨_, rfl⟩
 rw [hX]
 rw [hb] at hX
 have HX := Lib.hid hX
 have HT := Lib.hid hT
 obtain ⟨pA, oA, pc, oc, hc, hr⟩ := id h
 subst hc
 have HB0 := Lib.hid (ba w (.cells #[.slice pA x.parts.length pc, .slice oA x.order.length oc, .int .i64 x.lim] 26))
 have HU0 := Lib.hid (show BxU (w.alloc (.cells #[.slice pA x.parts.length pc, .slice oA x.order.length oc, .int .i64 x.lim] 26)) w.heap.size #[.slice pA x.parts.length pc, .slice oA x.order.length oc, .int .i64 x.lim] 26 from (MapKept.heap_alloc w (.cells #[.slice pA x.parts.length pc, .slice oA x.order.length oc, .int .i64 x.lim] 26)).1)
 have HN := Lib.hid (qu_ok x _ _ (quC_ok.ab HB0.out h) hg (HT.out.kept HB0.out))
 rw [hb] at HN
 clear hX hr h hg hb
 show Calls Tryz.prog 10 #[.agg #[.slice pA x.parts.length pc, .slice oA x.order.length oc, .int .i64 x.lim]] w _
 go_enter Tryz.func10, Tryz.ntmps10
 go_wp2_with fail
 refine HN.out.mono ?_
 rintro e v1 ⟨rfl, hb⟩
 have HB1 := Lib.hid (bt HB0.out hb)
 have HU1 := Lib.hid (HU0.out.next hb)
 clear hb
 cases b
 ·go_wp2_with fail
  have HXe := Lib.hid (show X = 110 by rw [← HX.out]; rfl)
  exact bodyPost_ret (v := .int .i64 110) (by simp [results, Tryz.results10, go_sem]) rfl ⟨by rw [HXe.out], HB1.out⟩
 ·go_wp2_with fail
  have HXe := Lib.hid (show X = 0 by rw [← HX.out]; rfl)
  exact bodyPost_ret (v := .int .i64 0) (by simp [results, Tryz.results10, go_sem]) rfl ⟨by rw [HXe.out], HB1.out⟩
end Go.Proofs.YtfjimoccliejdaaGreatDoor
end
section
namespace Go.Proofs.YtfjimoccliejdaaGreatDoor
open Go.RowKit Go.Shelf

set_option maxRecDepth 100000 in
set_option maxHeartbeats 8000000 in
theorem wholeQ_any (s : ByteArray) (w : World) (hs : s.size ≤ 16384) (hT : Tabs w) (hO : TabO w) :
    Calls Tryz.prog 18 #[.string s, .func (.func 19) #[] #[], .func (.func 10) #[] #[]] w (WhE quC #[.slice none 0 0, .slice none 0 0, .int .i64 0] (whR (Pa.queryP (Pa.lev 40008 0)) isQuB (bs s)) w) := by
  obtain ⟨X, hX⟩ : ∃ X, whR (Pa.queryP (Pa.lev 40008 0)) isQuB (bs s) = X := ⟨_, rfl⟩
  rw [hX]
  obtain ⟨R, hR⟩ : ∃ R, Lx.lx ((bs s).length + 1) (bs s) 0 0 = R := ⟨_, rfl⟩
  have HX := Lib.hid (show X = match (motive := Lx.Res → PRes _) R with
    | .bad n k => .bad n k
    | .ok ts _ => if ((Pa.queryP (Pa.lev 40008 0)) ⟨ts, false⟩).2.bad = true ∨ ((Pa.queryP (Pa.lev 40008 0)) ⟨ts, false⟩).2.tk.k ≠ 6 then .bad ((Pa.queryP (Pa.lev 40008 0)) ⟨ts, false⟩).2.at 110 else if isQuB ((Pa.queryP (Pa.lev 40008 0)) ⟨ts, false⟩).1 then .ok ((Pa.queryP (Pa.lev 40008 0)) ⟨ts, false⟩).1 else .bad 0 3 by rw [← hX, ← hR]; rfl)
  have hb1 := ba w (.cells #[.slice none 0 0, .slice none 0 0, .int .i64 0] 26)
  have hb2 := ba (w.alloc (.cells #[.slice none 0 0, .slice none 0 0, .int .i64 0] 26)) (.cells #[.slice none 0 0, .slice none 0 0, .int .i64 0] 26)
  have HB := Lib.hid (bt hb1 hb2)
  obtain ⟨U, hU⟩ : ∃ U, w.heap.size = U := ⟨_, rfl⟩
  have HUl := Lib.hid hU
  have hN0 := (MapKept.heap_alloc (w.alloc (.cells #[.slice none 0 0, .slice none 0 0, .int .i64 0] 26)) (.cells #[.slice none 0 0, .slice none 0 0, .int .i64 0] 26)).1
  rw [World.size_alloc, hU] at hN0
  have HN0 := Lib.hid (show BxU _ (U + 1) #[.slice none 0 0, .slice none 0 0, .int .i64 0] 26 from hN0)
  have hU0 := hb2.block w.heap.size (by rw [World.size_alloc]; omega) |>.trans (MapKept.heap_alloc w (.cells #[.slice none 0 0, .slice none 0 0, .int .i64 0] 26)).1
  rw [hU] at hU0
  have HU0 := Lib.hid (show BxU _ U #[.slice none 0 0, .slice none 0 0, .int .i64 0] 26 from hU0)
  have HSz := Lib.hid (show ((w.alloc (.cells #[.slice none 0 0, .slice none 0 0, .int .i64 0] 26)).alloc (.cells #[.slice none 0 0, .slice none 0 0, .int .i64 0] 26)).heap.size = U + 2 by rw [World.size_alloc, World.size_alloc, hU])
  have HA := Lib.hid (all_any s ((w.alloc (.cells #[.slice none 0 0, .slice none 0 0, .int .i64 0] 26)).alloc (.cells #[.slice none 0 0, .slice none 0 0, .int .i64 0] 26)) hs (hT.kept HB.out))
  rw [show s.size + 1 = (bs s).length + 1 by rw [bs_len], hR] at HA
  have HT := Lib.hid hT
  have HO := Lib.hid hO
  have HRr := Lib.hid hR
  clear hX hR hb1 hb2 hN0 hU0 hT hO
  go_enter Tryz.func18, Tryz.ntmps18
  go_wp2_with fail
  generalize (w.alloc (.cells #[.slice none 0 0, .slice none 0 0, .int .i64 0] 26)).alloc (.cells #[.slice none 0 0, .slice none 0 0, .int .i64 0] 26) = W2 at HB HN0 HU0 HSz HA ⊢
  clear hU
  refine HA.out.mono ?_
  rintro e v1 ⟨v, rfl, hv, hb⟩
  have HB1 := Lib.hid (bt HB.out hb)
  have HN1 := Lib.hid (HN0.out.next hb)
  have HU1 := Lib.hid (HU0.out.next hb)
  have HS1 := Lib.hid (show U + 2 ≤ v1.heap.size by rw [← HSz.out]; exact hb.size)
  clear hb
  cases R with
  | bad n k =>
    have hk := lx_bad_k _ _ _ _ _ _ (Nat.lt_succ_self _) HRr.out
    have hk0 : ¬ ((k : Int) = 0) := by omega
    have hv2 : v = .tuple #[.slice none 0 0, .int .i64 n, .int .i64 k] := hv
    subst hv2
    have HXe := Lib.hid (show X = .bad n k from HX.out)
    clear hv hk
    have n0 : v1.cell? ⟨U + 1, 0, none⟩ = some (.slice none 0 0) := HN1.out.cell 0
    have n1 : v1.cell? ⟨U + 1, 1, none⟩ = some (.slice none 0 0) := HN1.out.cell 1
    have n2 : v1.cell? ⟨U + 1, 2, none⟩ = some (.int .i64 0) := HN1.out.cell 2
    have u0 : v1.cell? ⟨U, 0, none⟩ = some (.slice none 0 0) := HU1.out.cell 0
    have u1 : v1.cell? ⟨U, 1, none⟩ = some (.slice none 0 0) := HU1.out.cell 1
    have u2 : v1.cell? ⟨U, 2, none⟩ = some (.int .i64 0) := HU1.out.cell 2
    have fu0 := HU1.out.frozen 0
    have fu1 := HU1.out.frozen 1
    have fu2 := HU1.out.frozen 2
    go_wp2_with fail
    exact bodyPost_ret (v := .tuple #[.agg #[.slice none 0 0, .slice none 0 0, .int .i64 0], .int .i64 n, .int .i64 k]) (by simp [results, Tryz.results18, go_sem, u0, u1, u2]) rfl (by rw [HXe.out]; exact ⟨rfl, onu_below (OnU.refl _ _).set.set.set HUl.out HB1.out⟩)
  | ok ts n0 =>
    obtain ⟨l, hv2, ho⟩ := hv
    subst hv2
    obtain ⟨htt, hne⟩ := text_tt HRr.out
    obtain ⟨g, cap, rfl, hat, hcap, hg1, hg2⟩ := own_tk ho hne
    have hbm := ba v1 (rbox (some ⟨g, 0, none⟩) ts.length cap false)
    have hmb := (MapKept.heap_alloc v1 (rbox (some ⟨g, 0, none⟩) ts.length cap false)).1
    obtain ⟨m, hm⟩ : ∃ m, v1.heap.size = m := ⟨_, rfl⟩
    have hgm : 0 < m := by
      have h1 := lt_of_cell (HO.out 0 (by decide))
      have h2 := HB1.out.size
      rw [← hm]
      exact Nat.lt_of_lt_of_le h1 h2
    have HRS := Lib.hid (show RS m (v1.alloc (rbox (some ⟨g, 0, none⟩) ts.length cap false)) ⟨ts, false⟩ from ⟨⟨some ⟨g, 0, none⟩, cap, by rw [← hm]; exact hmb, hat.kept hbm, hcap, fun a ha => by cases ha; show g < m; omega⟩, htt.fin, TabO.low HO.out (lt_of_cell (HO.out 0 (by decide))) fun k hk => (bt HB1.out hbm).block k hk, hgm⟩)
    have HBm := Lib.hid (bt HB1.out hbm)
    have HNm := Lib.hid (HN1.out.next hbm)
    have HUm := Lib.hid (HU1.out.next hbm)
    have HTt := Lib.hid htt
    have HmU := Lib.hid (show U + 2 ≤ m by rw [← hm]; exact HS1.out)
    have HSm := Lib.hid (show (v1.alloc (rbox (some ⟨g, 0, none⟩) ts.length cap false)).heap.size = m + 1 by rw [World.size_alloc, hm])
    have HRu := Lib.hid (pquery_any 40008 m 5000 (by decide) ((levs_any m 40008 5000).1 (by decide)) ⟨ts, false⟩ _ HRS.out htt.len)
    have HG := Lib.hid (query_gd 40008 htt)
    obtain ⟨⟨x1, s1⟩, hq⟩ : ∃ q, (Pa.queryP (Pa.lev 40008 0)) ⟨ts, false⟩ = q := ⟨_, rfl⟩
    rw [hq] at HRu HG
    have HQ := Lib.hid hq
    simp only at HRu HG
    clear ho htt hne hat hcap hg1 hg2 hbm hmb hgm hq
    go_wp2_with fail
    clear hm
    refine HRu.out.mono ?_
    rintro e v2 ⟨c, rfl, hC, hR, hM⟩
    have hC0 := hC
    obtain ⟨pA, oA, pc, oc, rfl, hqq⟩ := hC0
    have HB2 := Lib.hid (show Below w.heap.size w v2 from HBm.out.trans (hM.below (by have := HmU.out; have := HUl.out; omega) HBm.out.size))
    have HN2 := Lib.hid (HNm.out.butm (by have := HmU.out; omega) hM)
    have HU2 := Lib.hid (HUm.out.butm (by have := HmU.out; omega) hM)
    have hbv := ba v2 (.cells #[.slice pA x1.parts.length pc, .slice oA x1.order.length oc, .int .i64 x1.lim] 26)
    have HVv := Lib.hid (show BxU (v2.alloc (.cells #[.slice pA x1.parts.length pc, .slice oA x1.order.length oc, .int .i64 x1.lim] 26)) v2.heap.size #[.slice pA x1.parts.length pc, .slice oA x1.order.length oc, .int .i64 x1.lim] 26 from (MapKept.heap_alloc v2 (.cells #[.slice pA x1.parts.length pc, .slice oA x1.order.length oc, .int .i64 x1.lim] 26)).1)
    have HR3 := Lib.hid (hR.next hbv)
    have HB3 := Lib.hid (bt HB2.out hbv)
    have HN3 := Lib.hid (HN2.out.next hbv)
    have HU3 := Lib.hid (HU2.out.next hbv)
    have HC3 := Lib.hid (quC_ok.keep (a := m + 1) (b := v2.heap.size) hbv (Nat.le_refl _) (by rw [HSm.out] at hC; exact hC))
    have HL3 := Lib.hid (show v2.heap.size ≤ (v2.alloc (.cells #[.slice pA x1.parts.length pc, .slice oA x1.order.length oc, .int .i64 x1.lim] 26)).heap.size from hbv.size)
    have hmV : m < v2.heap.size := by have := hM.size; rw [HSm.out] at this; omega
    clear hqq hC hR hM hbv
    obtain ⟨x0, _, _, _, _, hx0, htk, hat0, _⟩ := HR3.out.rd.head HR3.out.fin
    have HXX := Lib.hid (show X = if s1.bad = true ∨ s1.tk.k ≠ 6 then .bad s1.at 110 else if isQuB x1 = true then .ok x1 else .bad 0 3 by
      have h : X = (if ((Pa.queryP (Pa.lev 40008 0)) ⟨ts, false⟩).2.bad = true ∨ ((Pa.queryP (Pa.lev 40008 0)) ⟨ts, false⟩).2.tk.k ≠ 6 then .bad ((Pa.queryP (Pa.lev 40008 0)) ⟨ts, false⟩).2.at 110 else if isQuB ((Pa.queryP (Pa.lev 40008 0)) ⟨ts, false⟩).1 then .ok ((Pa.queryP (Pa.lev 40008 0)) ⟨ts, false⟩).1 else .bad 0 3) := HX.out
      rw [HQ.out] at h
      exact h)
    have HNx := Lib.hid (show ∀ W, Below (v2.alloc (.cells #[.slice pA x1.parts.length pc, .slice oA x1.order.length oc, .int .i64 x1.lim] 26)).heap.size (v2.alloc (.cells #[.slice pA x1.parts.length pc, .slice oA x1.order.length oc, .int .i64 x1.lim] 26)) W → Calls Tryz.prog 40 #[.pointer (some ⟨m, 0, none⟩)] W (fun e w4 => e = .returned (tkv x0) ∧ Hid (Below (v2.alloc (.cells #[.slice pA x1.parts.length pc, .slice oA x1.order.length oc, .int .i64 x1.lim] 26)).heap.size (v2.alloc (.cells #[.slice pA x1.parts.length pc, .slice oA x1.order.length oc, .int .i64 x1.lim] 26)) w4) ∧ w4.cell? ⟨U + 1, 0, none⟩ = some (.slice none 0 0) ∧ w4.cell? ⟨U + 1, 1, none⟩ = some (.slice none 0 0) ∧ w4.cell? ⟨U + 1, 2, none⟩ = some (.int .i64 0) ∧ w4.cell? ⟨U, 0, none⟩ = some (.slice none 0 0) ∧ w4.cell? ⟨U, 1, none⟩ = some (.slice none 0 0) ∧ w4.cell? ⟨U, 2, none⟩ = some (.int .i64 0) ∧ w4.frozen? ⟨U, 0, none⟩ = false ∧ w4.frozen? ⟨U, 1, none⟩ = false ∧ w4.frozen? ⟨U, 2, none⟩ = false) from fun W hW => (next_any m s1 W (HR3.out.next hW).rd HR3.out.fin).mono (fun e w4 hE => by
      obtain ⟨⟨y, hy, _, _, rfl⟩, hb⟩ := hE
      rw [hx0] at hy
      cases hy
      have hb3 := bt hW hb
      exact ⟨rfl, Lib.hid hb3, (HN3.out.next hb3).cell 0, (HN3.out.next hb3).cell 1, (HN3.out.next hb3).cell 2, (HU3.out.next hb3).cell 0, (HU3.out.next hb3).cell 1, (HU3.out.next hb3).cell 2, (HU3.out.next hb3).frozen 0, (HU3.out.next hb3).frozen 1, (HU3.out.next hb3).frozen 2⟩))
    have HAt := Lib.hid hat0
    have HTk := Lib.hid htk
    clear hx0 htk hat0 hmV
    have c1 := HR3.out.c1
    have hfa : ∀ W : World, _ := field_tokA x0.1.k ⟨x0.1.s.toArray⟩ x0.1.n x0.2
    have hfk : ∀ W : World, _ := field_tokK x0.1.k ⟨x0.1.s.toArray⟩ x0.1.n x0.2
    cases hbad : s1.bad with
    | true =>
      rw [hbad] at c1
      have HXe := Lib.hid (show X = .bad x0.2 110 by rw [HXX.out, if_pos (.inl hbad), HAt.out])
      clear hbad
      go_wp2_with fail
      generalize (v2.alloc (.cells #[.slice pA x1.parts.length pc, .slice oA x1.order.length oc, .int .i64 x1.lim] 26)) = W3 at HR3 HB3 HN3 HU3 HC3 HL3 HVv HNx c1 ⊢
      have n0 : W3.cell? ⟨U + 1, 0, none⟩ = some (.slice none 0 0) := HN3.out.cell 0
      have n1 : W3.cell? ⟨U + 1, 1, none⟩ = some (.slice none 0 0) := HN3.out.cell 1
      have n2 : W3.cell? ⟨U + 1, 2, none⟩ = some (.int .i64 0) := HN3.out.cell 2
      go_region_with (refine (HNx.out _ (by repeat (first | exact Below.refl _ _ | refine Below.drew ?_))).mono ?_; rintro e w4 ⟨rfl, hb4, n0, n1, n2, u0, u1, u2, fu0, fu1, fu2⟩)
      all_goals
        have HB4 := Lib.hid (bt HB3.out hb4.out)
        clear hb4
        go_wp2_with fail
        exact bodyPost_ret (v := .tuple #[.agg #[.slice none 0 0, .slice none 0 0, .int .i64 0], .int .i64 x0.2, .int .i64 110]) (by simp [results, Tryz.results18, go_sem, u0, u1, u2]) rfl (by rw [HXe.out]; exact ⟨rfl, onu_below (OnU.refl _ _).set.set.set HUl.out HB4.out⟩)
    | false =>
      rw [hbad] at c1
      have HBd := Lib.hid hbad
      clear hbad
      go_wp2_with fail
      generalize (v2.alloc (.cells #[.slice pA x1.parts.length pc, .slice oA x1.order.length oc, .int .i64 x1.lim] 26)) = W3 at HR3 HB3 HN3 HU3 HC3 HL3 HVv HNx c1 ⊢
      refine (HNx.out _ (Below.refl _ _)).mono ?_
      rintro e w4 ⟨rfl, hb4, n0, n1, n2, u0, u1, u2, fu0, fu1, fu2⟩
      have HR4 := Lib.hid (HR3.out.next hb4.out)
      have HB4 := Lib.hid (bt HB3.out hb4.out)
      have HN4 := Lib.hid (HN3.out.next hb4.out)
      have HU4 := Lib.hid (HU3.out.next hb4.out)
      have HV4 := Lib.hid (HVv.out.next hb4.out)
      have HW4 := Lib.hid hb4.out
      clear hb4 c1
      by_cases hk6 : x0.1.k = 6
      case neg =>
        have hk6b : ¬ ((x0.1.k : Int) = 6) := by omega
        have HXe := Lib.hid (show X = .bad x0.2 110 by rw [HXX.out, if_pos (.inr (by rw [HTk.out]; exact hk6)), HAt.out])
        have HNy := Lib.hid (fun (W : World) (hW : Below w4.heap.size w4 W) => HNx.out W (bt HW4.out hW))
        clear hk6
        go_wp2_with fail
        go_region_with (refine (HNy.out _ (by repeat (first | exact Below.refl _ _ | refine Below.drew ?_))).mono ?_; rintro e w5 ⟨rfl, hb5, q0, q1, q2, r0, r1, r2, fr0, fr1, fr2⟩)
        all_goals
          have HB5 := Lib.hid (bt HB3.out hb5.out)
          clear hb5
          go_wp2_with fail
          exact bodyPost_ret (v := .tuple #[.agg #[.slice none 0 0, .slice none 0 0, .int .i64 0], .int .i64 x0.2, .int .i64 110]) (by simp [results, Tryz.results18, go_sem, r0, r1, r2]) rfl (by rw [HXe.out]; exact ⟨rfl, onu_below (OnU.refl _ _).set.set.set HUl.out HB5.out⟩)

      case pos =>
        have hk6b : ((x0.1.k : Int) = 6) := by omega
        have HX6 := Lib.hid (show X = if isQuB x1 = true then .ok x1 else .bad 0 3 by rw [HXX.out, if_neg]; rintro (h | h) <;> first | (rw [HBd.out] at h; cases h) | exact h (by rw [HTk.out]; exact hk6))
        clear hk6
        have b0 : w4.cell? ⟨v2.heap.size, 0, none⟩ = some (.slice pA x1.parts.length pc) := HV4.out.cell 0
        have b1 : w4.cell? ⟨v2.heap.size, 1, none⟩ = some (.slice oA x1.order.length oc) := HV4.out.cell 1
        have b2 : w4.cell? ⟨v2.heap.size, 2, none⟩ = some (.int .i64 x1.lim) := HV4.out.cell 2
        have HC4 := Lib.hid (show quC (Ab w4) w4 x1 [.slice pA x1.parts.length pc, .slice oA x1.order.length oc, .int .i64 x1.lim] from quC_ok.go (fun k hk => HW4.out.block k (Nat.lt_of_lt_of_le hk.2 HL3.out)) (fun k hk => Nat.lt_of_lt_of_le hk.2 (Nat.le_trans HL3.out HW4.out.size)) HC3.out)
        cases hok : isQuB x1 with
        | false =>
          have HXe := Lib.hid (show X = .bad 0 3 by rw [HX6.out, hok]; rfl)
          have HCk := Lib.hid (show Calls Tryz.prog 10 #[.agg #[.slice pA x1.parts.length pc, .slice oA x1.order.length oc, .int .i64 x1.lim]] w4 (fun e w5 => e = .returned (.int .i64 110) ∧ Below w4.heap.size w4 w5) from (qcheck_any x1 _ w4 HC4.out HG.out (HT.out.kept HB4.out)).mono (by rw [hok]; exact fun _ _ h => h))
          clear hok
          go_wp2_with fail
          refine HCk.out.mono ?_
          rintro e w5 ⟨rfl, hb⟩
          have HB5 := Lib.hid (bt HB4.out hb)
          have q0 : w5.cell? ⟨U + 1, 0, none⟩ = some (.slice none 0 0) := (HN4.out.next hb).cell 0
          have q1 : w5.cell? ⟨U + 1, 1, none⟩ = some (.slice none 0 0) := (HN4.out.next hb).cell 1
          have q2 : w5.cell? ⟨U + 1, 2, none⟩ = some (.int .i64 0) := (HN4.out.next hb).cell 2
          have r0 : w5.cell? ⟨U, 0, none⟩ = some (.slice none 0 0) := (HU4.out.next hb).cell 0
          have r1 : w5.cell? ⟨U, 1, none⟩ = some (.slice none 0 0) := (HU4.out.next hb).cell 1
          have r2 : w5.cell? ⟨U, 2, none⟩ = some (.int .i64 0) := (HU4.out.next hb).cell 2
          have fr0 : w5.frozen? ⟨U, 0, none⟩ = false := (HU4.out.next hb).frozen 0
          have fr1 : w5.frozen? ⟨U, 1, none⟩ = false := (HU4.out.next hb).frozen 1
          have fr2 : w5.frozen? ⟨U, 2, none⟩ = false := (HU4.out.next hb).frozen 2
          clear hb
          go_wp2_with fail
          exact bodyPost_ret (v := .tuple #[.agg #[.slice none 0 0, .slice none 0 0, .int .i64 0], .int .i64 0, .int .i64 3]) (by simp [results, Tryz.results18, go_sem, r0, r1, r2]) rfl (by rw [HXe.out]; exact ⟨rfl, onu_below ((OnU.refl U w5).set.set.set) HUl.out HB5.out⟩)
        | true =>
          have HXe := Lib.hid (show X = .ok x1 by rw [HX6.out, hok]; rfl)
          have HCk := Lib.hid (show Calls Tryz.prog 10 #[.agg #[.slice pA x1.parts.length pc, .slice oA x1.order.length oc, .int .i64 x1.lim]] w4 (fun e w5 => e = .returned (.int .i64 0) ∧ Below w4.heap.size w4 w5) from (qcheck_any x1 _ w4 HC4.out HG.out (HT.out.kept HB4.out)).mono (by rw [hok]; exact fun _ _ h => h))
          clear hok
          go_wp2_with fail
          refine HCk.out.mono ?_
          rintro e w5 ⟨rfl, hb⟩
          have HB5 := Lib.hid (bt HB4.out hb)
          have HW5 := Lib.hid (bt HW4.out hb)
          have b0 : w5.cell? ⟨v2.heap.size, 0, none⟩ = some (.slice pA x1.parts.length pc) := (HV4.out.next hb).cell 0
          have b1 : w5.cell? ⟨v2.heap.size, 1, none⟩ = some (.slice oA x1.order.length oc) := (HV4.out.next hb).cell 1
          have b2 : w5.cell? ⟨v2.heap.size, 2, none⟩ = some (.int .i64 x1.lim) := (HV4.out.next hb).cell 2
          have r0 : w5.cell? ⟨U, 0, none⟩ = some (.slice none 0 0) := (HU4.out.next hb).cell 0
          have r1 : w5.cell? ⟨U, 1, none⟩ = some (.slice none 0 0) := (HU4.out.next hb).cell 1
          have r2 : w5.cell? ⟨U, 2, none⟩ = some (.int .i64 0) := (HU4.out.next hb).cell 2
          have fr0 : w5.frozen? ⟨U, 0, none⟩ = false := (HU4.out.next hb).frozen 0
          have fr1 : w5.frozen? ⟨U, 1, none⟩ = false := (HU4.out.next hb).frozen 1
          have fr2 : w5.frozen? ⟨U, 2, none⟩ = false := (HU4.out.next hb).frozen 2
          clear hb
          go_wp2_with fail
          exact bodyPost_ret (v := .tuple #[.agg #[.slice pA x1.parts.length pc, .slice oA x1.order.length oc, .int .i64 x1.lim], .int .i64 0, .int .i64 0]) (by simp [results, Tryz.results18, go_sem, r0, r1, r2]) rfl (by rw [HXe.out]; exact ⟨[.slice pA x1.parts.length pc, .slice oA x1.order.length oc, .int .i64 x1.lim], rfl, quC_ok.go (fun k hk => (((OnU.refl U w5).set.set.set).block k (by have := hk.1; have := HmU.out; omega)).trans (HW5.out.block k (Nat.lt_of_lt_of_le hk.2 HL3.out))) (fun k hk => ⟨by have := hk.1; have := HmU.out; have := HUl.out; omega, by rw [((OnU.refl U w5).set.set.set).size]; exact Nat.lt_of_lt_of_le hk.2 (Nat.le_trans HL3.out HW5.out.size)⟩) HC3.out, onu_below ((OnU.refl U w5).set.set.set) HUl.out HB5.out⟩)
end Go.Proofs.YtfjimoccliejdaaGreatDoor
end
section
namespace Go.Proofs.YtfjimoccliejdaaGreatDoor
open Go.RowKit Go.Shelf

set_option maxRecDepth 100000 in
set_option maxHeartbeats 8000000 in
theorem pexpr_any (s : ByteArray) (w : World) (hs : s.size ≤ 16384) (hT : Tabs w) (hO : TabO w) :
  Calls Tryz.prog 11 #[.string s] w (WhE exC #[.int .i64 0, .int .i64 0, .int .i64 0, .int .i64 0, .string ⟨#[]⟩, .string ⟨#[]⟩, .string ⟨#[]⟩, .slice none 0 0] (whR (Pa.lev 40008 0) okX (bs s)) w) := by
 have hb1 := ba w (.cells #[.int .i64 0, .int .i64 0, .int .i64 0, .int .i64 0, .string ⟨#[]⟩, .string ⟨#[]⟩, .string ⟨#[]⟩, .slice none 0 0] 37)
 obtain ⟨U, hU⟩ : ∃ U, w.heap.size = U := ⟨_, rfl⟩
 have HU0 := Lib.hid (show BxU (w.alloc (.cells #[.int .i64 0, .int .i64 0, .int .i64 0, .int .i64 0, .string ⟨#[]⟩, .string ⟨#[]⟩, .string ⟨#[]⟩, .slice none 0 0] 37)) U #[.int .i64 0, .int .i64 0, .int .i64 0, .int .i64 0, .string ⟨#[]⟩, .string ⟨#[]⟩, .string ⟨#[]⟩, .slice none 0 0] 37 from by rw [← hU]; exact (MapKept.heap_alloc w (.cells #[.int .i64 0, .int .i64 0, .int .i64 0, .int .i64 0, .string ⟨#[]⟩, .string ⟨#[]⟩, .string ⟨#[]⟩, .slice none 0 0] 37)).1)
 have HSz := Lib.hid (show (w.alloc (.cells #[.int .i64 0, .int .i64 0, .int .i64 0, .int .i64 0, .string ⟨#[]⟩, .string ⟨#[]⟩, .string ⟨#[]⟩, .slice none 0 0] 37)).heap.size = U + 1 by rw [World.size_alloc, hU])
 have HW := Lib.hid (wholeE_any s (w.alloc (.cells #[.int .i64 0, .int .i64 0, .int .i64 0, .int .i64 0, .string ⟨#[]⟩, .string ⟨#[]⟩, .string ⟨#[]⟩, .slice none 0 0] 37)) hs (hT.kept hb1) (TabO.low hO (lt_of_cell (hO 0 (by decide))) fun k hk => hb1.block k hk))
 have HB := Lib.hid hb1
 have HUl := Lib.hid hU
 obtain ⟨X, hX⟩ : ∃ X, whR (Pa.lev 40008 0) okX (bs s) = X := ⟨_, rfl⟩
 rw [hX] at HW ⊢
 clear hb1 hT hO hX
 go_enter Tryz.func11, Tryz.ntmps11
 go_wp2_with fail
 clear hU
 generalize w.alloc (.cells #[.int .i64 0, .int .i64 0, .int .i64 0, .int .i64 0, .string ⟨#[]⟩, .string ⟨#[]⟩, .string ⟨#[]⟩, .slice none 0 0] 37) = W1 at HB HU0 HSz HW ⊢
 refine HW.out.mono ?_
 intro e w1 hE
 cases X with
 | bad n k =>
  obtain ⟨rfl, hb⟩ := hE
  have HB1 := Lib.hid (bt HB.out hb)
  have HU1 := Lib.hid (HU0.out.next hb)
  clear hb
  have r0 : w1.cell? ⟨U, 0, none⟩ = some (.int .i64 0) := HU1.out.cell 0
  have fr0 : w1.frozen? ⟨U, 0, none⟩ = false := HU1.out.frozen 0
  have r1 : w1.cell? ⟨U, 1, none⟩ = some (.int .i64 0) := HU1.out.cell 1
  have fr1 : w1.frozen? ⟨U, 1, none⟩ = false := HU1.out.frozen 1
  have r2 : w1.cell? ⟨U, 2, none⟩ = some (.int .i64 0) := HU1.out.cell 2
  have fr2 : w1.frozen? ⟨U, 2, none⟩ = false := HU1.out.frozen 2
  have r3 : w1.cell? ⟨U, 3, none⟩ = some (.int .i64 0) := HU1.out.cell 3
  have fr3 : w1.frozen? ⟨U, 3, none⟩ = false := HU1.out.frozen 3
  have r4 : w1.cell? ⟨U, 4, none⟩ = some (.string ⟨#[]⟩) := HU1.out.cell 4
  have fr4 : w1.frozen? ⟨U, 4, none⟩ = false := HU1.out.frozen 4
  have r5 : w1.cell? ⟨U, 5, none⟩ = some (.string ⟨#[]⟩) := HU1.out.cell 5
  have fr5 : w1.frozen? ⟨U, 5, none⟩ = false := HU1.out.frozen 5
  have r6 : w1.cell? ⟨U, 6, none⟩ = some (.string ⟨#[]⟩) := HU1.out.cell 6
  have fr6 : w1.frozen? ⟨U, 6, none⟩ = false := HU1.out.frozen 6
  have r7 : w1.cell? ⟨U, 7, none⟩ = some (.slice none 0 0) := HU1.out.cell 7
  have fr7 : w1.frozen? ⟨U, 7, none⟩ = false := HU1.out.frozen 7
  go_wp2_with fail
  exact bodyPost_ret (v := .tuple #[.agg #[.int .i64 0, .int .i64 0, .int .i64 0, .int .i64 0, .string ⟨#[]⟩, .string ⟨#[]⟩, .string ⟨#[]⟩, .slice none 0 0], .int .i64 n, .int .i64 k]) (by simp [results, Tryz.results11, go_sem, r0, r1, r2, r3, r4, r5, r6, r7]) rfl ⟨rfl, onu_below ((OnU.refl U w1).set.set.set.set.set.set.set.set) HUl.out HB1.out⟩
 | ok x =>
  obtain ⟨c, rfl, hC, hb⟩ := hE
  have hC0 := hC
  obtain ⟨⟨hd, A, n, cp⟩, rfl, hqq⟩ := hC0
  rw [show (xcell (hd, A, n, cp)).toArray = #[.int .i64 hd.k, .int .i64 hd.n, .int .i64 hd.vk, .int .i64 hd.vn, .string hd.vs, .string hd.tab, .string hd.col, .slice A n cp] from rfl]
  have HB1 := Lib.hid (bt HB.out hb)
  have HU1 := Lib.hid (HU0.out.next hb)
  have HC := Lib.hid hC
  clear hb hC hqq
  have r0 : w1.cell? ⟨U, 0, none⟩ = some (.int .i64 0) := HU1.out.cell 0
  have fr0 : w1.frozen? ⟨U, 0, none⟩ = false := HU1.out.frozen 0
  have r1 : w1.cell? ⟨U, 1, none⟩ = some (.int .i64 0) := HU1.out.cell 1
  have fr1 : w1.frozen? ⟨U, 1, none⟩ = false := HU1.out.frozen 1
  have r2 : w1.cell? ⟨U, 2, none⟩ = some (.int .i64 0) := HU1.out.cell 2
  have fr2 : w1.frozen? ⟨U, 2, none⟩ = false := HU1.out.frozen 2
  have r3 : w1.cell? ⟨U, 3, none⟩ = some (.int .i64 0) := HU1.out.cell 3
  have fr3 : w1.frozen? ⟨U, 3, none⟩ = false := HU1.out.frozen 3
  have r4 : w1.cell? ⟨U, 4, none⟩ = some (.string ⟨#[]⟩) := HU1.out.cell 4
  have fr4 : w1.frozen? ⟨U, 4, none⟩ = false := HU1.out.frozen 4
  have r5 : w1.cell? ⟨U, 5, none⟩ = some (.string ⟨#[]⟩) := HU1.out.cell 5
  have fr5 : w1.frozen? ⟨U, 5, none⟩ = false := HU1.out.frozen 5
  have r6 : w1.cell? ⟨U, 6, none⟩ = some (.string ⟨#[]⟩) := HU1.out.cell 6
  have fr6 : w1.frozen? ⟨U, 6, none⟩ = false := HU1.out.frozen 6
  have r7 : w1.cell? ⟨U, 7, none⟩ = some (.slice none 0 0) := HU1.out.cell 7
  have fr7 : w1.frozen? ⟨U, 7, none⟩ = false := HU1.out.frozen 7
  go_wp2_with fail
  exact bodyPost_ret (v := .tuple #[.agg #[.int .i64 hd.k, .int .i64 hd.n, .int .i64 hd.vk, .int .i64 hd.vn, .string hd.vs, .string hd.tab, .string hd.col, .slice A n cp], .int .i64 0, .int .i64 0]) (by simp [results, Tryz.results11, go_sem, r0, r1, r2, r3, r4, r5, r6, r7]) rfl ⟨(xcell (hd, A, n, cp)), rfl, exC_ok.go (fun k hk => ((OnU.refl U w1).set.set.set.set.set.set.set.set).block k (by have := hk.1; have := HSz.out; omega)) (fun k hk => ⟨by have := hk.1; have := HSz.out; have := HUl.out; omega, by rw [((OnU.refl U w1).set.set.set.set.set.set.set.set).size]; exact hk.2⟩) HC.out, onu_below ((OnU.refl U w1).set.set.set.set.set.set.set.set) HUl.out HB1.out⟩
set_option maxRecDepth 100000 in
set_option maxHeartbeats 8000000 in
theorem pparse_any (s : ByteArray) (w : World) (hs : s.size ≤ 16384) (hT : Tabs w) (hO : TabO w) :
  Calls Tryz.prog 7 #[.string s] w (WhE quC #[.slice none 0 0, .slice none 0 0, .int .i64 0] (whR (Pa.queryP (Pa.lev 40008 0)) isQuB (bs s)) w) := by
 have hb1 := ba w (.cells #[.slice none 0 0, .slice none 0 0, .int .i64 0] 26)
 obtain ⟨U, hU⟩ : ∃ U, w.heap.size = U := ⟨_, rfl⟩
 have HU0 := Lib.hid (show BxU (w.alloc (.cells #[.slice none 0 0, .slice none 0 0, .int .i64 0] 26)) U #[.slice none 0 0, .slice none 0 0, .int .i64 0] 26 from by rw [← hU]; exact (MapKept.heap_alloc w (.cells #[.slice none 0 0, .slice none 0 0, .int .i64 0] 26)).1)
 have HSz := Lib.hid (show (w.alloc (.cells #[.slice none 0 0, .slice none 0 0, .int .i64 0] 26)).heap.size = U + 1 by rw [World.size_alloc, hU])
 have HW := Lib.hid (wholeQ_any s (w.alloc (.cells #[.slice none 0 0, .slice none 0 0, .int .i64 0] 26)) hs (hT.kept hb1) (TabO.low hO (lt_of_cell (hO 0 (by decide))) fun k hk => hb1.block k hk))
 have HB := Lib.hid hb1
 have HUl := Lib.hid hU
 obtain ⟨X, hX⟩ : ∃ X, whR (Pa.queryP (Pa.lev 40008 0)) isQuB (bs s) = X := ⟨_, rfl⟩
 rw [hX] at HW ⊢
 clear hb1 hT hO hX
 go_enter Tryz.func7, Tryz.ntmps7
 go_wp2_with fail
 clear hU
 generalize w.alloc (.cells #[.slice none 0 0, .slice none 0 0, .int .i64 0] 26) = W1 at HB HU0 HSz HW ⊢
 refine HW.out.mono ?_
 intro e w1 hE
 cases X with
 | bad n k =>
  obtain ⟨rfl, hb⟩ := hE
  have HB1 := Lib.hid (bt HB.out hb)
  have HU1 := Lib.hid (HU0.out.next hb)
  clear hb
  have r0 : w1.cell? ⟨U, 0, none⟩ = some (.slice none 0 0) := HU1.out.cell 0
  have fr0 : w1.frozen? ⟨U, 0, none⟩ = false := HU1.out.frozen 0
  have r1 : w1.cell? ⟨U, 1, none⟩ = some (.slice none 0 0) := HU1.out.cell 1
  have fr1 : w1.frozen? ⟨U, 1, none⟩ = false := HU1.out.frozen 1
  have r2 : w1.cell? ⟨U, 2, none⟩ = some (.int .i64 0) := HU1.out.cell 2
  have fr2 : w1.frozen? ⟨U, 2, none⟩ = false := HU1.out.frozen 2
  go_wp2_with fail
  exact bodyPost_ret (v := .tuple #[.agg #[.slice none 0 0, .slice none 0 0, .int .i64 0], .int .i64 n, .int .i64 k]) (by simp [results, Tryz.results7, go_sem, r0, r1, r2]) rfl ⟨rfl, onu_below ((OnU.refl U w1).set.set.set) HUl.out HB1.out⟩
 | ok x =>
  obtain ⟨c, rfl, hC, hb⟩ := hE
  have hC0 := hC
  obtain ⟨pA, oA, pc, oc, rfl, hqq⟩ := hC0
  have HB1 := Lib.hid (bt HB.out hb)
  have HU1 := Lib.hid (HU0.out.next hb)
  have HC := Lib.hid hC
  clear hb hC hqq
  have r0 : w1.cell? ⟨U, 0, none⟩ = some (.slice none 0 0) := HU1.out.cell 0
  have fr0 : w1.frozen? ⟨U, 0, none⟩ = false := HU1.out.frozen 0
  have r1 : w1.cell? ⟨U, 1, none⟩ = some (.slice none 0 0) := HU1.out.cell 1
  have fr1 : w1.frozen? ⟨U, 1, none⟩ = false := HU1.out.frozen 1
  have r2 : w1.cell? ⟨U, 2, none⟩ = some (.int .i64 0) := HU1.out.cell 2
  have fr2 : w1.frozen? ⟨U, 2, none⟩ = false := HU1.out.frozen 2
  go_wp2_with fail
  exact bodyPost_ret (v := .tuple #[.agg #[.slice pA x.parts.length pc, .slice oA x.order.length oc, .int .i64 x.lim], .int .i64 0, .int .i64 0]) (by simp [results, Tryz.results7, go_sem, r0, r1, r2]) rfl ⟨[.slice pA x.parts.length pc, .slice oA x.order.length oc, .int .i64 x.lim], rfl, quC_ok.go (fun k hk => ((OnU.refl U w1).set.set.set).block k (by have := hk.1; have := HSz.out; omega)) (fun k hk => ⟨by have := hk.1; have := HSz.out; have := HUl.out; omega, by rw [((OnU.refl U w1).set.set.set).size]; exact hk.2⟩) HC.out, onu_below ((OnU.refl U w1).set.set.set) HUl.out HB1.out⟩
end Go.Proofs.YtfjimoccliejdaaGreatDoor
end
section
namespace Go.Proofs.YtfjimoccliejdaaGreatDoor
open Go.RowKit Go.Shelf

theorem box4_set {w : World} {V : Nat} {T : TypeId} {a0 a1 a2 a3 : Value} (h : BxU w V #[a0, a1, a2, a3] T) (b0 b1 b2 b3 : Value) :
  BxU ((((w.setCell ⟨V, 0, none⟩ b0).setCell ⟨V, 1, none⟩ b1).setCell ⟨V, 2, none⟩ b2).setCell ⟨V, 3, none⟩ b3) V #[b0, b1, b2, b3] T := by
 unfold BxU at h ⊢
 simp [World.setCell, Array.getElem?_modify, h]
theorem exC_onu {U : Nat} {w Wn W' : World} {x : Ex} {c : List Value} (hO : OnU U Wn W') (hU : w.heap.size = U) (hC : exC (Bt (U + 1) Wn.heap.size) Wn x c) : exC (Bt w.heap.size W'.heap.size) W' x c :=
 exC_ok.go (fun k hk => hO.block k (by have := hk.1; omega)) (fun k hk => ⟨by have := hk.1; omega, by rw [hO.size]; exact hk.2⟩) hC
theorem rp_new {w : World} {g c : Nat} {ts : List TkA} (hT : TkAt w (some ⟨g, 0, none⟩) ts) (hg : g < w.heap.size) (hf : Pa.Fin ts) (h5 : ts.length ≤ 5000) (hc : ts.length ≤ c) :
  RP w.heap.size (w.alloc (pbox (some ⟨g, 0, none⟩) ts.length c 0 false)) ⟨ts, false⟩ := by
 have hb := ba w (pbox (some ⟨g, 0, none⟩) ts.length c 0 false)
 exact ⟨⟨g, 0, c, ts, 0, (MapKept.heap_alloc w _).1, tkat_blk hT (hb.block g hg), rfl, hg, h5, hc⟩, hf⟩
set_option maxRecDepth 100000 in
set_option maxHeartbeats 8000000 in
theorem qexpr_any (s : ByteArray) (w : World) (hs : s.size ≤ 16384) :
    Calls Tryz.prog 12 #[.string s] w (WhE exC #[.int .i64 0, .int .i64 0, .int .i64 0, .int .i64 0, .string ⟨#[]⟩, .string ⟨#[]⟩, .string ⟨#[]⟩, .slice none 0 0] (whR (Pa.lev 40008 0) okX (bs s)) w) := by
  have hb1 := ba w (.cells #[.int .i64 0, .int .i64 0, .int .i64 0, .int .i64 0, .string ⟨#[]⟩, .string ⟨#[]⟩, .string ⟨#[]⟩, .slice none 0 0] 37)
  obtain ⟨U, hU⟩ : ∃ U, w.heap.size = U := ⟨_, rfl⟩
  have HU0 := Lib.hid (show BxU (w.alloc (.cells #[.int .i64 0, .int .i64 0, .int .i64 0, .int .i64 0, .string ⟨#[]⟩, .string ⟨#[]⟩, .string ⟨#[]⟩, .slice none 0 0] 37)) U #[.int .i64 0, .int .i64 0, .int .i64 0, .int .i64 0, .string ⟨#[]⟩, .string ⟨#[]⟩, .string ⟨#[]⟩, .slice none 0 0] 37 from by rw [← hU]; exact (MapKept.heap_alloc w (.cells #[.int .i64 0, .int .i64 0, .int .i64 0, .int .i64 0, .string ⟨#[]⟩, .string ⟨#[]⟩, .string ⟨#[]⟩, .slice none 0 0] 37)).1)
  have HSz := Lib.hid (show (w.alloc (.cells #[.int .i64 0, .int .i64 0, .int .i64 0, .int .i64 0, .string ⟨#[]⟩, .string ⟨#[]⟩, .string ⟨#[]⟩, .slice none 0 0] 37)).heap.size = U + 1 by rw [World.size_alloc, hU])
  have HA := Lib.hid (refAll_any s (w.alloc (.cells #[.int .i64 0, .int .i64 0, .int .i64 0, .int .i64 0, .string ⟨#[]⟩, .string ⟨#[]⟩, .string ⟨#[]⟩, .slice none 0 0] 37)) hs)
  have HB := Lib.hid hb1
  have HUl := Lib.hid hU
  obtain ⟨X, hX⟩ : ∃ X, whR (Pa.lev 40008 0) okX (bs s) = X := ⟨_, rfl⟩
  rw [hX]
  unfold whR at hX
  obtain ⟨R, hR⟩ : ∃ R, Lx.lx ((bs s).length + 1) (bs s) 0 0 = R := ⟨_, rfl⟩
  rw [hR] at hX
  rw [show s.size + 1 = (bs s).length + 1 by rw [bs_len], hR] at HA
  have HX := Lib.hid hX
  have HR := Lib.hid hR
  clear hb1 hX hR
  go_enter Tryz.func12, Tryz.ntmps12
  go_wp2_with fail
  clear hU
  generalize w.alloc (.cells #[.int .i64 0, .int .i64 0, .int .i64 0, .int .i64 0, .string ⟨#[]⟩, .string ⟨#[]⟩, .string ⟨#[]⟩, .slice none 0 0] 37) = W1 at HB HU0 HSz HA ⊢
  refine HA.out.mono ?_
  rintro e v1 ⟨v, rfl, hv, hb⟩
  have HB1 := Lib.hid (bt HB.out hb)
  have HU1 := Lib.hid (HU0.out.next hb)
  have HS1 := Lib.hid (show U < v1.heap.size by have := hb.size; have := HSz.out; omega)
  have HSz1 := Lib.hid (show W1.heap.size ≤ v1.heap.size from hb.size)
  clear hb
  cases R with
  | bad n k =>
    have hk := lx_bad_k _ _ _ _ _ _ (Nat.lt_succ_self _) HR.out
    have hk0 : ((k : Int) != 0) = true := by rw [bne_iff_ne]; omega
    have hv2 : v = .tuple #[.slice none 0 0, .int .i64 n, .int .i64 k] := hv
    subst hv2
    have HXe := Lib.hid (show X = .bad n k from HX.out.symm)
    clear hv hk
    obtain ⟨c0, c1, c2, c3, c4, c5, c6, c7⟩ := cl8 (w := v1) (HU1.out)
    have fc0 := (HU1.out).frozen 0
    have fc1 := (HU1.out).frozen 1
    have fc2 := (HU1.out).frozen 2
    have fc3 := (HU1.out).frozen 3
    have fc4 := (HU1.out).frozen 4
    have fc5 := (HU1.out).frozen 5
    have fc6 := (HU1.out).frozen 6
    have fc7 := (HU1.out).frozen 7
    go_wp2_with fail
    exact bodyPost_ret (v := .tuple #[.agg #[.int .i64 0, .int .i64 0, .int .i64 0, .int .i64 0, .string ⟨#[]⟩, .string ⟨#[]⟩, .string ⟨#[]⟩, .slice none 0 0], .int .i64 n, .int .i64 k]) (by simp [results, Tryz.results12, go_sem, c0, c1, c2, c3, c4, c5, c6, c7]) rfl (by rw [HXe.out]; exact ⟨rfl, onu_below (OnU.refl U _).set.set.set.set.set.set.set.set HUl.out HB1.out⟩)
  | ok ts n =>
    have hv3 : ∃ l, v = .tuple #[l, .int .i64 n, .int .i64 0] ∧ v1.ownsRow W1.heap.size 66 4 l ts.length (tks ts) := hv
    obtain ⟨l, rfl, hown⟩ := hv3
    obtain ⟨hTt, hne⟩ := text_tt HR.out
    obtain ⟨g, cap, rfl, hat, hlc, hg0, hg⟩ := own_tk hown hne
    have HTt := Lib.hid hTt
    have HP := Lib.hid (rp_new hat hg hTt.fin hTt.len hlc)
    have hbp := ba v1 (pbox (some ⟨g, 0, none⟩) ts.length cap 0 false)
    have HB2 := Lib.hid (bt HB1.out hbp)
    have HU2 := Lib.hid (HU1.out.next hbp)
    have HmW := Lib.hid (show W1.heap.size ≤ v1.heap.size from HSz1.out)
    have Hn := Lib.hid (show ts.length ≤ 5000 from hTt.len)
    clear hv hown hTt hne hat hlc hg0 hg hbp
    go_upto_region 5 with fail
    generalize v1.alloc (.cells #[.slice (some ⟨g, 0, none⟩) ts.length cap, .int .i64 0, .bool false] 64) = W2 at HP HB2 HU2 ⊢
    obtain ⟨m, hm⟩ : ∃ m, v1.heap.size = m := ⟨_, rfl⟩
    have HSm := Lib.hid (show U < m by rw [← hm]; exact HS1.out)
    rw [hm] at HP ⊢
    have Hmw := Lib.hid (show w.heap.size ≤ m by have := HUl.out; have := HSm.out; omega)
    clear hm
    obtain ⟨⟨x, s3⟩, hx⟩ : ∃ q, Pa.lev 40008 0 ⟨ts, false⟩ = q := ⟨_, rfl⟩
    have HO := Lib.hid ((qlevs_any m 40008 5000).1 (by decide) ⟨ts, false⟩ W2 HP.out Hn.out)
    have HSz3 := Lib.hid (Pa.lev_sz 40008 0 ⟨ts, false⟩ HTt.out.fin HTt.out.sm)
    rw [hx] at HO HSz3
    have HXx := Lib.hid hx
    clear hx
    go_wp2_with fail
    refine HO.out.mono ?_
    intro e v3 hE
    obtain ⟨y, A3, cap3, rfl, hC, hy, hR, hM⟩ := RyE.ev hE
    clear hE
    obtain ⟨hd3, l3⟩ := y
    simp only [Ex.hd, Ex.kids] at hC hR hy ⊢
    have HB3 := Lib.hid (HB2.out.trans (hM.below Hmw.out HB2.out.size))
    have HU3 := Lib.hid (HU2.out.butm HSm.out hM)
    have hbv := ba v3 (xbox hd3 A3 l3.length cap3)
    have HR4 := Lib.hid (hR.next hbv)
    have HB4 := Lib.hid (bt HB3.out hbv)
    have HU4 := Lib.hid (HU3.out.next hbv)
    have HV4 := Lib.hid (show BxU _ v3.heap.size #[.int .i64 hd3.k, .int .i64 hd3.n, .int .i64 hd3.vk, .int .i64 hd3.vn, .string hd3.vs, .string hd3.tab, .string hd3.col, .slice A3 l3.length cap3] 37 from (MapKept.heap_alloc v3 (xbox hd3 A3 l3.length cap3)).1)
    have HSV := Lib.hid (show m < v3.heap.size from hR.lt)
    have HC4 := Lib.hid (show exC (Bn w.heap.size (v3.alloc (xbox hd3 A3 l3.length cap3))) (v3.alloc (xbox hd3 A3 l3.length cap3)) (.mk hd3 l3) (xcell (hd3, A3, l3.length, cap3)) from exC_ok.go (fun k hk => hbv.block k hk.2) (fun k hk => ⟨by have := hk.1; have := HB2.out.size; omega, Nat.lt_of_lt_of_le hk.2 hbv.size⟩) hC)
    have HCm := Lib.hid (show ∀ k, Bt W2.heap.size v3.heap.size k → k ≠ m from fun k hk e => by have h1 := hk.1; have h2 := HP.out.lt; omega)
    have HC3 := Lib.hid (show exC (Bt W2.heap.size v3.heap.size) (v3.alloc (xbox hd3 A3 l3.length cap3)) (.mk hd3 l3) (xcell (hd3, A3, l3.length, cap3)) from exC_ok.go (fun k hk => hbv.block k hk.2) (fun k hk => hk) hC)
    have HY := Lib.hid hy
    clear hC hR hM hbv hy
    go_upto_region 6 with fail
    generalize v3.alloc (.cells #[.int .i64 hd3.k, .int .i64 hd3.n, .int .i64 hd3.vk, .int .i64 hd3.vn, .string hd3.vs, .string hd3.tab, .string hd3.col, .slice A3 l3.length cap3] 37) = W4 at HR4 HB4 HU4 HV4 HC4 HC3 ⊢
    obtain ⟨V, hV⟩ : ∃ V, v3.heap.size = V := ⟨_, rfl⟩
    rw [hV] at HV4 HSV HC3 HCm ⊢
    have hV4 := HV4.out.lt
    have HV5 := Lib.hid hV4
    clear hV hV4
    go_wp2_with fail
    refine (qend_any m s3 W4 HR4.out).mono ?_
    rintro e v5 ⟨vv, b, rfl, hM, hiff, hbad, hc2⟩
    have HB5 := Lib.hid (HB4.out.trans (hM.below Hmw.out HB4.out.size))
    have HU5 := Lib.hid (HU4.out.butm HSm.out hM)
    have HW5 := Lib.hid (HV4.out.but HSV.out hM)
    have HC5 := Lib.hid (show exC (Bt (U + 1) v5.heap.size) v5 (.mk hd3 l3) (xcell (hd3, A3, l3.length, cap3)) from exC_ok.go (fun k hk => hM.block k (by have := hk.2; have := HV5.out; omega) (HCm.out k hk)) (fun k hk => ⟨by have := hk.1; have := HU2.out.lt; omega, by have := hk.2; have := HV5.out; have := hM.size; omega⟩) HC3.out)
    have HIf := Lib.hid hiff
    have HBad := Lib.hid hbad
    clear hM hiff hbad
    cases b with
    | true =>
      have hP5 := HBad.out rfl
      have HP5 := Lib.hid hP5
      have HXe := Lib.hid (show X = .bad s3.at 110 by
        have h := HX.out
        simp only [HXx.out] at h
        rw [if_pos (HIf.out.1 rfl)] at h
        exact h.symm)
      obtain ⟨x9, z9, g9, off9, c9, n9, k9, p0, p1, hk9, hn9, htk, hat, hx9, ⟨z0, z1, z2, z3⟩, hg9⟩ := hP5.last
      obtain ⟨L9, hL9⟩ : ∃ L, n9 + 1 = L := ⟨_, rfl⟩
      rw [hL9] at p0
      have hsb : (L9 : Int) - 1 = (n9 : Int) := by omega
      have hwr : IntKind.i64.wrap (n9 : Int) = (n9 : Int) := IntWalk.i64_in _ (by omega)
      have hi0 : (0 : Int) ≤ (n9 : Int) := by omega
      have hi1 : (n9 : Int) < (L9 : Int) := by omega
      have hk9I : (k9 : Int) < (L9 : Int) := by omega
      have HAt := Lib.hid hat
      clear hP5 hx9 htk hat hk9 hn9 hg9 hL9
      go_upto_region 8 with fail
      go_region_held3 (fun w' => w'.cell? ⟨m, 0, none⟩ = some (.slice (some ⟨g9, off9, none⟩) L9 c9) ∧ w'.cell? ⟨g9, off9 + n9 * 4, none⟩ = some (.int .i64 z9.1.k) ∧ w'.cell? ⟨g9, off9 + n9 * 4 + 1, none⟩ = some (.string ⟨z9.1.s.toArray⟩) ∧ w'.cell? ⟨g9, off9 + n9 * 4 + 2, none⟩ = some (.int .i64 z9.1.n) ∧ w'.cell? ⟨g9, off9 + n9 * 4 + 3, none⟩ = some (.int .i64 z9.2))
        (first
          | exact ⟨p0, z0, z1, z2, z3⟩
          | ((try go_split_ands)
             refine ⟨?_, ?_, ?_, ?_, ?_⟩
             all_goals first | assumption | go_keep))
        (first
          | fail)
      have hbt := Below.drew (ba v5 (.cells #[.int .i64 z9.1.k, .string ⟨z9.1.s.toArray⟩, .int .i64 z9.1.n, .int .i64 z9.2] 66))
      have HP6 := Lib.hid (HP5.out.next hbt)
      have HB6 := Lib.hid (bt HB5.out hbt)
      have HU6 := Lib.hid (HU5.out.next hbt)
      have HT6 := Lib.hid (show BxU (v5.alloc (.cells #[.int .i64 z9.1.k, .string ⟨z9.1.s.toArray⟩, .int .i64 z9.1.n, .int .i64 z9.2] 66)).drew v5.heap.size #[.int .i64 z9.1.k, .string ⟨z9.1.s.toArray⟩, .int .i64 z9.1.n, .int .i64 z9.2] 66 from (MapKept.heap_alloc v5 _).1)
      have HUT := Lib.hid (show U < v5.heap.size from HU5.out.lt)
      have HmT := Lib.hid (show m < v5.heap.size from HP5.out.lt)
      have p0 := cell_kept hbt p0
      have p1 := cell_kept hbt p1
      clear hbt z0 z1 z2 z3 hsb hwr hi0 hi1 hc2
      go_upto_region 9 with fail
      generalize (v5.alloc (.cells #[.int .i64 z9.1.k, .string ⟨z9.1.s.toArray⟩, .int .i64 z9.1.n, .int .i64 z9.2] 66)).drew = W6 at HP6 HB6 HU6 HT6 p0 p1 ⊢
      generalize v5.heap.size = T at HT6 HUT HmT ⊢
      go_quiet (fail)
      have HP7 := Lib.hid (show RP m (W6.drewN nq) ⟨s3.ts, true⟩ from HP6.out.low (fun _ _ => rfl))
      have HB7 := Lib.hid (show Below w.heap.size w (W6.drewN nq) from ⟨HB6.out.os, HB6.out.tape, HB6.out.output, HB6.out.size, HB6.out.block⟩)
      have HU7 := Lib.hid (show BxU (W6.drewN nq) U _ _ from HU6.out)
      have HT7 := Lib.hid (show BxU (W6.drewN nq) T _ _ from HT6.out)
      clear p0 p1
      generalize W6.drewN nq = W7 at HP7 HB7 HU7 HT7 ⊢
      go_wp2_with fail
      refine (qnow_any m ⟨s3.ts, true⟩ W7 HP7.out).mono ?_
      rintro e v8 ⟨⟨y8, _, hat8, rfl⟩, hb⟩
      have HB8 := Lib.hid (bt HB7.out hb)
      have HU8 := Lib.hid (HU7.out.next hb)
      have HT8 := Lib.hid (HT7.out.next hb)
      have HA8 := Lib.hid (show s3.at = y8.2 from hat8)
      clear hb hat8
      have t0 : v8.cell? ⟨T, 0, none⟩ = some (.int .i64 z9.1.k) := HT8.out.cell 0
      have t1 : v8.cell? ⟨T, 1, none⟩ = some (.string ⟨z9.1.s.toArray⟩) := HT8.out.cell 1
      have t2 : v8.cell? ⟨T, 2, none⟩ = some (.int .i64 z9.1.n) := HT8.out.cell 2
      have t3 : v8.cell? ⟨T, 3, none⟩ = some (.int .i64 z9.2) := HT8.out.cell 3
      have ft0 := HT8.out.frozen 0
      have ft1 := HT8.out.frozen 1
      have ft2 := HT8.out.frozen 2
      have ft3 := HT8.out.frozen 3
      go_upto_region 11 with fail
      have hO9 : OnU T v8 ((((v8.setCell ⟨T, 0, none⟩ (.int .i64 y8.1.k)).setCell ⟨T, 1, none⟩ (.string ⟨y8.1.s.toArray⟩)).setCell ⟨T, 2, none⟩ (.int .i64 y8.1.n)).setCell ⟨T, 3, none⟩ (.int .i64 y8.2)) := (OnU.refl T v8).set.set.set.set
      have HT9 := Lib.hid (box4_set HT8.out (.int .i64 y8.1.k) (.string ⟨y8.1.s.toArray⟩) (.int .i64 y8.1.n) (.int .i64 y8.2))
      have HU9 := Lib.hid (show BxU ((((v8.setCell ⟨T, 0, none⟩ (.int .i64 y8.1.k)).setCell ⟨T, 1, none⟩ (.string ⟨y8.1.s.toArray⟩)).setCell ⟨T, 2, none⟩ (.int .i64 y8.1.n)).setCell ⟨T, 3, none⟩ (.int .i64 y8.2)) U #[.int .i64 0, .int .i64 0, .int .i64 0, .int .i64 0, .string ⟨#[]⟩, .string ⟨#[]⟩, .string ⟨#[]⟩, .slice none 0 0] 37 from (hO9.block U (Nat.ne_of_lt HUT.out)).trans HU8.out)
      have HB9 := Lib.hid (show Below w.heap.size w ((((v8.setCell ⟨T, 0, none⟩ (.int .i64 y8.1.k)).setCell ⟨T, 1, none⟩ (.string ⟨y8.1.s.toArray⟩)).setCell ⟨T, 2, none⟩ (.int .i64 y8.1.n)).setCell ⟨T, 3, none⟩ (.int .i64 y8.2)) from onu_low hO9 (by have := HmT.out; have := Hmw.out; omega) HB8.out)
      clear hO9 t0 t1 t2 t3 ft0 ft1 ft2 ft3
      generalize (((v8.setCell ⟨T, 0, none⟩ (.int .i64 y8.1.k)).setCell ⟨T, 1, none⟩ (.string ⟨y8.1.s.toArray⟩)).setCell ⟨T, 2, none⟩ (.int .i64 y8.1.n)).setCell ⟨T, 3, none⟩ (.int .i64 y8.2) = W9 at HT9 HU9 HB9 ⊢
      have t3 : W9.cell? ⟨T, 3, none⟩ = some (.int .i64 y8.2) := HT9.out.cell 3
      have hUT := Nat.ne_of_lt HUT.out
      have hTU := hUT.symm
      obtain ⟨c0, c1, c2, c3, c4, c5, c6, c7⟩ := cl8 (w := W9) HU9.out
      have fc0 := HU9.out.frozen 0
      have fc1 := HU9.out.frozen 1
      have fc2 := HU9.out.frozen 2
      have fc3 := HU9.out.frozen 3
      have fc4 := HU9.out.frozen 4
      have fc5 := HU9.out.frozen 5
      have fc6 := HU9.out.frozen 6
      have fc7 := HU9.out.frozen 7
      have HXb := Lib.hid (show X = .bad y8.2 110 by rw [HXe.out, HA8.out])
      go_region_with (fail)
      all_goals
        dsimp only [Act.put, List.getElem_toArray, List.getElem_cons_succ, List.getElem_cons_zero]
        simp only [List.setIfInBounds_toArray, List.set_cons_zero, List.set_cons_succ]
        go_wp2_with fail
        exact bodyPost_ret (v := .tuple #[.agg #[.int .i64 0, .int .i64 0, .int .i64 0, .int .i64 0, .string ⟨#[]⟩, .string ⟨#[]⟩, .string ⟨#[]⟩, .slice none 0 0], .int .i64 y8.2, .int .i64 110]) (by simp [results, Tryz.results12, go_sem, c0, c1, c2, c3, c4, c5, c6, c7]) rfl (by rw [HXb.out]; exact ⟨rfl, Below.drew (onu_below (OnU.refl U _).set.set.set.set.set.set.set.set HUl.out HB9.out)⟩)
    | false =>
      have HYx := Lib.hid (HY.out (by
        cases hb : s3.bad with
        | false => rfl
        | true => exact absurd (HIf.out.2 (.inl hb)) (by simp)))
      have HXe := Lib.hid (show (if okX x = true then PRes.ok x else PRes.bad 0 3) = X by
        have h := HX.out
        simp only [HXx.out] at h
        rw [if_neg (fun e => absurd (HIf.out.2 e) (by simp))] at h
        exact h)
      have HEv := Lib.hid (show EV x (XV hd3 A3 l3.length cap3) v5 from by
        rw [← HYx.out]
        exact exC_of_ev (exC_ok.go (B' := Ab v5) (fun _ _ => rfl) (fun k hk => hk.2) HC5.out))
      obtain ⟨ob, hob⟩ : ∃ b, okX x = b := ⟨_, rfl⟩
      have HCk := Lib.hid (rv_check HEv.out HSz3.out.sm (by
        have h1 := HSz3.out.n
        have h2 := Hn.out
        have h3 : Pa.bN s3.bad ≤ 1 := by unfold Pa.bN; split <;> omega
        simp only at h1
        omega) hob)
      have HOb := Lib.hid hob
      clear hob
      obtain ⟨d0, d1, d2, d3, d4, d5, d6, d7⟩ := cl8 (w := v5) HW5.out
      go_wp2_with fail
      clear d0 d1 d2 d3 d4 d5 d6 d7
      refine HCk.out.mono ?_
      rintro e v9 ⟨u, rfl, hb, rfl⟩
      have HB9 := Lib.hid (bt HB5.out hb)
      have HU9 := Lib.hid (HU5.out.next hb)
      have HW9 := Lib.hid (HW5.out.next hb)
      have HC9 := Lib.hid (show exC (Bt (U + 1) v9.heap.size) v9 (.mk hd3 l3) (xcell (hd3, A3, l3.length, cap3)) from exC_ok.go (fun k hk => hb.block k hk.2) (fun k hk => ⟨hk.1, Nat.lt_of_lt_of_le hk.2 hb.size⟩) HC5.out)
      clear hb hc2
      have hUV := Nat.ne_of_lt (Nat.lt_trans HSm.out HSV.out)
      have hVU := hUV.symm
      obtain ⟨c0, c1, c2, c3, c4, c5, c6, c7⟩ := cl8 (w := v9) HU9.out
      have fc0 := HU9.out.frozen 0
      have fc1 := HU9.out.frozen 1
      have fc2 := HU9.out.frozen 2
      have fc3 := HU9.out.frozen 3
      have fc4 := HU9.out.frozen 4
      have fc5 := HU9.out.frozen 5
      have fc6 := HU9.out.frozen 6
      have fc7 := HU9.out.frozen 7
      obtain ⟨d0, d1, d2, d3, d4, d5, d6, d7⟩ := cl8 (w := v9) HW9.out
      cases ob with
      | false =>
        have HXf := Lib.hid (show X = .bad 0 3 by rw [← HXe.out, HOb.out]; rfl)
        go_wp2_with fail
        exact bodyPost_ret (v := .tuple #[.agg #[.int .i64 0, .int .i64 0, .int .i64 0, .int .i64 0, .string ⟨#[]⟩, .string ⟨#[]⟩, .string ⟨#[]⟩, .slice none 0 0], .int .i64 0, .int .i64 3]) (by simp [results, Tryz.results12, go_sem, c0, c1, c2, c3, c4, c5, c6, c7]) rfl (by rw [HXf.out]; exact ⟨rfl, onu_below (OnU.refl U _).set.set.set.set.set.set.set.set HUl.out HB9.out⟩)
      | true =>
        have HXf := Lib.hid (show X = .ok x by rw [← HXe.out, HOb.out]; rfl)
        go_wp2_with fail
        exact bodyPost_ret (v := .tuple #[.agg #[.int .i64 hd3.k, .int .i64 hd3.n, .int .i64 hd3.vk, .int .i64 hd3.vn, .string hd3.vs, .string hd3.tab, .string hd3.col, .slice A3 l3.length cap3], .int .i64 0, .int .i64 0]) (by simp [results, Tryz.results12, go_sem, c0, c1, c2, c3, c4, c5, c6, c7]) rfl (by rw [HXf.out]; exact ⟨xcell (hd3, A3, l3.length, cap3), rfl, by rw [← HYx.out]; exact exC_onu (OnU.refl U _).set.set.set.set.set.set.set.set HUl.out HC9.out, onu_below (OnU.refl U _).set.set.set.set.set.set.set.set HUl.out HB9.out⟩)
end Go.Proofs.YtfjimoccliejdaaGreatDoor
end
section
namespace Go.Proofs.YtfjimoccliejdaaGreatDoor
open Go.RowKit Go.Shelf

abbrev lvA : ByteArray := ⟨#[83, 69, 76, 69, 67, 84, 32, 97, 44, 32, 67, 79, 85, 78, 84, 40, 42, 41, 32, 65, 83, 32, 110, 32, 70, 82, 79, 77, 32, 116, 32, 65, 83, 32, 120, 32, 76, 69, 70, 84, 32, 74, 79, 73, 78, 32, 117, 32, 79, 78, 32, 120, 46, 97, 32, 61, 32, 117, 46, 98, 32, 87, 72, 69, 82, 69, 32, 78, 79, 84, 32, 97, 32, 60, 32, 49, 32, 43, 32, 50, 32, 42, 32, 51, 32, 71, 82, 79, 85, 80, 32, 66, 89, 32, 97, 32, 79, 82, 68, 69, 82, 32, 66, 89, 32, 110, 32, 68, 69, 83, 67, 32, 76, 73, 77, 73, 84, 32, 53]⟩
abbrev lvB : ByteArray := ⟨#[83, 69, 76, 69, 67, 84, 32, 97, 32, 70, 82, 79, 77, 32, 116, 32, 87, 72, 69, 82, 69]⟩
abbrev lvC : ByteArray := ⟨#[97, 32, 43, 32, 49, 32, 60, 32, 98, 32, 65, 78, 68, 32, 99]⟩
abbrev lvD : ByteArray := ⟨#[97, 32, 98]⟩
def PRes.badB {α : Type} (r : PRes α) (n k : Nat) : Bool := match r with | .bad n' k' => n' == n && k' == k | .ok _ => false
def PRes.okB {α : Type} (r : PRes α) (p : α → Bool) : Bool := match r with | .bad _ _ => false | .ok x => p x
theorem badB_eq {α : Type} {r : PRes α} {n k : Nat} (h : r.badB n k = true) : r = .bad n k := by
 cases r with
 | bad n' k' => simp only [PRes.badB, Bool.and_eq_true, beq_iff_eq] at h; rw [h.1, h.2]
 | ok x => cases h
theorem okB_eq {α : Type} {r : PRes α} {p : α → Bool} (h : r.okB p = true) : ∃ x, r = .ok x ∧ p x = true := by
 cases r with
 | bad n' k' => cases h
 | ok x => exact ⟨x, rfl, h⟩
mutual
def fitB2 : Ex → Bool
 | .mk h l => fitsB h l.length && fitBs l
def fitBs : List Ex → Bool
 | [] => true
 | x :: r => fitB2 x && fitBs r
end
mutual
theorem fitq_of : ∀ x : Ex, fitB2 x = true → FitX x
 | .mk h l, H => by
  rw [fitB2, Bool.and_eq_true] at H
  rw [FitX]
  exact ⟨H.1, fitqs_of l H.2⟩
theorem fitqs_of : ∀ l : List Ex, fitBs l = true → FitXs l
 | [], _ => by rw [FitXs]; trivial
 | x :: r, H => by
  rw [fitBs, Bool.and_eq_true] at H
  rw [FitXs]
  exact ⟨fitq_of x H.1, fitqs_of r H.2⟩
end
def shB (x : Ex) (l : List UInt8) : Bool := fitB2 x && decide (cnt x ≤ 512) && (shwX x == l)
def lvShape (x : Pa.Qu) : Bool := match x with
 | ⟨[⟨_, [_, i], [f, g], wh, [_]⟩], [⟨_, true⟩], lim⟩ => lim == 5 && i.nm == [110] && f.nm == [120] && g.join == 2 && shB wh [40, 78, 79, 84, 32, 40, 97, 32, 60, 32, 40, 49, 32, 43, 32, 40, 50, 32, 42, 32, 51, 41, 41, 41, 41]
 | _ => false
theorem lvShape_ex {x : Pa.Qu} (h : lvShape x = true) : ∃ d i0 i f g wh gr kn, x = ⟨[⟨d, [i0, i], [f, g], wh, [gr]⟩], [⟨kn, true⟩], 5⟩ ∧ i.nm = [110] ∧ f.nm = [120] ∧ g.join = 2 ∧ shB wh [40, 78, 79, 84, 32, 40, 97, 32, 60, 32, 40, 49, 32, 43, 32, 40, 50, 32, 42, 32, 51, 41, 41, 41, 41] = true := by
 unfold lvShape at h
 split at h
 ·rename_i d i0 i f g wh gr kn lim
  simp only [Bool.and_eq_true, beq_iff_eq] at h
  obtain ⟨⟨⟨⟨rfl, h1⟩, h2⟩, h3⟩, h4⟩ := h
  exact ⟨d, i0, i, f, g, wh, gr, kn, rfl, h1, h2, h3, h4⟩
 ·cases h
theorem lvD_is : whR (Pa.lev 40008 0) okX (bs lvD) = .bad 2 110 := badB_eq (by decide +kernel)
theorem lvB_is : whR (Pa.queryP (Pa.lev 40008 0)) isQuB (bs lvB) = .bad 21 110 := badB_eq (by decide +kernel)
theorem lvC_is : ∃ x, whR (Pa.lev 40008 0) okX (bs lvC) = .ok x ∧ shB x [40, 40, 40, 97, 32, 43, 32, 49, 41, 32, 60, 32, 98, 41, 32, 65, 78, 68, 32, 99, 41] = true := okB_eq (by decide +kernel)
theorem lvA_is : ∃ x, whR (Pa.queryP (Pa.lev 40008 0)) isQuB (bs lvA) = .ok x ∧ lvShape x = true := okB_eq (by decide +kernel)
theorem whR_ok {α : Type} {f : Pa.Ps → α × Pa.Ps} {chk : α → Bool} {l : Lx.B} {x : α} (h : whR f chk l = .ok x) : ∃ ts n, Lx.lx (l.length + 1) l 0 0 = .ok ts n ∧ x = (f ⟨ts, false⟩).1 ∧ chk x = true ∧ (f ⟨ts, false⟩).2.bad = false := by
 unfold whR at h
 cases hl : Lx.lx (l.length + 1) l 0 0 with
 | bad n k => rw [hl] at h; cases h
 | ok ts n =>
  rw [hl] at h
  simp only at h
  split at h
  ·cases h
  ·rename_i hc
   split at h
   ·rename_i hk
    cases h
    exact ⟨ts, n, rfl, rfl, hk, by cases hb : (f ⟨ts, false⟩).2.bad with | false => rfl | true => exact absurd (Or.inl hb) hc⟩
   ·cases h
theorem cntL_all : ∀ (l : List Ex) (n : Nat), (∀ x ∈ l, cnt x ≤ n) → cntL l ≤ l.length * n
 | [], n, _ => by rw [cntL]; exact Nat.zero_le _
 | x :: r, n, h => by
  have h1 := h x (List.mem_cons_self ..)
  have h2 := cntL_all r n fun y hy => h y (List.mem_cons_of_mem _ hy)
  rw [cntL, List.length_cons, Nat.succ_mul]
  omega
theorem whR_gd {F : Nat} {l : Lx.B} {x : Pa.Qu} (h : whR (Pa.queryP (Pa.lev F 0)) isQuB l = .ok x) : GdQ2 x ∧ ∀ s ∈ x.parts, cntL s.grp ≤ 1000000 := by
 obtain ⟨ts, n, hl, rfl, hc, _⟩ := whR_ok h
 have hg := query_gd F (text_tt hl).1
 refine ⟨hg, fun s hs => ?_⟩
 have h1 := cntL_all s.grp 6000 fun y hy => ((hg.1 s hs).1.grp y hy).cnt
 have h2 : s.grp.length ≤ 8 := by
  unfold isQuB lsB at hc
  simp only [Bool.and_eq_true, List.all_eq_true, decide_eq_true_eq] at hc
  have h3 := hc.1.1.1.2 s hs
  unfold isPaB lsB at h3
  simp only [Bool.and_eq_true, decide_eq_true_eq] at h3
  exact h3.2.1.2
 have : s.grp.length * 6000 ≤ 8 * 6000 := Nat.mul_le_mul_right _ h2
 omega
end Go.Proofs.YtfjimoccliejdaaGreatDoor
end
section
namespace Go.Proofs.YtfjimoccliejdaaGreatDoor
open Go.RowKit Go.Shelf

set_option maxRecDepth 100000 in
set_option maxHeartbeats 4000000 in
theorem psameItem_any (x : Pa.Itm) (c c' : List Value) (w : World) (h : itC (Ab w) w x c) (h' : itC (Ab w) w x c') (hG : cnt x.e ≤ 1000000) :
  Calls Tryz.prog 69 #[.agg c.toArray, .agg c'.toArray] w fun e w' => e = .returned (.bool true) ∧ Below w.heap.size w w' := by
 obtain ⟨hd, A9, n, cp, rfl, he⟩ := itC_ex h
 obtain ⟨hq, A7, nq, cq, rfl, he'⟩ := itC_ex h'
 have HB := Lib.hid (show Below w.heap.size w ((w.alloc (.cells #[.bool x.star, .int .i64 hd.k, .int .i64 hd.n, .int .i64 hd.vk, .int .i64 hd.vn, .string hd.vs, .string hd.tab, .string hd.col, .slice A9 n cp, st x.nm] 49)).alloc (.cells #[.bool x.star, .int .i64 hq.k, .int .i64 hq.n, .int .i64 hq.vk, .int .i64 hq.vn, .string hq.vs, .string hq.tab, .string hq.col, .slice A7 nq cq, st x.nm] 49)) from bt (ba w (.cells #[.bool x.star, .int .i64 hd.k, .int .i64 hd.n, .int .i64 hd.vk, .int .i64 hd.vn, .string hd.vs, .string hd.tab, .string hd.col, .slice A9 n cp, st x.nm] 49)) (ba _ _))
 have HSm := Lib.hid ((ev_same ((exC_of_ev he).next HB.out) ((exC_of_ev he').next HB.out) hG hG (same_self _)).mono (R' := fun e w4 => e = .returned (.bool true) ∧ Below ((w.alloc (.cells #[.bool x.star, .int .i64 hd.k, .int .i64 hd.n, .int .i64 hd.vk, .int .i64 hd.vn, .string hd.vs, .string hd.tab, .string hd.col, .slice A9 n cp, st x.nm] 49)).alloc (.cells #[.bool x.star, .int .i64 hq.k, .int .i64 hq.n, .int .i64 hq.vk, .int .i64 hq.vn, .string hq.vs, .string hq.tab, .string hq.col, .slice A7 nq cq, st x.nm] 49)).heap.size ((w.alloc (.cells #[.bool x.star, .int .i64 hd.k, .int .i64 hd.n, .int .i64 hd.vk, .int .i64 hd.vn, .string hd.vs, .string hd.tab, .string hd.col, .slice A9 n cp, st x.nm] 49)).alloc (.cells #[.bool x.star, .int .i64 hq.k, .int .i64 hq.n, .int .i64 hq.vk, .int .i64 hq.vn, .string hq.vs, .string hq.tab, .string hq.col, .slice A7 nq cq, st x.nm] 49)) w4) (fun e w4 hE => by obtain ⟨u, rfl, hb, rfl⟩ := hE; exact ⟨rfl, hb⟩))
 clear h h' he he' hG
 show Calls Tryz.prog 69 #[.agg #[.bool x.star, .int .i64 hd.k, .int .i64 hd.n, .int .i64 hd.vk, .int .i64 hd.vn, .string hd.vs, .string hd.tab, .string hd.col, .slice A9 n cp, st x.nm], .agg #[.bool x.star, .int .i64 hq.k, .int .i64 hq.n, .int .i64 hq.vk, .int .i64 hq.vn, .string hq.vs, .string hq.tab, .string hq.col, .slice A7 nq cq, st x.nm]] w _
 go_enter Tryz.func69, Tryz.ntmps69
 go_wp2_with fail
 refine HSm.out.mono ?_
 rintro e w4 ⟨rfl, hb4⟩
 have HB4 := Lib.hid (bt HB.out hb4)
 clear hb4
 go_wp2_with fail
 exact bodyPost_ret (v := .bool true) (by simp [results, Tryz.results69, go_sem]) rfl ⟨rfl, HB4.out⟩
set_option maxRecDepth 100000 in
set_option maxHeartbeats 4000000 in
theorem psameSource_any (x : Pa.Src) (c c' : List Value) (w : World) (h : srC (Ab w) w x c) (h' : srC (Ab w) w x c') (hG : cnt x.on ≤ 1000000) :
  Calls Tryz.prog 71 #[.agg c.toArray, .agg c'.toArray] w fun e w' => e = .returned (.bool true) ∧ Below w.heap.size w w' := by
 obtain ⟨hd, A9, n, cp, rfl, he⟩ := srC_ex h
 obtain ⟨hq, A7, nq, cq, rfl, he'⟩ := srC_ex h'
 have HB := Lib.hid (show Below w.heap.size w ((w.alloc (.cells #[st x.tb, st x.nm, .int .i64 x.join, .int .i64 hd.k, .int .i64 hd.n, .int .i64 hd.vk, .int .i64 hd.vn, .string hd.vs, .string hd.tab, .string hd.col, .slice A9 n cp] 51)).alloc (.cells #[st x.tb, st x.nm, .int .i64 x.join, .int .i64 hq.k, .int .i64 hq.n, .int .i64 hq.vk, .int .i64 hq.vn, .string hq.vs, .string hq.tab, .string hq.col, .slice A7 nq cq] 51)) from bt (ba w (.cells #[st x.tb, st x.nm, .int .i64 x.join, .int .i64 hd.k, .int .i64 hd.n, .int .i64 hd.vk, .int .i64 hd.vn, .string hd.vs, .string hd.tab, .string hd.col, .slice A9 n cp] 51)) (ba _ _))
 have HSm := Lib.hid ((ev_same ((exC_of_ev he).next HB.out) ((exC_of_ev he').next HB.out) hG hG (same_self _)).mono (R' := fun e w4 => e = .returned (.bool true) ∧ Below ((w.alloc (.cells #[st x.tb, st x.nm, .int .i64 x.join, .int .i64 hd.k, .int .i64 hd.n, .int .i64 hd.vk, .int .i64 hd.vn, .string hd.vs, .string hd.tab, .string hd.col, .slice A9 n cp] 51)).alloc (.cells #[st x.tb, st x.nm, .int .i64 x.join, .int .i64 hq.k, .int .i64 hq.n, .int .i64 hq.vk, .int .i64 hq.vn, .string hq.vs, .string hq.tab, .string hq.col, .slice A7 nq cq] 51)).heap.size ((w.alloc (.cells #[st x.tb, st x.nm, .int .i64 x.join, .int .i64 hd.k, .int .i64 hd.n, .int .i64 hd.vk, .int .i64 hd.vn, .string hd.vs, .string hd.tab, .string hd.col, .slice A9 n cp] 51)).alloc (.cells #[st x.tb, st x.nm, .int .i64 x.join, .int .i64 hq.k, .int .i64 hq.n, .int .i64 hq.vk, .int .i64 hq.vn, .string hq.vs, .string hq.tab, .string hq.col, .slice A7 nq cq] 51)) w4) (fun e w4 hE => by obtain ⟨u, rfl, hb, rfl⟩ := hE; exact ⟨rfl, hb⟩))
 clear h h' he he' hG
 show Calls Tryz.prog 71 #[.agg #[st x.tb, st x.nm, .int .i64 x.join, .int .i64 hd.k, .int .i64 hd.n, .int .i64 hd.vk, .int .i64 hd.vn, .string hd.vs, .string hd.tab, .string hd.col, .slice A9 n cp], .agg #[st x.tb, st x.nm, .int .i64 x.join, .int .i64 hq.k, .int .i64 hq.n, .int .i64 hq.vk, .int .i64 hq.vn, .string hq.vs, .string hq.tab, .string hq.col, .slice A7 nq cq]] w _
 go_enter Tryz.func71, Tryz.ntmps71
 go_wp2_with fail
 refine HSm.out.mono ?_
 rintro e w4 ⟨rfl, hb4⟩
 have HB4 := Lib.hid (bt HB.out hb4)
 clear hb4
 go_wp2_with fail
 exact bodyPost_ret (v := .bool true) (by simp [results, Tryz.results71, go_sem]) rfl ⟨rfl, HB4.out⟩
end Go.Proofs.YtfjimoccliejdaaGreatDoor
end
