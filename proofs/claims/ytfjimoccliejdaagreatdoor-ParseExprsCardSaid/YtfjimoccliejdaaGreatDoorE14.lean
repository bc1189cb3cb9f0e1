/-
  Lists of things with words between: api.Select.
-/
import Derived.Test.YtfjimoccliejdaaGreatDoorE13
section
namespace Go.Proofs.YtfjimoccliejdaaGreatDoor
open Go.RowKit Go.Shelf

set_option maxRecDepth 100000 in
set_option maxHeartbeats 8000000 in
theorem pfirst_any (F m N : Nat) (HO : Ok 29 (Pa.lev F 0) m (N - 1)) : Ok 167 (Pa.firstP (Pa.lev F 0)) m N := by
 intro s w h hN
 have HOo := Lib.hid HO
 clear HO
 have HB := Lib.hid (ba w (.cells #[.int .i64 0, .int .i64 0, .int .i64 0, .int .i64 0, .string ⟨#[]⟩, .string ⟨#[]⟩, .string ⟨#[]⟩, .slice none 0 0] 37))
 have HU := Lib.hid (show BxU _ _ #[.int .i64 0, .int .i64 0, .int .i64 0, .int .i64 0, .string ⟨#[]⟩, .string ⟨#[]⟩, .string ⟨#[]⟩, .slice none 0 0] 37 from (MapKept.heap_alloc w (.cells #[.int .i64 0, .int .i64 0, .int .i64 0, .int .i64 0, .string ⟨#[]⟩, .string ⟨#[]⟩, .string ⟨#[]⟩, .slice none 0 0] 37)).1)
 have H1 := Lib.hid (h.next HB.out)
 have hmU := h.lt
 have HFin := Lib.hid h.fin
 obtain ⟨U, hU⟩ : ∃ U, w.heap.size = U := ⟨_, rfl⟩
 have HUl := Lib.hid hU
 have HSz := Lib.hid (show (w.alloc (.cells #[.int .i64 0, .int .i64 0, .int .i64 0, .int .i64 0, .string ⟨#[]⟩, .string ⟨#[]⟩, .string ⟨#[]⟩, .slice none 0 0] 37)).heap.size = U + 1 by rw [World.size_alloc, hU])
 rw [hU] at HU hmU
 have HmU := Lib.hid hmU
 obtain ⟨X, hX⟩ : ∃ X, Pa.firstP (Pa.lev F 0) s = X := ⟨_, rfl⟩
 rw [hX]
 have HX := Lib.hid hX
 clear h hX hmU
 go_enter Tryz.func167, Tryz.ntmps167
 go_wp2_with fail
 generalize w.alloc (.cells #[.int .i64 0, .int .i64 0, .int .i64 0, .int .i64 0, .string ⟨#[]⟩, .string ⟨#[]⟩, .string ⟨#[]⟩, .slice none 0 0] 37) = W1 at HB HU H1 HSz ⊢
 clear hU
 have HM1 := Lib.hid (show ButM m w W1 from ButM.of HB.out)
 have HT1 := Lib.hid (kind_any m s 3 (by decide) W1 H1.out)
 obtain ⟨_, hyes1, hno1⟩ := Pa.takeK_le (k := 3) (by decide) H1.out.fin
 obtain ⟨⟨o1, s1⟩, hq1⟩ : ∃ z, Pa.takeK 3 s = z := ⟨_, rfl⟩
 rw [hq1] at HT1 hyes1 hno1
 have HK1 := Lib.hid hq1
 clear hq1
 cases o1 with
 | some t1 =>
  clear hN
  simp only [Option.isSome_some] at HT1
  have hy1 := (hyes1 t1 rfl).2.1
  clear hyes1 hno1
  go_wp2_with fail
  refine HT1.out.mono ?_
  rintro e v1 ⟨y1, rfl, hyv, hyn, hR, hM⟩
  clear hyn
  have HY1 := Lib.hid (show y1.1 = t1 by rw [hyv rfl, hy1])
  clear hy1
  have HMn1 := Lib.hid (HM1.out.trans hM)
  have HUn1 := Lib.hid (HU.out.but HmU.out hM)
  have HRn1 := Lib.hid hR
  have hbt1 := ba v1 (.cells #[.int .i64 y1.1.k, .string ⟨y1.1.s.toArray⟩, .int .i64 y1.1.n, .int .i64 y1.2] 66)
  have HMt1 := Lib.hid (HMn1.out.trans (ButM.of hbt1))
  have HUt1 := Lib.hid (HUn1.out.next hbt1)
  have HRt1 := Lib.hid (HRn1.out.next hbt1)
  clear hR hM hyv hbt1
  go_wp2_with fail
  refine (pv_int (y1.1.n : Int) _).mono ?_
  rintro e v2 ⟨rfl, hb⟩
  have HMn2 := Lib.hid (HMt1.out.trans (ButM.of hb))
  have HUn2 := Lib.hid (HUt1.out.next hb)
  have HRn2 := Lib.hid (HRt1.out.next hb)
  clear hb
  go_wp2_with fail
  refine (ev_lit (k := 2) (n := (y1.1.n : Int)) (s := ⟨#[]⟩)).mono ?_
  rintro e v9 ⟨u, rfl, hb, rfl⟩
  have HM9 := Lib.hid (HMn2.out.trans (ButM.of hb))
  have HU9 := Lib.hid (HUn2.out.next hb)
  have HR9 := Lib.hid (HRn2.out.next hb)
  have HXe := Lib.hid (show X = (Pa.exLit 2 t1.n [], s1) by rw [← HX.out]; simp only [Pa.firstP, HK1.out])
  clear hb
  obtain ⟨c0, c1, c2, c3, c4, c5, c6, c7⟩ := cl8 (w := v9) (HU9.out)
  have fc0 := (HU9.out).frozen 0
  have fc1 := (HU9.out).frozen 1
  have fc2 := (HU9.out).frozen 2
  have fc3 := (HU9.out).frozen 3
  have fc4 := (HU9.out).frozen 4
  have fc5 := (HU9.out).frozen 5
  have fc6 := (HU9.out).frozen 6
  have fc7 := (HU9.out).frozen 7
  go_wp2_with fail
  exact bodyPost_ret (v := XV (hdL 2 (y1.1.n : Int) ⟨#[]⟩) none 0 0) (by simp [results, Tryz.results167, go_sem, c0, c1, c2, c3, c4, c5, c6, c7]) rfl (by rw [HXe.out, ← HY1.out]; exact RuE.fin (c := xcell ((hdL 2 (y1.1.n : Int) ⟨#[]⟩), none, 0, 0)) exC_ok HUl.out HmU.out HM9.out HR9.out (exC_leaf _ _ _) (OnU.refl _ _).set.set.set.set.set.set.set.set)
 | none =>
  simp only [Option.isSome_none] at HT1
  obtain rfl := hno1 rfl
  clear hyes1 hno1
  go_wp2_with fail
  refine HT1.out.mono ?_
  rintro e v1 ⟨y1, rfl, hyv, hyn, hR, hM⟩
  clear hyn
  have HMn1 := Lib.hid (HM1.out.trans hM)
  have HUn1 := Lib.hid (HU.out.but HmU.out hM)
  have HRn1 := Lib.hid hR
  have hbt1 := ba v1 (.cells #[.int .i64 y1.1.k, .string ⟨y1.1.s.toArray⟩, .int .i64 y1.1.n, .int .i64 y1.2] 66)
  have HMt1 := Lib.hid (HMn1.out.trans (ButM.of hbt1))
  have HUt1 := Lib.hid (HUn1.out.next hbt1)
  have HRt1 := Lib.hid (HRn1.out.next hbt1)
  clear hR hM hyv hbt1
  have HT2 := Lib.hid (kind_any m s1 4 (by decide) (v1.alloc (.cells #[.int .i64 y1.1.k, .string ⟨y1.1.s.toArray⟩, .int .i64 y1.1.n, .int .i64 y1.2] 66)) HRt1.out)
  obtain ⟨_, hyes2, hno2⟩ := Pa.takeK_le (k := 4) (by decide) HRt1.out.fin
  obtain ⟨⟨o2, s2⟩, hq2⟩ : ∃ z, Pa.takeK 4 s1 = z := ⟨_, rfl⟩
  rw [hq2] at HT2 hyes2 hno2
  have HK2 := Lib.hid hq2
  clear hq2
  cases o2 with
  | some t2 =>
   clear hN
   simp only [Option.isSome_some] at HT2
   have hy2 := (hyes2 t2 rfl).2.1
   clear hyes2 hno2
   go_wp2_with fail
   refine HT2.out.mono ?_
   rintro e v2 ⟨y2, rfl, hyv, hyn, hR, hM⟩
   clear hyn
   have HY2 := Lib.hid (show y2.1 = t2 by rw [hyv rfl, hy2])
   clear hy2
   have HMn2 := Lib.hid (HMt1.out.trans hM)
   have HUn2 := Lib.hid (HUt1.out.but HmU.out hM)
   have HRn2 := Lib.hid hR
   have hbt2 := ba v2 (.cells #[.int .i64 y2.1.k, .string ⟨y2.1.s.toArray⟩, .int .i64 y2.1.n, .int .i64 y2.2] 66)
   have HMt2 := Lib.hid (HMn2.out.trans (ButM.of hbt2))
   have HUt2 := Lib.hid (HUn2.out.next hbt2)
   have HRt2 := Lib.hid (HRn2.out.next hbt2)
   clear hR hM hyv hbt2
   go_wp2_with fail
   refine (pv_text ⟨y2.1.s.toArray⟩ _).mono ?_
   rintro e v3 ⟨rfl, hb⟩
   have HMn3 := Lib.hid (HMt2.out.trans (ButM.of hb))
   have HUn3 := Lib.hid (HUt2.out.next hb)
   have HRn3 := Lib.hid (HRt2.out.next hb)
   clear hb
   go_wp2_with fail
   refine (ev_lit (k := 3) (n := 0) (s := ⟨y2.1.s.toArray⟩)).mono ?_
   rintro e v9 ⟨u, rfl, hb, rfl⟩
   have HM9 := Lib.hid (HMn3.out.trans (ButM.of hb))
   have HU9 := Lib.hid (HUn3.out.next hb)
   have HR9 := Lib.hid (HRn3.out.next hb)
   have HXe := Lib.hid (show X = (Pa.exLit 3 0 t2.s, s2) by rw [← HX.out]; simp only [Pa.firstP, HK1.out, HK2.out])
   clear hb
   obtain ⟨c0, c1, c2, c3, c4, c5, c6, c7⟩ := cl8 (w := v9) (HU9.out)
   have fc0 := (HU9.out).frozen 0
   have fc1 := (HU9.out).frozen 1
   have fc2 := (HU9.out).frozen 2
   have fc3 := (HU9.out).frozen 3
   have fc4 := (HU9.out).frozen 4
   have fc5 := (HU9.out).frozen 5
   have fc6 := (HU9.out).frozen 6
   have fc7 := (HU9.out).frozen 7
   go_wp2_with fail
   exact bodyPost_ret (v := XV (hdL 3 0 ⟨y2.1.s.toArray⟩) none 0 0) (by simp [results, Tryz.results167, go_sem, c0, c1, c2, c3, c4, c5, c6, c7]) rfl (by rw [HXe.out, ← HY2.out]; exact RuE.fin (c := xcell ((hdL 3 0 ⟨y2.1.s.toArray⟩), none, 0, 0)) exC_ok HUl.out HmU.out HM9.out HR9.out (exC_leaf _ _ _) (OnU.refl _ _).set.set.set.set.set.set.set.set)
  | none =>
   simp only [Option.isSome_none] at HT2
   obtain rfl := hno2 rfl
   clear hyes2 hno2
   go_wp2_with fail
   refine HT2.out.mono ?_
   rintro e v2 ⟨y2, rfl, hyv, hyn, hR, hM⟩
   clear hyn
   have HMn2 := Lib.hid (HMt1.out.trans hM)
   have HUn2 := Lib.hid (HUt1.out.but HmU.out hM)
   have HRn2 := Lib.hid hR
   have hbt2 := ba v2 (.cells #[.int .i64 y2.1.k, .string ⟨y2.1.s.toArray⟩, .int .i64 y2.1.n, .int .i64 y2.2] 66)
   have HMt2 := Lib.hid (HMn2.out.trans (ButM.of hbt2))
   have HUt2 := Lib.hid (HUn2.out.next hbt2)
   have HRt2 := Lib.hid (HRn2.out.next hbt2)
   clear hR hM hyv hbt2
   have HT3 := Lib.hid (take_any m s2 Pa.wTRUE (v2.alloc (.cells #[.int .i64 y2.1.k, .string ⟨y2.1.s.toArray⟩, .int .i64 y2.1.n, .int .i64 y2.2] 66)) HRt2.out)
   obtain ⟨t3, ht⟩ : ∃ z, (Pa.takeW Pa.wTRUE s2).1 = z := ⟨_, rfl⟩
   obtain ⟨s3, hs⟩ : ∃ z, (Pa.takeW Pa.wTRUE s2).2 = z := ⟨_, rfl⟩
   have hno3 := (Pa.takeW_le Pa.wTRUE HRt2.out.fin).2.2
   rw [ht, hs] at HT3 hno3
   have HK3 := Lib.hid (show Pa.takeW Pa.wTRUE s2 = (t3, s3) by rw [← ht, ← hs])
   clear ht hs
   have hlen3 := (Pa.takeW_le Pa.wTRUE HRt2.out.fin).2.1
   rw [HK3.out] at hlen3
   cases t3 with
   | true =>
    clear hlen3 hN
    clear hno3
    go_wp2_with fail
    refine HT3.out.mono ?_
    rintro e v3 ⟨rfl, hR, hM⟩
    have HMn3 := Lib.hid (HMt2.out.trans hM)
    have HUn3 := Lib.hid (HUt2.out.but HmU.out hM)
    have HRn3 := Lib.hid hR
    clear hR hM
    go_wp2_with fail
    refine (pv_true _).mono ?_
    rintro e v4 ⟨rfl, hb⟩
    have HMn4 := Lib.hid (HMn3.out.trans (ButM.of hb))
    have HUn4 := Lib.hid (HUn3.out.next hb)
    have HRn4 := Lib.hid (HRn3.out.next hb)
    clear hb
    go_wp2_with fail
    refine (ev_lit (k := 1) (n := 1) (s := ⟨#[]⟩)).mono ?_
    rintro e v9 ⟨u, rfl, hb, rfl⟩
    have HM9 := Lib.hid (HMn4.out.trans (ButM.of hb))
    have HU9 := Lib.hid (HUn4.out.next hb)
    have HR9 := Lib.hid (HRn4.out.next hb)
    have HXe := Lib.hid (show X = (Pa.exLit 1 1 [], s3) by rw [← HX.out]; simp only [Pa.firstP, HK1.out, HK2.out, HK3.out, if_true])
    clear hb
    obtain ⟨c0, c1, c2, c3, c4, c5, c6, c7⟩ := cl8 (w := v9) (HU9.out)
    have fc0 := (HU9.out).frozen 0
    have fc1 := (HU9.out).frozen 1
    have fc2 := (HU9.out).frozen 2
    have fc3 := (HU9.out).frozen 3
    have fc4 := (HU9.out).frozen 4
    have fc5 := (HU9.out).frozen 5
    have fc6 := (HU9.out).frozen 6
    have fc7 := (HU9.out).frozen 7
    go_wp2_with fail
    exact bodyPost_ret (v := XV (hdL 1 1 ⟨#[]⟩) none 0 0) (by simp [results, Tryz.results167, go_sem, c0, c1, c2, c3, c4, c5, c6, c7]) rfl (by rw [HXe.out]; exact RuE.fin (c := xcell ((hdL 1 1 ⟨#[]⟩), none, 0, 0)) exC_ok HUl.out HmU.out HM9.out HR9.out (exC_leaf _ _ _) (OnU.refl _ _).set.set.set.set.set.set.set.set)
   | false =>
    clear hlen3
    obtain rfl := hno3 rfl
    clear hno3
    go_wp2_with fail
    refine HT3.out.mono ?_
    rintro e v3 ⟨rfl, hR, hM⟩
    have HMn3 := Lib.hid (HMt2.out.trans hM)
    have HUn3 := Lib.hid (HUt2.out.but HmU.out hM)
    have HRn3 := Lib.hid hR
    clear hR hM
    have HT4 := Lib.hid (take_any m s3 Pa.wFALSE v3 HRn3.out)
    obtain ⟨t4, ht⟩ : ∃ z, (Pa.takeW Pa.wFALSE s3).1 = z := ⟨_, rfl⟩
    obtain ⟨s4, hs⟩ : ∃ z, (Pa.takeW Pa.wFALSE s3).2 = z := ⟨_, rfl⟩
    have hno4 := (Pa.takeW_le Pa.wFALSE HRn3.out.fin).2.2
    rw [ht, hs] at HT4 hno4
    have HK4 := Lib.hid (show Pa.takeW Pa.wFALSE s3 = (t4, s4) by rw [← ht, ← hs])
    clear ht hs
    have hlen4 := (Pa.takeW_le Pa.wFALSE HRn3.out.fin).2.1
    rw [HK4.out] at hlen4
    cases t4 with
    | true =>
     clear hlen4 hN
     clear hno4
     go_wp2_with fail
     refine HT4.out.mono ?_
     rintro e v4 ⟨rfl, hR, hM⟩
     have HMn4 := Lib.hid (HMn3.out.trans hM)
     have HUn4 := Lib.hid (HUn3.out.but HmU.out hM)
     have HRn4 := Lib.hid hR
     clear hR hM
     go_wp2_with fail
     refine (pv_false _).mono ?_
     rintro e v5 ⟨rfl, hb⟩
     have HMn5 := Lib.hid (HMn4.out.trans (ButM.of hb))
     have HUn5 := Lib.hid (HUn4.out.next hb)
     have HRn5 := Lib.hid (HRn4.out.next hb)
     clear hb
     go_wp2_with fail
     refine (ev_lit (k := 1) (n := 0) (s := ⟨#[]⟩)).mono ?_
     rintro e v9 ⟨u, rfl, hb, rfl⟩
     have HM9 := Lib.hid (HMn5.out.trans (ButM.of hb))
     have HU9 := Lib.hid (HUn5.out.next hb)
     have HR9 := Lib.hid (HRn5.out.next hb)
     have HXe := Lib.hid (show X = (Pa.exLit 1 0 [], s4) by rw [← HX.out]; simp only [Pa.firstP, HK1.out, HK2.out, HK3.out, HK4.out, Bool.false_eq_true, if_false, if_true])
     clear hb
     obtain ⟨c0, c1, c2, c3, c4, c5, c6, c7⟩ := cl8 (w := v9) (HU9.out)
     have fc0 := (HU9.out).frozen 0
     have fc1 := (HU9.out).frozen 1
     have fc2 := (HU9.out).frozen 2
     have fc3 := (HU9.out).frozen 3
     have fc4 := (HU9.out).frozen 4
     have fc5 := (HU9.out).frozen 5
     have fc6 := (HU9.out).frozen 6
     have fc7 := (HU9.out).frozen 7
     go_wp2_with fail
     exact bodyPost_ret (v := XV (hdL 1 0 ⟨#[]⟩) none 0 0) (by simp [results, Tryz.results167, go_sem, c0, c1, c2, c3, c4, c5, c6, c7]) rfl (by rw [HXe.out]; exact RuE.fin (c := xcell ((hdL 1 0 ⟨#[]⟩), none, 0, 0)) exC_ok HUl.out HmU.out HM9.out HR9.out (exC_leaf _ _ _) (OnU.refl _ _).set.set.set.set.set.set.set.set)
    | false =>
     clear hlen4
     obtain rfl := hno4 rfl
     clear hno4
     go_wp2_with fail
     refine HT4.out.mono ?_
     rintro e v4 ⟨rfl, hR, hM⟩
     have HMn4 := Lib.hid (HMn3.out.trans hM)
     have HUn4 := Lib.hid (HUn3.out.but HmU.out hM)
     have HRn4 := Lib.hid hR
     clear hR hM
     have HT5 := Lib.hid (take_any m s4 Pa.wNULL v4 HRn4.out)
     obtain ⟨t5, ht⟩ : ∃ z, (Pa.takeW Pa.wNULL s4).1 = z := ⟨_, rfl⟩
     obtain ⟨s5, hs⟩ : ∃ z, (Pa.takeW Pa.wNULL s4).2 = z := ⟨_, rfl⟩
     have hno5 := (Pa.takeW_le Pa.wNULL HRn4.out.fin).2.2
     rw [ht, hs] at HT5 hno5
     have HK5 := Lib.hid (show Pa.takeW Pa.wNULL s4 = (t5, s5) by rw [← ht, ← hs])
     clear ht hs
     have hlen5 := (Pa.takeW_le Pa.wNULL HRn4.out.fin).2.1
     rw [HK5.out] at hlen5
     cases t5 with
     | true =>
      clear hlen5 hN
      clear hno5
      go_wp2_with fail
      refine HT5.out.mono ?_
      rintro e v5 ⟨rfl, hR, hM⟩
      have HMn5 := Lib.hid (HMn4.out.trans hM)
      have HUn5 := Lib.hid (HUn4.out.but HmU.out hM)
      have HRn5 := Lib.hid hR
      clear hR hM
      go_wp2_with fail
      refine (pv_null _).mono ?_
      rintro e v6 ⟨rfl, hb⟩
      have HMn6 := Lib.hid (HMn5.out.trans (ButM.of hb))
      have HUn6 := Lib.hid (HUn5.out.next hb)
      have HRn6 := Lib.hid (HRn5.out.next hb)
      clear hb
      go_wp2_with fail
      refine (ev_lit (k := 0) (n := 0) (s := ⟨#[]⟩)).mono ?_
      rintro e v9 ⟨u, rfl, hb, rfl⟩
      have HM9 := Lib.hid (HMn6.out.trans (ButM.of hb))
      have HU9 := Lib.hid (HUn6.out.next hb)
      have HR9 := Lib.hid (HRn6.out.next hb)
      have HXe := Lib.hid (show X = (Pa.exLit 0 0 [], s5) by rw [← HX.out]; simp only [Pa.firstP, HK1.out, HK2.out, HK3.out, HK4.out, HK5.out, Bool.false_eq_true, if_false, if_true])
      clear hb
      obtain ⟨c0, c1, c2, c3, c4, c5, c6, c7⟩ := cl8 (w := v9) (HU9.out)
      have fc0 := (HU9.out).frozen 0
      have fc1 := (HU9.out).frozen 1
      have fc2 := (HU9.out).frozen 2
      have fc3 := (HU9.out).frozen 3
      have fc4 := (HU9.out).frozen 4
      have fc5 := (HU9.out).frozen 5
      have fc6 := (HU9.out).frozen 6
      have fc7 := (HU9.out).frozen 7
      go_wp2_with fail
      exact bodyPost_ret (v := XV (hdL 0 0 ⟨#[]⟩) none 0 0) (by simp [results, Tryz.results167, go_sem, c0, c1, c2, c3, c4, c5, c6, c7]) rfl (by rw [HXe.out]; exact RuE.fin (c := xcell ((hdL 0 0 ⟨#[]⟩), none, 0, 0)) exC_ok HUl.out HmU.out HM9.out HR9.out (exC_leaf _ _ _) (OnU.refl _ _).set.set.set.set.set.set.set.set)
     | false =>
      clear hlen5
      obtain rfl := hno5 rfl
      clear hno5
      go_wp2_with fail
      refine HT5.out.mono ?_
      rintro e v5 ⟨rfl, hR, hM⟩
      have HMn5 := Lib.hid (HMn4.out.trans hM)
      have HUn5 := Lib.hid (HUn4.out.but HmU.out hM)
      have HRn5 := Lib.hid hR
      clear hR hM
      have HT6 := Lib.hid (take_any m s5 [40] v5 HRn5.out)
      obtain ⟨t6, ht⟩ : ∃ z, (Pa.takeW [40] s5).1 = z := ⟨_, rfl⟩
      obtain ⟨s6, hs⟩ : ∃ z, (Pa.takeW [40] s5).2 = z := ⟨_, rfl⟩
      have hno6 := (Pa.takeW_le [40] HRn5.out.fin).2.2
      rw [ht, hs] at HT6 hno6
      have HK6 := Lib.hid (show Pa.takeW [40] s5 = (t6, s6) by rw [← ht, ← hs])
      clear ht hs
      have hlen6 := (Pa.takeW_le [40] HRn5.out.fin).2.1
      rw [HK6.out] at hlen6
      cases t6 with
      | true =>
       have hl6 := (hlen6 rfl).2.2
       simp only at hl6
       clear hlen6
       clear hno6
       go_wp2_with fail
       refine HT6.out.mono ?_
       rintro e v6 ⟨rfl, hR, hM⟩
       have HMn6 := Lib.hid (HMn5.out.trans hM)
       have HUn6 := Lib.hid (HUn5.out.but HmU.out hM)
       have HRn6 := Lib.hid hR
       clear hR hM
       have HXe := Lib.hid (show Pa.enclP (Pa.lev F 0) s6 = X by rw [← HX.out]; simp only [Pa.firstP, HK1.out, HK2.out, HK3.out, HK4.out, HK5.out, HK6.out, Bool.false_eq_true, if_false, if_true])
       have HT := Lib.hid (penc_any F m (N - 1) HOo.out s6 v6 HRn6.out (by omega))
       rw [HXe.out] at HT
       have HUs := Lib.hid (show U + 1 ≤ (v6).heap.size from HUn6.out.lt)
       clear hN
       go_wp2_with fail
       refine (HT.out).mono ?_
       intro e v9 hE
       obtain ⟨A9, cap9, rfl, hC, hR, hM⟩ := RuE.ev hE
       clear hE
       have HM9 := Lib.hid (HMn6.out.trans hM)
       have HU9 := Lib.hid (HUn6.out.but HmU.out hM)
       have HR9 := Lib.hid hR
       have HC9 := Lib.hid (exC_ok.wide (a' := U + 1) (b' := v9.heap.size) HUs.out (Nat.le_refl _) hC)
       clear hC hR hM
       obtain ⟨c0, c1, c2, c3, c4, c5, c6, c7⟩ := cl8 (w := v9) (HU9.out)
       have fc0 := (HU9.out).frozen 0
       have fc1 := (HU9.out).frozen 1
       have fc2 := (HU9.out).frozen 2
       have fc3 := (HU9.out).frozen 3
       have fc4 := (HU9.out).frozen 4
       have fc5 := (HU9.out).frozen 5
       have fc6 := (HU9.out).frozen 6
       have fc7 := (HU9.out).frozen 7
       go_wp2_with fail
       exact bodyPost_ret (v := XV X.1.hd A9 X.1.kids.length cap9) (by simp [results, Tryz.results167, go_sem, c0, c1, c2, c3, c4, c5, c6, c7]) rfl (RuE.fin (c := xcell (X.1.hd, A9, X.1.kids.length, cap9)) exC_ok HUl.out HmU.out HM9.out HR9.out HC9.out (OnU.refl _ _).set.set.set.set.set.set.set.set)
      | false =>
       clear hlen6
       obtain rfl := hno6 rfl
       clear hno6
       go_wp2_with fail
       refine HT6.out.mono ?_
       rintro e v6 ⟨rfl, hR, hM⟩
       have HMn6 := Lib.hid (HMn5.out.trans hM)
       have HUn6 := Lib.hid (HUn5.out.but HmU.out hM)
       have HRn6 := Lib.hid hR
       clear hR hM
       have HT7 := Lib.hid (take_any m s6 Pa.wCOUNT v6 HRn6.out)
       obtain ⟨t7, ht⟩ : ∃ z, (Pa.takeW Pa.wCOUNT s6).1 = z := ⟨_, rfl⟩
       obtain ⟨s7, hs⟩ : ∃ z, (Pa.takeW Pa.wCOUNT s6).2 = z := ⟨_, rfl⟩
       have hno7 := (Pa.takeW_le Pa.wCOUNT HRn6.out.fin).2.2
       rw [ht, hs] at HT7 hno7
       have HK7 := Lib.hid (show Pa.takeW Pa.wCOUNT s6 = (t7, s7) by rw [← ht, ← hs])
       clear ht hs
       have hlen7 := (Pa.takeW_le Pa.wCOUNT HRn6.out.fin).2.1
       rw [HK7.out] at hlen7
       cases t7 with
       | true =>
        have hl7 := (hlen7 rfl).2.2
        simp only at hl7
        clear hlen7
        clear hno7
        go_wp2_with fail
        refine HT7.out.mono ?_
        rintro e v7 ⟨rfl, hR, hM⟩
        have HMn7 := Lib.hid (HMn6.out.trans hM)
        have HUn7 := Lib.hid (HUn6.out.but HmU.out hM)
        have HRn7 := Lib.hid hR
        clear hR hM
        have HXe := Lib.hid (show Pa.countP (Pa.lev F 0) s7 = X by rw [← HX.out]; simp only [Pa.firstP, HK1.out, HK2.out, HK3.out, HK4.out, HK5.out, HK6.out, HK7.out, Bool.false_eq_true, if_false, if_true])
        have HT := Lib.hid (pcount_any F m (N - 1) HOo.out s7 v7 HRn7.out (by omega))
        rw [HXe.out] at HT
        have HUs := Lib.hid (show U + 1 ≤ (v7).heap.size from HUn7.out.lt)
        clear hN
        go_wp2_with fail
        refine (HT.out).mono ?_
        intro e v9 hE
        obtain ⟨A9, cap9, rfl, hC, hR, hM⟩ := RuE.ev hE
        clear hE
        have HM9 := Lib.hid (HMn7.out.trans hM)
        have HU9 := Lib.hid (HUn7.out.but HmU.out hM)
        have HR9 := Lib.hid hR
        have HC9 := Lib.hid (exC_ok.wide (a' := U + 1) (b' := v9.heap.size) HUs.out (Nat.le_refl _) hC)
        clear hC hR hM
        obtain ⟨c0, c1, c2, c3, c4, c5, c6, c7⟩ := cl8 (w := v9) (HU9.out)
        have fc0 := (HU9.out).frozen 0
        have fc1 := (HU9.out).frozen 1
        have fc2 := (HU9.out).frozen 2
        have fc3 := (HU9.out).frozen 3
        have fc4 := (HU9.out).frozen 4
        have fc5 := (HU9.out).frozen 5
        have fc6 := (HU9.out).frozen 6
        have fc7 := (HU9.out).frozen 7
        go_wp2_with fail
        exact bodyPost_ret (v := XV X.1.hd A9 X.1.kids.length cap9) (by simp [results, Tryz.results167, go_sem, c0, c1, c2, c3, c4, c5, c6, c7]) rfl (RuE.fin (c := xcell (X.1.hd, A9, X.1.kids.length, cap9)) exC_ok HUl.out HmU.out HM9.out HR9.out HC9.out (OnU.refl _ _).set.set.set.set.set.set.set.set)
       | false =>
        clear hlen7
        obtain rfl := hno7 rfl
        clear hno7
        go_wp2_with fail
        refine HT7.out.mono ?_
        rintro e v7 ⟨rfl, hR, hM⟩
        have HMn7 := Lib.hid (HMn6.out.trans hM)
        have HUn7 := Lib.hid (HUn6.out.but HmU.out hM)
        have HRn7 := Lib.hid hR
        clear hR hM
        have HT8 := Lib.hid (take_any m s7 Pa.wSUM v7 HRn7.out)
        obtain ⟨t8, ht⟩ : ∃ z, (Pa.takeW Pa.wSUM s7).1 = z := ⟨_, rfl⟩
        obtain ⟨s8, hs⟩ : ∃ z, (Pa.takeW Pa.wSUM s7).2 = z := ⟨_, rfl⟩
        have hno8 := (Pa.takeW_le Pa.wSUM HRn7.out.fin).2.2
        rw [ht, hs] at HT8 hno8
        have HK8 := Lib.hid (show Pa.takeW Pa.wSUM s7 = (t8, s8) by rw [← ht, ← hs])
        clear ht hs
        have hlen8 := (Pa.takeW_le Pa.wSUM HRn7.out.fin).2.1
        rw [HK8.out] at hlen8
        cases t8 with
        | true =>
         have hl8 := (hlen8 rfl).2.2
         simp only at hl8
         clear hlen8
         clear hno8
         go_wp2_with fail
         refine HT8.out.mono ?_
         rintro e v8 ⟨rfl, hR, hM⟩
         have HMn8 := Lib.hid (HMn7.out.trans hM)
         have HUn8 := Lib.hid (HUn7.out.but HmU.out hM)
         have HRn8 := Lib.hid hR
         clear hR hM
         have HXe := Lib.hid (show Pa.aggP (Pa.lev F 0) 3 s8 = X by rw [← HX.out]; simp only [Pa.firstP, HK1.out, HK2.out, HK3.out, HK4.out, HK5.out, HK6.out, HK7.out, HK8.out, Bool.false_eq_true, if_false, if_true])
         have HT := Lib.hid (pagg_any F m (N - 1) HOo.out 3 s8 v8 HRn8.out (by omega))
         rw [HXe.out] at HT
         have HUs := Lib.hid (show U + 1 ≤ (v8).heap.size from HUn8.out.lt)
         clear hN
         go_wp2_with fail
         refine (HT.out).mono ?_
         intro e v9 hE
         obtain ⟨A9, cap9, rfl, hC, hR, hM⟩ := RuE.ev hE
         clear hE
         have HM9 := Lib.hid (HMn8.out.trans hM)
         have HU9 := Lib.hid (HUn8.out.but HmU.out hM)
         have HR9 := Lib.hid hR
         have HC9 := Lib.hid (exC_ok.wide (a' := U + 1) (b' := v9.heap.size) HUs.out (Nat.le_refl _) hC)
         clear hC hR hM
         obtain ⟨c0, c1, c2, c3, c4, c5, c6, c7⟩ := cl8 (w := v9) (HU9.out)
         have fc0 := (HU9.out).frozen 0
         have fc1 := (HU9.out).frozen 1
         have fc2 := (HU9.out).frozen 2
         have fc3 := (HU9.out).frozen 3
         have fc4 := (HU9.out).frozen 4
         have fc5 := (HU9.out).frozen 5
         have fc6 := (HU9.out).frozen 6
         have fc7 := (HU9.out).frozen 7
         go_wp2_with fail
         exact bodyPost_ret (v := XV X.1.hd A9 X.1.kids.length cap9) (by simp [results, Tryz.results167, go_sem, c0, c1, c2, c3, c4, c5, c6, c7]) rfl (RuE.fin (c := xcell (X.1.hd, A9, X.1.kids.length, cap9)) exC_ok HUl.out HmU.out HM9.out HR9.out HC9.out (OnU.refl _ _).set.set.set.set.set.set.set.set)
        | false =>
         clear hlen8
         obtain rfl := hno8 rfl
         clear hno8
         go_wp2_with fail
         refine HT8.out.mono ?_
         rintro e v8 ⟨rfl, hR, hM⟩
         have HMn8 := Lib.hid (HMn7.out.trans hM)
         have HUn8 := Lib.hid (HUn7.out.but HmU.out hM)
         have HRn8 := Lib.hid hR
         clear hR hM
         have HT9 := Lib.hid (take_any m s8 Pa.wMIN v8 HRn8.out)
         obtain ⟨t9, ht⟩ : ∃ z, (Pa.takeW Pa.wMIN s8).1 = z := ⟨_, rfl⟩
         obtain ⟨s9, hs⟩ : ∃ z, (Pa.takeW Pa.wMIN s8).2 = z := ⟨_, rfl⟩
         have hno9 := (Pa.takeW_le Pa.wMIN HRn8.out.fin).2.2
         rw [ht, hs] at HT9 hno9
         have HK9 := Lib.hid (show Pa.takeW Pa.wMIN s8 = (t9, s9) by rw [← ht, ← hs])
         clear ht hs
         have hlen9 := (Pa.takeW_le Pa.wMIN HRn8.out.fin).2.1
         rw [HK9.out] at hlen9
         cases t9 with
         | true =>
          have hl9 := (hlen9 rfl).2.2
          simp only at hl9
          clear hlen9
          clear hno9
          go_wp2_with fail
          refine HT9.out.mono ?_
          rintro e v9 ⟨rfl, hR, hM⟩
          have HMn9 := Lib.hid (HMn8.out.trans hM)
          have HUn9 := Lib.hid (HUn8.out.but HmU.out hM)
          have HRn9 := Lib.hid hR
          clear hR hM
          have HXe := Lib.hid (show Pa.aggP (Pa.lev F 0) 4 s9 = X by rw [← HX.out]; simp only [Pa.firstP, HK1.out, HK2.out, HK3.out, HK4.out, HK5.out, HK6.out, HK7.out, HK8.out, HK9.out, Bool.false_eq_true, if_false, if_true])
          have HT := Lib.hid (pagg_any F m (N - 1) HOo.out 4 s9 v9 HRn9.out (by omega))
          rw [HXe.out] at HT
          have HUs := Lib.hid (show U + 1 ≤ (v9).heap.size from HUn9.out.lt)
          clear hN
          go_wp2_with fail
          refine (HT.out).mono ?_
          intro e v9 hE
          obtain ⟨A9, cap9, rfl, hC, hR, hM⟩ := RuE.ev hE
          clear hE
          have HM9 := Lib.hid (HMn9.out.trans hM)
          have HU9 := Lib.hid (HUn9.out.but HmU.out hM)
          have HR9 := Lib.hid hR
          have HC9 := Lib.hid (exC_ok.wide (a' := U + 1) (b' := v9.heap.size) HUs.out (Nat.le_refl _) hC)
          clear hC hR hM
          obtain ⟨c0, c1, c2, c3, c4, c5, c6, c7⟩ := cl8 (w := v9) (HU9.out)
          have fc0 := (HU9.out).frozen 0
          have fc1 := (HU9.out).frozen 1
          have fc2 := (HU9.out).frozen 2
          have fc3 := (HU9.out).frozen 3
          have fc4 := (HU9.out).frozen 4
          have fc5 := (HU9.out).frozen 5
          have fc6 := (HU9.out).frozen 6
          have fc7 := (HU9.out).frozen 7
          go_wp2_with fail
          exact bodyPost_ret (v := XV X.1.hd A9 X.1.kids.length cap9) (by simp [results, Tryz.results167, go_sem, c0, c1, c2, c3, c4, c5, c6, c7]) rfl (RuE.fin (c := xcell (X.1.hd, A9, X.1.kids.length, cap9)) exC_ok HUl.out HmU.out HM9.out HR9.out HC9.out (OnU.refl _ _).set.set.set.set.set.set.set.set)
         | false =>
          clear hlen9
          obtain rfl := hno9 rfl
          clear hno9
          go_wp2_with fail
          refine HT9.out.mono ?_
          rintro e v9 ⟨rfl, hR, hM⟩
          have HMn9 := Lib.hid (HMn8.out.trans hM)
          have HUn9 := Lib.hid (HUn8.out.but HmU.out hM)
          have HRn9 := Lib.hid hR
          clear hR hM
          have HT10 := Lib.hid (take_any m s9 Pa.wMAX v9 HRn9.out)
          obtain ⟨t10, ht⟩ : ∃ z, (Pa.takeW Pa.wMAX s9).1 = z := ⟨_, rfl⟩
          obtain ⟨s10, hs⟩ : ∃ z, (Pa.takeW Pa.wMAX s9).2 = z := ⟨_, rfl⟩
          have hno10 := (Pa.takeW_le Pa.wMAX HRn9.out.fin).2.2
          rw [ht, hs] at HT10 hno10
          have HK10 := Lib.hid (show Pa.takeW Pa.wMAX s9 = (t10, s10) by rw [← ht, ← hs])
          clear ht hs
          have hlen10 := (Pa.takeW_le Pa.wMAX HRn9.out.fin).2.1
          rw [HK10.out] at hlen10
          cases t10 with
          | true =>
           have hl10 := (hlen10 rfl).2.2
           simp only at hl10
           clear hlen10
           clear hno10
           go_wp2_with fail
           refine HT10.out.mono ?_
           rintro e v10 ⟨rfl, hR, hM⟩
           have HMn10 := Lib.hid (HMn9.out.trans hM)
           have HUn10 := Lib.hid (HUn9.out.but HmU.out hM)
           have HRn10 := Lib.hid hR
           clear hR hM
           have HXe := Lib.hid (show Pa.aggP (Pa.lev F 0) 5 s10 = X by rw [← HX.out]; simp only [Pa.firstP, HK1.out, HK2.out, HK3.out, HK4.out, HK5.out, HK6.out, HK7.out, HK8.out, HK9.out, HK10.out, Bool.false_eq_true, if_false, if_true])
           have HT := Lib.hid (pagg_any F m (N - 1) HOo.out 5 s10 v10 HRn10.out (by omega))
           rw [HXe.out] at HT
           have HUs := Lib.hid (show U + 1 ≤ (v10).heap.size from HUn10.out.lt)
           clear hN
           go_wp2_with fail
           refine (HT.out).mono ?_
           intro e v9 hE
           obtain ⟨A9, cap9, rfl, hC, hR, hM⟩ := RuE.ev hE
           clear hE
           have HM9 := Lib.hid (HMn10.out.trans hM)
           have HU9 := Lib.hid (HUn10.out.but HmU.out hM)
           have HR9 := Lib.hid hR
           have HC9 := Lib.hid (exC_ok.wide (a' := U + 1) (b' := v9.heap.size) HUs.out (Nat.le_refl _) hC)
           clear hC hR hM
           obtain ⟨c0, c1, c2, c3, c4, c5, c6, c7⟩ := cl8 (w := v9) (HU9.out)
           have fc0 := (HU9.out).frozen 0
           have fc1 := (HU9.out).frozen 1
           have fc2 := (HU9.out).frozen 2
           have fc3 := (HU9.out).frozen 3
           have fc4 := (HU9.out).frozen 4
           have fc5 := (HU9.out).frozen 5
           have fc6 := (HU9.out).frozen 6
           have fc7 := (HU9.out).frozen 7
           go_wp2_with fail
           exact bodyPost_ret (v := XV X.1.hd A9 X.1.kids.length cap9) (by simp [results, Tryz.results167, go_sem, c0, c1, c2, c3, c4, c5, c6, c7]) rfl (RuE.fin (c := xcell (X.1.hd, A9, X.1.kids.length, cap9)) exC_ok HUl.out HmU.out HM9.out HR9.out HC9.out (OnU.refl _ _).set.set.set.set.set.set.set.set)
          | false =>
           clear hlen10
           obtain rfl := hno10 rfl
           clear hno10
           go_wp2_with fail
           refine HT10.out.mono ?_
           rintro e v10 ⟨rfl, hR, hM⟩
           have HMn10 := Lib.hid (HMn9.out.trans hM)
           have HUn10 := Lib.hid (HUn9.out.but HmU.out hM)
           have HRn10 := Lib.hid hR
           clear hR hM
           have HXe := Lib.hid (show Pa.colP s10 = X by rw [← HX.out]; simp only [Pa.firstP, HK1.out, HK2.out, HK3.out, HK4.out, HK5.out, HK6.out, HK7.out, HK8.out, HK9.out, HK10.out, Bool.false_eq_true, if_false])
           have HT := Lib.hid (pcol_any m s10 v10 HRn10.out)
           rw [HXe.out] at HT
           have HUs := Lib.hid (show U + 1 ≤ (v10).heap.size from HUn10.out.lt)
           clear hN
           go_wp2_with fail
           refine (HT.out).mono ?_
           intro e v9 hE
           obtain ⟨A9, cap9, rfl, hC, hR, hM⟩ := RuE.ev hE
           clear hE
           have HM9 := Lib.hid (HMn10.out.trans hM)
           have HU9 := Lib.hid (HUn10.out.but HmU.out hM)
           have HR9 := Lib.hid hR
           have HC9 := Lib.hid (exC_ok.wide (a' := U + 1) (b' := v9.heap.size) HUs.out (Nat.le_refl _) hC)
           clear hC hR hM
           obtain ⟨c0, c1, c2, c3, c4, c5, c6, c7⟩ := cl8 (w := v9) (HU9.out)
           have fc0 := (HU9.out).frozen 0
           have fc1 := (HU9.out).frozen 1
           have fc2 := (HU9.out).frozen 2
           have fc3 := (HU9.out).frozen 3
           have fc4 := (HU9.out).frozen 4
           have fc5 := (HU9.out).frozen 5
           have fc6 := (HU9.out).frozen 6
           have fc7 := (HU9.out).frozen 7
           go_wp2_with fail
           exact bodyPost_ret (v := XV X.1.hd A9 X.1.kids.length cap9) (by simp [results, Tryz.results167, go_sem, c0, c1, c2, c3, c4, c5, c6, c7]) rfl (RuE.fin (c := xcell (X.1.hd, A9, X.1.kids.length, cap9)) exC_ok HUl.out HmU.out HM9.out HR9.out HC9.out (OnU.refl _ _).set.set.set.set.set.set.set.set)
theorem levs_any (m : Nat) : ∀ (F N : Nat),
  (8 * N + 8 ≤ F → Ok 29 (Pa.lev F 0) m N) ∧ (8 * N + 7 ≤ F → Ok 61 (Pa.lev F 1) m N) ∧ (8 * N + 6 ≤ F → Ok 113 (Pa.lev F 2) m N) ∧
  (8 * N + 5 ≤ F → Ok 139 (Pa.lev F 3) m N) ∧ (8 * N + 4 ≤ F → Ok 155 (Pa.lev F 4) m N) ∧ (8 * N + 3 ≤ F → Ok 161 (Pa.lev F 5) m N) ∧
  (8 * N + 2 ≤ F → Ok 165 (Pa.lev F 6) m N) ∧ (8 * N + 1 ≤ F → Ok 167 (Pa.lev F 7) m N)
 | 0, N => by refine ⟨?_, ?_, ?_, ?_, ?_, ?_, ?_, ?_⟩ <;> intro h <;> omega
 | F + 1, N => by
  obtain ⟨h0, h1, h2, h3, h4, h5, h6, h7⟩ := levs_any m F N
  obtain ⟨g0, g1, g2, g3, g4, g5, g6, g7⟩ := levs_any m F (N - 1)
  have none : ∀ {fn : FuncId} {f : Pa.Ps → Ex × Pa.Ps}, N = 0 → Ok fn f m N := fun hz s w h hl => by
   have := h.fin.ne
   omega
  have lev7 : Pa.lev (F + 1) 7 = Pa.firstP (Pa.lev F 0) := by funext s; rw [Pa.lev, if_neg (by decide), if_neg (by decide), if_pos rfl]
  refine ⟨fun h => por_any F m N (h1 (by omega)), fun h => pand_any F m N (h2 (by omega)), fun h => ?_, fun h => pcmp_any F m N (h4 (by omega)), fun h => psum_any F m N (h5 (by omega)), fun h => pprod_any F m N (h6 (by omega)), fun h => ?_, fun h => ?_⟩
  ·rcases Nat.eq_zero_or_pos N with hz | hz
   ·exact none hz
   ·exact pnot_any F m N (g2 (by omega)) (h3 (by omega))
  ·rcases Nat.eq_zero_or_pos N with hz | hz
   ·exact none hz
   ·exact punary_any F m N (g6 (by omega)) (h7 (by omega))
  ·rcases Nat.eq_zero_or_pos N with hz | hz
   ·exact none hz
   ·rw [lev7]
    exact pfirst_any F m N (g0 (by omega))
end Go.Proofs.YtfjimoccliejdaaGreatDoor
end
section
namespace Go.Proofs.YtfjimoccliejdaaGreatDoor
open Go.RowKit Go.Shelf

set_option maxRecDepth 100000 in
set_option maxHeartbeats 2000000 in
theorem takeAll1_any (m : Nat) (s : Pa.Ps) (w0 : Lx.B) (g : Nat) (w : World) (h : RS m w s) (_hgm : m < g) (c0 : w.cell? ⟨g, 0, none⟩ = some (.string ⟨w0.toArray⟩)) :
  Calls Tryz.prog 43 #[.pointer (some ⟨m, 0, none⟩), .slice (some ⟨g, 0, none⟩) 1 1] w (TkE m w (Pa.takeAll w0 [] s).1 (Pa.takeAll w0 [] s).2) := by
 have HT := Lib.hid (take_any m s w0 w h)
 have hno := (Pa.takeW_le w0 h.fin).2.2
 obtain ⟨t, ht⟩ : ∃ z, (Pa.takeW w0 s).1 = z := ⟨_, rfl⟩
 obtain ⟨s1, hs1⟩ : ∃ z, (Pa.takeW w0 s).2 = z := ⟨_, rfl⟩
 have HK := Lib.hid (show Pa.takeW w0 s = (t, s1) by rw [← ht, ← hs1])
 obtain ⟨X, hX⟩ : ∃ X, Pa.takeAll w0 [] s = X := ⟨_, rfl⟩
 rw [hX]
 rw [ht, hs1] at HT hno
 have HX := Lib.hid (show X = if t = true then (true, s1) else (false, s) by rw [← hX, Pa.takeAll, HK.out]; rfl)
 clear hX ht hs1 h
 cases t with
 | true =>
  have HXe := Lib.hid (show X = (true, s1) by rw [HX.out, if_pos rfl])
  clear hno
  go_enter Tryz.func43, Tryz.ntmps43
  go_wp2_with fail
  refine HT.out.mono ?_
  rintro e v1 ⟨rfl, hR, hM⟩
  have HR := Lib.hid hR
  have HM := Lib.hid hM
  clear hR hM
  go_wp2_with fail
  go_loopw [16] (fun i W => i = .int .i64 0 ∧ Hid (RS m W s1) ∧ Hid (ButM m w W)) (fun i _ => 0)
  case atStart => exact ⟨rfl, HR, HM⟩
  case round =>
   obtain ⟨rfl, HRk, HMk⟩ := hrel
   go_wp2_with fail
   exact bodyPost_ret (v := .bool true) (by simp [results, Tryz.results43, go_sem]) rfl (by rw [HXe.out]; exact ⟨rfl, HRk.out, HMk.out⟩)
 | false =>
  have HXe := Lib.hid (show X = (false, s) by rw [HX.out, if_neg (by simp)])
  obtain rfl := hno rfl
  clear hno
  go_enter Tryz.func43, Tryz.ntmps43
  go_wp2_with fail
  refine HT.out.mono ?_
  rintro e v1 ⟨rfl, hR, hM⟩
  have HE := Lib.hid (And.intro hR hM)
  clear hR hM
  go_wp2_with fail
  exact bodyPost_ret (v := .bool false) (by simp [results, Tryz.results43, go_sem]) rfl (by rw [HXe.out]; exact ⟨rfl, HE.out⟩)
set_option maxRecDepth 100000 in
set_option maxHeartbeats 2000000 in
theorem takeAll2_any (m : Nat) (s : Pa.Ps) (w0 w1 : Lx.B) (g : Nat) (w : World) (h : RS m w s) (hgm : m < g) (c0 : w.cell? ⟨g, 0, none⟩ = some (.string ⟨w0.toArray⟩)) (c1 : w.cell? ⟨g, 1, none⟩ = some (.string ⟨w1.toArray⟩)) :
  Calls Tryz.prog 43 #[.pointer (some ⟨m, 0, none⟩), .slice (some ⟨g, 0, none⟩) 2 2] w (TkE m w (Pa.takeAll w0 [w1] s).1 (Pa.takeAll w0 [w1] s).2) := by
 have HT := Lib.hid (take_any m s w0 w h)
 have hno := (Pa.takeW_le w0 h.fin).2.2
 obtain ⟨t, ht⟩ : ∃ z, (Pa.takeW w0 s).1 = z := ⟨_, rfl⟩
 obtain ⟨s1, hs1⟩ : ∃ z, (Pa.takeW w0 s).2 = z := ⟨_, rfl⟩
 have HK := Lib.hid (show Pa.takeW w0 s = (t, s1) by rw [← ht, ← hs1])
 obtain ⟨X, hX⟩ : ∃ X, Pa.takeAll w0 [w1] s = X := ⟨_, rfl⟩
 rw [hX]
 rw [ht, hs1] at HT hno
 have HX := Lib.hid (show X = if t = true then (true, Pa.mustW w1 s1) else (false, s) by rw [← hX, Pa.takeAll, HK.out]; rfl)
 clear hX ht hs1 h
 cases t with
 | true =>
  have HXe := Lib.hid (show X = (true, Pa.mustW w1 s1) by rw [HX.out, if_pos rfl])
  clear hno
  go_enter Tryz.func43, Tryz.ntmps43
  go_wp2_with fail
  refine HT.out.mono ?_
  rintro e v1 ⟨rfl, hR, hM⟩
  have HR := Lib.hid hR
  have HM := Lib.hid hM
  have d1 := hM.cell (Nat.ne_of_gt hgm) c1
  clear hR hM
  go_wp2_with fail
  go_loopw [16] (fun i W => ∃ k : Nat, k ≤ 1 ∧ i = .int .i64 k ∧ Hid (RS m W (if k = 0 then s1 else Pa.mustW w1 s1)) ∧ Hid (ButM m w W)) (fun i _ => 1 - (intOf i).toNat)
  case atStart => exact ⟨0, by omega, rfl, HR, HM⟩
  case round =>
   obtain ⟨k, hk, rfl, HRk, HMk⟩ := hrel
   by_cases hk0 : k = 0
   ·subst hk0
    have HR0 := Lib.hid (show RS m wr s1 from HRk.out)
    have e1 := HMk.out.cell (Nat.ne_of_gt hgm) c1
    have HU := Lib.hid (must_any m s1 w1 wr HR0.out)
    go_wp2_with fail
    refine HU.out.mono ?_
    rintro e v2 ⟨rfl, hR, hM⟩
    have HR2 := Lib.hid hR
    have HM2 := Lib.hid (HMk.out.trans hM)
    clear hR hM
    go_wp2_with fail
    go_roundw
    case rel => exact ⟨1, by omega, by go_num, HR2, HM2⟩
    case measure => simp [intOf]
   ·obtain rfl : k = 1 := by omega
    have HR1 := Lib.hid (show RS m wr (Pa.mustW w1 s1) from HRk.out)
    go_wp2_with fail
    exact bodyPost_ret (v := .bool true) (by simp [results, Tryz.results43, go_sem]) rfl (by rw [HXe.out]; exact ⟨rfl, HR1.out, HMk.out⟩)
 | false =>
  have HXe := Lib.hid (show X = (false, s) by rw [HX.out, if_neg (by simp)])
  obtain rfl := hno rfl
  clear hno
  go_enter Tryz.func43, Tryz.ntmps43
  go_wp2_with fail
  refine HT.out.mono ?_
  rintro e v1 ⟨rfl, hR, hM⟩
  have HE := Lib.hid (And.intro hR hM)
  clear hR hM
  go_wp2_with fail
  exact bodyPost_ret (v := .bool false) (by simp [results, Tryz.results43, go_sem]) rfl (by rw [HXe.out]; exact ⟨rfl, HE.out⟩)
end Go.Proofs.YtfjimoccliejdaaGreatDoor
end
section
namespace Go.Proofs.YtfjimoccliejdaaGreatDoor
open Go.RowKit Go.Shelf

def OkP {α : Type} (P : Lay α) (fn : FuncId) (f : Pa.Ps → α × Pa.Ps) (m N : Nat) : Prop := ∀ (s : Pa.Ps) (w : World), RS m w s → s.ts.length ≤ N → Calls Tryz.prog fn #[.pointer (some ⟨m, 0, none⟩)] w (RuE P m w (f s).1 (f s).2)
def LsE {α : Type} (P : Lay α) (ty : TypeId) (sz m : Nat) (w : World) (l : List α) (s' : Pa.Ps) (e : Ending) (w' : World) : Prop := ∃ v, e = .returned v ∧ Ow P ty sz w.heap.size w' v l ∧ RS m w' s' ∧ ButM m w w'
structure LsS {α : Type} (P : Lay α) (ty : TypeId) (sz : Nat) (thing : Pa.Ps → α × Pa.Ps) (w0 : Lx.B) (ws : List Lx.B) (m N : Nat) (w : World) (X : List α × Pa.Ps) (l : List α) (s1 : Pa.Ps) (nn : Nat) (v : Value) (W : World) : Prop where
 len : s1.ts.length ≤ nn
 tot : l.length + s1.ts.length ≤ N + 1
 rs : RS m W s1
 but : ButM m w W
 ow : Ow P ty sz w.heap.size W v l
 eq : Pa.moreP thing w0 ws nn l s1 = X
theorem moreP_more {α : Type} {thing : Pa.Ps → α × Pa.Ps} {w : Lx.B} {ws : List Lx.B} {n : Nat} {l : List α} {s : Pa.Ps} (h : (Pa.takeAll w ws s).1 = true) : Pa.moreP thing w ws (n + 1) l s = Pa.moreP thing w ws n (l ++ [(thing (Pa.takeAll w ws s).2).1]) (thing (Pa.takeAll w ws s).2).2 := by rw [Pa.moreP, if_pos h]
theorem Ow.but {α : Type} {P : Lay α} {ty : TypeId} {sz base m : Nat} {W W' : World} {v : Value} {l : List α} (ok : LayOk P sz) (h : Ow P ty sz base W v l) (hm : m < base) (hb : ButM m W W') : Ow P ty sz base W' v l := h.go ok (fun k h1 h2 => hb.block k h2 (by omega)) hb.size
theorem grown_rs {m base : Nat} {w W2 W3 : World} {o : Obj} {v : Value} {s : Pa.Ps} (hR : RS m W2 s) (hM : ButM m w W2) (hb : w.heap.size = base) (hm : m < base) (hg : (W2.alloc o).grownBy W3 v.ownBlock) (hv : ∀ k, v.ownBlock = some k → base ≤ k) : RS m W3 s ∧ ButM m w W3 := by
 have ha := ba W2 o
 have hs := hM.size
 have hk : ∀ k, k < base → W3.heap[k]? = W2.heap[k]? := fun k hk => (hg.block k (by have := ha.size; omega) (fun e => by have := hv k e.symm; omega)).trans (ha.block k (by omega))
 refine ⟨hR.low fun k hkm => hk k (by omega), hg.os.trans (ha.os.trans hM.os), hg.tape.trans (ha.tape.trans hM.tape), hg.output.trans (ha.output.trans hM.output), by have := hg.size; have := ha.size; omega, fun k hkw hkm => (hk k (by omega)).trans (hM.block k hkw hkm)⟩
theorem itV {m : Nat} {w : World} {x : Pa.Itm} {s' : Pa.Ps} {e : Ending} {w' : World} (h : RuE itC m w x s' e w') : ∃ (hd : Hd) (A : Option Addr) (n cp : Nat), e = .returned (.agg #[.bool x.star, .int .i64 hd.k, .int .i64 hd.n, .int .i64 hd.vk, .int .i64 hd.vn, .string hd.vs, .string hd.tab, .string hd.col, .slice A n cp, st x.nm]) ∧ itC (Bt w.heap.size w'.heap.size) w' x [.bool x.star, .int .i64 hd.k, .int .i64 hd.n, .int .i64 hd.vk, .int .i64 hd.vn, .string hd.vs, .string hd.tab, .string hd.col, .slice A n cp, st x.nm] ∧ RS m w' s' ∧ ButM m w w' := by
 obtain ⟨c, rfl, hC, hR, hM⟩ := h
 have hC2 := hC
 obtain ⟨⟨hd, A, n, cp⟩, rfl, _⟩ := hC
 exact ⟨hd, A, n, cp, rfl, hC2, hR, hM⟩
theorem srV {m : Nat} {w : World} {x : Pa.Src} {s' : Pa.Ps} {e : Ending} {w' : World} (h : RuE srC m w x s' e w') : ∃ (hd : Hd) (A : Option Addr) (n cp : Nat), e = .returned (.agg #[st x.tb, st x.nm, .int .i64 x.join, .int .i64 hd.k, .int .i64 hd.n, .int .i64 hd.vk, .int .i64 hd.vn, .string hd.vs, .string hd.tab, .string hd.col, .slice A n cp]) ∧ srC (Bt w.heap.size w'.heap.size) w' x [st x.tb, st x.nm, .int .i64 x.join, .int .i64 hd.k, .int .i64 hd.n, .int .i64 hd.vk, .int .i64 hd.vn, .string hd.vs, .string hd.tab, .string hd.col, .slice A n cp] ∧ RS m w' s' ∧ ButM m w w' := by
 obtain ⟨c, rfl, hC, hR, hM⟩ := h
 have hC2 := hC
 obtain ⟨⟨hd, A, n, cp⟩, rfl, _⟩ := hC
 exact ⟨hd, A, n, cp, rfl, hC2, hR, hM⟩
theorem kyV {m : Nat} {w : World} {x : Pa.Ky} {s' : Pa.Ps} {e : Ending} {w' : World} (h : RuE kyC m w x s' e w') : e = .returned (.agg #[st x.nm, .bool x.down]) ∧ kyC (Bt w.heap.size w'.heap.size) w' x [st x.nm, .bool x.down] ∧ RS m w' s' ∧ ButM m w w' := by
 obtain ⟨c, rfl, hC, hR, hM⟩ := h
 have hC2 : c = _ := hC
 subst hC2
 exact ⟨rfl, rfl, hR, hM⟩
theorem slV {m : Nat} {w : World} {x : Pa.Sel} {s' : Pa.Ps} {e : Ending} {w' : World} (h : RuE slC m w x s' e w') : ∃ (iA fA gA : Option Addr) (ic fc gc : Nat) (hd : Hd) (A : Option Addr) (n cp : Nat), e = .returned (.agg #[.bool x.dist, .slice iA x.its.length ic, .slice fA x.frs.length fc, .int .i64 hd.k, .int .i64 hd.n, .int .i64 hd.vk, .int .i64 hd.vn, .string hd.vs, .string hd.tab, .string hd.col, .slice A n cp, .slice gA x.grp.length gc]) ∧ slC (Bt w.heap.size w'.heap.size) w' x [.bool x.dist, .slice iA x.its.length ic, .slice fA x.frs.length fc, .int .i64 hd.k, .int .i64 hd.n, .int .i64 hd.vk, .int .i64 hd.vn, .string hd.vs, .string hd.tab, .string hd.col, .slice A n cp, .slice gA x.grp.length gc] ∧ RS m w' s' ∧ ButM m w w' := by
 obtain ⟨c, rfl, hC, hR, hM⟩ := h
 have hC2 := hC
 obtain ⟨iA, fA, gA, ic, fc, gc, ⟨hd, A, n, cp⟩, rfl, _⟩ := hC
 exact ⟨iA, fA, gA, ic, fc, gc, hd, A, n, cp, rfl, hC2, hR, hM⟩
theorem exV {m : Nat} {w : World} {x : Ex} {s' : Pa.Ps} {e : Ending} {w' : World} (h : RuE exC m w x s' e w') : ∃ (hd : Hd) (A : Option Addr) (n cp : Nat), e = .returned (.agg #[.int .i64 hd.k, .int .i64 hd.n, .int .i64 hd.vk, .int .i64 hd.vn, .string hd.vs, .string hd.tab, .string hd.col, .slice A n cp]) ∧ exC (Bt w.heap.size w'.heap.size) w' x [.int .i64 hd.k, .int .i64 hd.n, .int .i64 hd.vk, .int .i64 hd.vn, .string hd.vs, .string hd.tab, .string hd.col, .slice A n cp] ∧ RS m w' s' ∧ ButM m w w' := by
 obtain ⟨c, rfl, hC, hR, hM⟩ := h
 have hC2 := hC
 obtain ⟨⟨hd, A, n, cp⟩, rfl, _⟩ := hC
 exact ⟨hd, A, n, cp, rfl, hC2, hR, hM⟩
theorem info_I : (Tryz.prog.info? 49).map (fun i => (i.zero, i.size, i.bytes)) = some (some (.agg #[.bool false, .int .i64 0, .int .i64 0, .int .i64 0, .int .i64 0, .string ⟨#[]⟩, .string ⟨#[]⟩, .string ⟨#[]⟩, .slice none 0 0, .string ⟨#[]⟩]), 10, 128) := by kernel_rfl
theorem info_S : (Tryz.prog.info? 51).map (fun i => (i.zero, i.size, i.bytes)) = some (some (.agg #[.string ⟨#[]⟩, .string ⟨#[]⟩, .int .i64 0, .int .i64 0, .int .i64 0, .int .i64 0, .int .i64 0, .string ⟨#[]⟩, .string ⟨#[]⟩, .string ⟨#[]⟩, .slice none 0 0]), 11, 144) := by kernel_rfl
theorem info_K : (Tryz.prog.info? 54).map (fun i => (i.zero, i.size, i.bytes)) = some (some (.agg #[.string ⟨#[]⟩, .bool false]), 2, 24) := by kernel_rfl
theorem info_L : (Tryz.prog.info? 47).map (fun i => (i.zero, i.size, i.bytes)) = some (some (.agg #[.bool false, .slice none 0 0, .slice none 0 0, .int .i64 0, .int .i64 0, .int .i64 0, .int .i64 0, .string ⟨#[]⟩, .string ⟨#[]⟩, .string ⟨#[]⟩, .slice none 0 0, .slice none 0 0]), 12, 184) := by kernel_rfl
end Go.Proofs.YtfjimoccliejdaaGreatDoor
end
section
namespace Go.Proofs.YtfjimoccliejdaaGreatDoor
open Go.RowKit Go.Shelf

set_option maxRecDepth 100000 in
set_option maxHeartbeats 4000000 in
theorem listI_any (thing : Pa.Ps → Pa.Itm × Pa.Ps) (hle : ∀ s, Pa.Fin s.ts → Pa.Le s (thing s).2) (m N : Nat) (hN5 : N ≤ 5000) (HP : OkP itC 78 thing m N) (s : Pa.Ps) (w0 : Lx.B) (g : Nat) (w : World) (h : RS m w s) (hN : s.ts.length ≤ N) (hgm : m < g) (c0 : w.cell? ⟨g, 0, none⟩ = some (.string ⟨w0.toArray⟩)) :
  Calls Tryz.prog 77 #[.pointer (some ⟨m, 0, none⟩), .func (.func 78) #[.pointer (some ⟨m, 0, none⟩)] #[], .slice (some ⟨g, 0, none⟩) 1 1] w (LsE itC 49 10 m w (Pa.listP thing w0 [] s).1 (Pa.listP thing w0 [] s).2) := by
 obtain ⟨i0, hi, hz0, hz1, hz2⟩ := infoE_parts info_I
 have HPp := Lib.hid HP
 have Hle := Lib.hid hle
 have HC0 := Lib.hid c0
 have H1 := Lib.hid h
 have hmB := h.lt
 obtain ⟨Bs, hBs⟩ : ∃ b, w.heap.size = b := ⟨_, rfl⟩
 rw [hBs] at hmB
 have HBs := Lib.hid hBs
 have HmB := Lib.hid hmB
 obtain ⟨X, hX⟩ : ∃ X, Pa.listP thing w0 [] s = X := ⟨_, rfl⟩
 rw [hX]
 have HX := Lib.hid hX
 have hl0 := (hle s h.fin).len
 have HT := Lib.hid (HP s w h hN)
 obtain ⟨⟨x, s1⟩, hx⟩ : ∃ q, thing s = q := ⟨_, rfl⟩
 rw [hx] at HT hl0
 simp only at HT hl0
 have HX1 := Lib.hid (show Pa.moreP thing w0 [] s1.ts.length [x] s1 = X by rw [← hX, Pa.listP, hx])
 have HL0 := Lib.hid (show [x].length + s1.ts.length ≤ N + 1 by simp only [List.length_singleton]; omega)
 clear HP hle c0 h hX hx hN hmB hBs hl0
 go_enter Tryz.func77, Tryz.ntmps77
 go_wp2_with fail
 refine HT.out.mono ?_
 intro e v1 hE
 obtain ⟨hd, A, n, cp, rfl, hC, hR, hM⟩ := itV hE
 clear hE
 have hb1 := ba v1 (.cells #[.bool x.star, .int .i64 hd.k, .int .i64 hd.n, .int .i64 hd.vk, .int .i64 hd.vn, .string hd.vs, .string hd.tab, .string hd.col, .slice A n cp, st x.nm] 49)
 have hOw := Ow.made itC_ok (ty := 49) (base := w.heap.size) hC (by have := hM.size; omega)
 have HS := Lib.hid (show LsS itC 49 10 thing w0 [] m N w X [x] s1 s1.ts.length (.slice (some ⟨v1.heap.size, 0, none⟩) 1 1) (v1.alloc (.cells #[.bool x.star, .int .i64 hd.k, .int .i64 hd.n, .int .i64 hd.vk, .int .i64 hd.vn, .string hd.vs, .string hd.tab, .string hd.col, .slice A n cp, st x.nm] 49)) from ⟨Nat.le_refl _, HL0.out, hR.next hb1, hM.trans (ButM.of hb1), hOw, HX1.out⟩)
 clear hC hR hM hb1 hOw
 go_wp2_with fail
 go_loopw [7] (fun v W => ∃ (l : List Pa.Itm) (s1 : Pa.Ps) (nn : Nat), Hid (LsS itC 49 10 thing w0 [] m N w X l s1 nn v W)) (fun _ W => lenR m W)
 case atStart => exact ⟨_, _, _, HS⟩
 case round =>
  obtain ⟨l, s2, nn, HS⟩ := hrel
  obtain ⟨A0, cap0, rfl, _⟩ := HS.out.ow.slice
  have HT := Lib.hid (takeAll1_any m s2 w0 g wr HS.out.rs hgm (HS.out.but.cell (Nat.ne_of_gt hgm) HC0.out))
  obtain ⟨hle2, hyes, hno⟩ := Pa.takeAll_le w0 [] HS.out.rs.fin
  obtain ⟨t, ht⟩ : ∃ z, (Pa.takeAll w0 [] s2).1 = z := ⟨_, rfl⟩
  obtain ⟨s3, hs3⟩ : ∃ z, (Pa.takeAll w0 [] s2).2 = z := ⟨_, rfl⟩
  rw [ht, hs3] at HT hyes hno
  rw [hs3] at hle2
  have HK := Lib.hid (show Pa.takeAll w0 [] s2 = (t, s3) by rw [← ht, ← hs3])
  clear ht hs3
  cases t with
  | true =>
   have hlt := (hyes rfl).2
   obtain ⟨nn, rfl⟩ : ∃ k, nn = k + 1 := ⟨nn - 1, by have := HS.out.len; omega⟩
   have hN3 : s3.ts.length ≤ N := by have := HS.out.tot; have := HS.out.ow.1; omega
   obtain ⟨⟨x, s4⟩, hx⟩ : ∃ q, thing s3 = q := ⟨_, rfl⟩
   have HY := Lib.hid hx
   have HX2 := Lib.hid (show Pa.moreP thing w0 [] nn (l ++ [x]) s4 = X by rw [← HS.out.eq, moreP_more (by rw [HK.out]), HK.out, HY.out])
   have HLs := Lib.hid hlt
   clear hle2 hyes hno hx hlt
   go_wp2_with fail
   refine HT.out.mono ?_
   rintro e v2 ⟨rfl, hR, hM⟩
   have HB2 := Lib.hid (HS.out.but.trans hM)
   have HO2 := Lib.hid (HS.out.ow.but itC_ok (by rw [HBs.out]; exact HmB.out) hM)
   have HP2 := Lib.hid (HPp.out s3 v2 hR hN3)
   rw [HY.out] at HP2
   have HL4 := Lib.hid (show s4.ts.length ≤ s3.ts.length by have := (Hle.out s3 hR.fin).len; rw [HY.out] at this; exact this)
   clear hR hM hN3
   go_wp2_with fail
   refine HP2.out.mono ?_
   intro e v3 hE
   obtain ⟨hd, A, n, cp, rfl, hC, hR, hM⟩ := itV hE
   clear hE
   have HB3 := Lib.hid (HB2.out.trans hM)
   have HO3 := HO2.out.but itC_ok (by rw [HBs.out]; exact HmB.out) hM
   have HO3h := Lib.hid HO3
   have HR3 := Lib.hid hR
   have hX3 := itC_ok.go (fun _ _ => rfl) (fun k hk => HO2.out.apart (W := v3) hk) hC
   have HX3 := Lib.hid hX3
   obtain ⟨hb3, q, hq, ho⟩ := HO3
   have HQ := Lib.hid hq
   have HOr := Lib.hid ho
   have HLen := Lib.hid (show l.length ≤ 5001 by have := HS.out.tot; omega)
   have HB0 := Lib.hid hb3
   clear hC hR hM hX3 hq ho hb3
   go_wp2_with (at_builtin; refine wpList_append_own_at _ rfl _ _ 44 rfl w.heap.size 49 i0 _ 10 128 Tryz.underlying44 hi hz0 hz1 hz2 rfl (by decide) _ _ _ rfl (HOr.out.alloc _) ⟨v3.heap.size, 0, none⟩ 1 1 [.bool x.star, .int .i64 hd.k, .int .i64 hd.n, .int .i64 hd.vk, .int .i64 hd.vn, .string hd.vs, .string hd.tab, .string hd.col, .slice A n cp, st x.nm] rfl rfl (news_of _ _ _) (itC_ok.one HX3.out) ?c3 ?c4 ?c5 ?_)
   case c3 => have := HLen.out; unfold maxLen; omega
   case c4 => have := HLen.out; omega
   case c5 => have := HB0.out; rw [World.size_alloc]; omega
   intro v' v4 hown' hg4 _ hat
   have hrs := grown_rs HR3.out HB3.out HBs.out HmB.out hg4 (fun k hk => by have := (HOr.out.lt k hk).1; rw [HBs.out] at this; exact this)
   have hOw := HO3h.out.grow itC_ok HQ.out HX3.out hown' hg4 (by rw [World.size_alloc]; exact hat)
   have HSn := Lib.hid (show LsS itC 49 10 thing w0 [] m N w X (l ++ [x]) s4 nn v' v4 from ⟨by have := HS.out.len; have := HLs.out; have := HL4.out; omega, by have := HS.out.tot; have := HLs.out; have := HL4.out; simp only [List.length_append, List.length_singleton]; omega, hrs.1, hrs.2, hOw, HX2.out⟩)
   clear hown' hg4 hat hrs hOw
   go_wp2_with fail
   go_roundw
   case rel => exact ⟨_, _, _, HSn⟩
   case measure => rw [HSn.out.rs.len, HS.out.rs.len]; have := HLs.out; have := HL4.out; omega
  | false =>
   obtain rfl := hno rfl
   have HXe := Lib.hid (show X = (l, s3) by rw [← HS.out.eq, Pa.moreP_stop (by rw [HK.out])])
   clear hle2 hyes hno
   go_wp2_with fail
   refine HT.out.mono ?_
   rintro e v2 ⟨rfl, hR, hM⟩
   have HE := Lib.hid (show Ow itC 49 10 w.heap.size v2 (.slice A0 l.length cap0) l ∧ RS m v2 s3 ∧ ButM m w v2 from ⟨HS.out.ow.but itC_ok (by rw [HBs.out]; exact HmB.out) hM, hR, HS.out.but.trans hM⟩)
   clear hR hM
   go_wp2_with fail
   exact bodyPost_ret (v := .slice A0 l.length cap0) (by simp [results, Tryz.results77, go_sem]) rfl (by rw [HXe.out]; exact ⟨_, rfl, HE.out⟩)
end Go.Proofs.YtfjimoccliejdaaGreatDoor
end
section
namespace Go.Proofs.YtfjimoccliejdaaGreatDoor
open Go.RowKit Go.Shelf

set_option maxRecDepth 100000 in
set_option maxHeartbeats 4000000 in
theorem listE_any (thing : Pa.Ps → Ex × Pa.Ps) (hle : ∀ s, Pa.Fin s.ts → Pa.Le s (thing s).2) (m N : Nat) (hN5 : N ≤ 5000) (HP : OkP exC 81 thing m N) (s : Pa.Ps) (w0 : Lx.B) (g : Nat) (w : World) (h : RS m w s) (hN : s.ts.length ≤ N) (hgm : m < g) (c0 : w.cell? ⟨g, 0, none⟩ = some (.string ⟨w0.toArray⟩)) :
  Calls Tryz.prog 80 #[.pointer (some ⟨m, 0, none⟩), .func (.func 81) #[.pointer (some ⟨m, 0, none⟩)] #[], .slice (some ⟨g, 0, none⟩) 1 1] w (LsE exC 37 8 m w (Pa.listP thing w0 [] s).1 (Pa.listP thing w0 [] s).2) := by
 obtain ⟨i0, hi, hz0, hz1, hz2⟩ := infoE_parts info_expr
 have HPp := Lib.hid HP
 have Hle := Lib.hid hle
 have HC0 := Lib.hid c0
 have H1 := Lib.hid h
 have hmB := h.lt
 obtain ⟨Bs, hBs⟩ : ∃ b, w.heap.size = b := ⟨_, rfl⟩
 rw [hBs] at hmB
 have HBs := Lib.hid hBs
 have HmB := Lib.hid hmB
 obtain ⟨X, hX⟩ : ∃ X, Pa.listP thing w0 [] s = X := ⟨_, rfl⟩
 rw [hX]
 have HX := Lib.hid hX
 have hl0 := (hle s h.fin).len
 have HT := Lib.hid (HP s w h hN)
 obtain ⟨⟨x, s1⟩, hx⟩ : ∃ q, thing s = q := ⟨_, rfl⟩
 rw [hx] at HT hl0
 simp only at HT hl0
 have HX1 := Lib.hid (show Pa.moreP thing w0 [] s1.ts.length [x] s1 = X by rw [← hX, Pa.listP, hx])
 have HL0 := Lib.hid (show [x].length + s1.ts.length ≤ N + 1 by simp only [List.length_singleton]; omega)
 clear HP hle c0 h hX hx hN hmB hBs hl0
 go_enter Tryz.func80, Tryz.ntmps80
 go_wp2_with fail
 refine HT.out.mono ?_
 intro e v1 hE
 obtain ⟨hd, A, n, cp, rfl, hC, hR, hM⟩ := exV hE
 clear hE
 have hb1 := ba v1 (.cells #[.int .i64 hd.k, .int .i64 hd.n, .int .i64 hd.vk, .int .i64 hd.vn, .string hd.vs, .string hd.tab, .string hd.col, .slice A n cp] 37)
 have hOw := Ow.made exC_ok (ty := 37) (base := w.heap.size) hC (by have := hM.size; omega)
 have HS := Lib.hid (show LsS exC 37 8 thing w0 [] m N w X [x] s1 s1.ts.length (.slice (some ⟨v1.heap.size, 0, none⟩) 1 1) (v1.alloc (.cells #[.int .i64 hd.k, .int .i64 hd.n, .int .i64 hd.vk, .int .i64 hd.vn, .string hd.vs, .string hd.tab, .string hd.col, .slice A n cp] 37)) from ⟨Nat.le_refl _, HL0.out, hR.next hb1, hM.trans (ButM.of hb1), hOw, HX1.out⟩)
 clear hC hR hM hb1 hOw
 go_wp2_with fail
 go_loopw [7] (fun v W => ∃ (l : List Ex) (s1 : Pa.Ps) (nn : Nat), Hid (LsS exC 37 8 thing w0 [] m N w X l s1 nn v W)) (fun _ W => lenR m W)
 case atStart => exact ⟨_, _, _, HS⟩
 case round =>
  obtain ⟨l, s2, nn, HS⟩ := hrel
  obtain ⟨A0, cap0, rfl, _⟩ := HS.out.ow.slice
  have HT := Lib.hid (takeAll1_any m s2 w0 g wr HS.out.rs hgm (HS.out.but.cell (Nat.ne_of_gt hgm) HC0.out))
  obtain ⟨hle2, hyes, hno⟩ := Pa.takeAll_le w0 [] HS.out.rs.fin
  obtain ⟨t, ht⟩ : ∃ z, (Pa.takeAll w0 [] s2).1 = z := ⟨_, rfl⟩
  obtain ⟨s3, hs3⟩ : ∃ z, (Pa.takeAll w0 [] s2).2 = z := ⟨_, rfl⟩
  rw [ht, hs3] at HT hyes hno
  rw [hs3] at hle2
  have HK := Lib.hid (show Pa.takeAll w0 [] s2 = (t, s3) by rw [← ht, ← hs3])
  clear ht hs3
  cases t with
  | true =>
   have hlt := (hyes rfl).2
   obtain ⟨nn, rfl⟩ : ∃ k, nn = k + 1 := ⟨nn - 1, by have := HS.out.len; omega⟩
   have hN3 : s3.ts.length ≤ N := by have := HS.out.tot; have := HS.out.ow.1; omega
   obtain ⟨⟨x, s4⟩, hx⟩ : ∃ q, thing s3 = q := ⟨_, rfl⟩
   have HY := Lib.hid hx
   have HX2 := Lib.hid (show Pa.moreP thing w0 [] nn (l ++ [x]) s4 = X by rw [← HS.out.eq, moreP_more (by rw [HK.out]), HK.out, HY.out])
   have HLs := Lib.hid hlt
   clear hle2 hyes hno hx hlt
   go_wp2_with fail
   refine HT.out.mono ?_
   rintro e v2 ⟨rfl, hR, hM⟩
   have HB2 := Lib.hid (HS.out.but.trans hM)
   have HO2 := Lib.hid (HS.out.ow.but exC_ok (by rw [HBs.out]; exact HmB.out) hM)
   have HP2 := Lib.hid (HPp.out s3 v2 hR hN3)
   rw [HY.out] at HP2
   have HL4 := Lib.hid (show s4.ts.length ≤ s3.ts.length by have := (Hle.out s3 hR.fin).len; rw [HY.out] at this; exact this)
   clear hR hM hN3
   go_wp2_with fail
   refine HP2.out.mono ?_
   intro e v3 hE
   obtain ⟨hd, A, n, cp, rfl, hC, hR, hM⟩ := exV hE
   clear hE
   have HB3 := Lib.hid (HB2.out.trans hM)
   have HO3 := HO2.out.but exC_ok (by rw [HBs.out]; exact HmB.out) hM
   have HO3h := Lib.hid HO3
   have HR3 := Lib.hid hR
   have hX3 := exC_ok.go (fun _ _ => rfl) (fun k hk => HO2.out.apart (W := v3) hk) hC
   have HX3 := Lib.hid hX3
   obtain ⟨hb3, q, hq, ho⟩ := HO3
   have HQ := Lib.hid hq
   have HOr := Lib.hid ho
   have HLen := Lib.hid (show l.length ≤ 5001 by have := HS.out.tot; omega)
   have HB0 := Lib.hid hb3
   clear hC hR hM hX3 hq ho hb3
   go_wp2_with (at_builtin; refine wpList_append_own_at _ rfl _ _ 35 rfl w.heap.size 37 i0 _ 8 104 Tryz.underlying35 hi hz0 hz1 hz2 rfl (by decide) _ _ _ rfl (HOr.out.alloc _) ⟨v3.heap.size, 0, none⟩ 1 1 [.int .i64 hd.k, .int .i64 hd.n, .int .i64 hd.vk, .int .i64 hd.vn, .string hd.vs, .string hd.tab, .string hd.col, .slice A n cp] rfl rfl (news_of _ _ _) (exC_ok.one HX3.out) ?c3 ?c4 ?c5 ?_)
   case c3 => have := HLen.out; unfold maxLen; omega
   case c4 => have := HLen.out; omega
   case c5 => have := HB0.out; rw [World.size_alloc]; omega
   intro v' v4 hown' hg4 _ hat
   have hrs := grown_rs HR3.out HB3.out HBs.out HmB.out hg4 (fun k hk => by have := (HOr.out.lt k hk).1; rw [HBs.out] at this; exact this)
   have hOw := HO3h.out.grow exC_ok HQ.out HX3.out hown' hg4 (by rw [World.size_alloc]; exact hat)
   have HSn := Lib.hid (show LsS exC 37 8 thing w0 [] m N w X (l ++ [x]) s4 nn v' v4 from ⟨by have := HS.out.len; have := HLs.out; have := HL4.out; omega, by have := HS.out.tot; have := HLs.out; have := HL4.out; simp only [List.length_append, List.length_singleton]; omega, hrs.1, hrs.2, hOw, HX2.out⟩)
   clear hown' hg4 hat hrs hOw
   go_wp2_with fail
   go_roundw
   case rel => exact ⟨_, _, _, HSn⟩
   case measure => rw [HSn.out.rs.len, HS.out.rs.len]; have := HLs.out; have := HL4.out; omega
  | false =>
   obtain rfl := hno rfl
   have HXe := Lib.hid (show X = (l, s3) by rw [← HS.out.eq, Pa.moreP_stop (by rw [HK.out])])
   clear hle2 hyes hno
   go_wp2_with fail
   refine HT.out.mono ?_
   rintro e v2 ⟨rfl, hR, hM⟩
   have HE := Lib.hid (show Ow exC 37 8 w.heap.size v2 (.slice A0 l.length cap0) l ∧ RS m v2 s3 ∧ ButM m w v2 from ⟨HS.out.ow.but exC_ok (by rw [HBs.out]; exact HmB.out) hM, hR, HS.out.but.trans hM⟩)
   clear hR hM
   go_wp2_with fail
   exact bodyPost_ret (v := .slice A0 l.length cap0) (by simp [results, Tryz.results80, go_sem]) rfl (by rw [HXe.out]; exact ⟨_, rfl, HE.out⟩)
end Go.Proofs.YtfjimoccliejdaaGreatDoor
end
section
namespace Go.Proofs.YtfjimoccliejdaaGreatDoor
open Go.RowKit Go.Shelf

set_option maxRecDepth 100000 in
set_option maxHeartbeats 4000000 in
theorem listK_any (thing : Pa.Ps → Pa.Ky × Pa.Ps) (hle : ∀ s, Pa.Fin s.ts → Pa.Le s (thing s).2) (m N : Nat) (hN5 : N ≤ 5000) (HP : OkP kyC 45 thing m N) (s : Pa.Ps) (w0 : Lx.B) (g : Nat) (w : World) (h : RS m w s) (hN : s.ts.length ≤ N) (hgm : m < g) (c0 : w.cell? ⟨g, 0, none⟩ = some (.string ⟨w0.toArray⟩)) :
  Calls Tryz.prog 44 #[.pointer (some ⟨m, 0, none⟩), .func (.func 45) #[.pointer (some ⟨m, 0, none⟩)] #[], .slice (some ⟨g, 0, none⟩) 1 1] w (LsE kyC 54 2 m w (Pa.listP thing w0 [] s).1 (Pa.listP thing w0 [] s).2) := by
 obtain ⟨i0, hi, hz0, hz1, hz2⟩ := infoE_parts info_K
 have HPp := Lib.hid HP
 have Hle := Lib.hid hle
 have HC0 := Lib.hid c0
 have H1 := Lib.hid h
 have hmB := h.lt
 obtain ⟨Bs, hBs⟩ : ∃ b, w.heap.size = b := ⟨_, rfl⟩
 rw [hBs] at hmB
 have HBs := Lib.hid hBs
 have HmB := Lib.hid hmB
 obtain ⟨X, hX⟩ : ∃ X, Pa.listP thing w0 [] s = X := ⟨_, rfl⟩
 rw [hX]
 have HX := Lib.hid hX
 have hl0 := (hle s h.fin).len
 have HT := Lib.hid (HP s w h hN)
 obtain ⟨⟨x, s1⟩, hx⟩ : ∃ q, thing s = q := ⟨_, rfl⟩
 rw [hx] at HT hl0
 simp only at HT hl0
 have HX1 := Lib.hid (show Pa.moreP thing w0 [] s1.ts.length [x] s1 = X by rw [← hX, Pa.listP, hx])
 have HL0 := Lib.hid (show [x].length + s1.ts.length ≤ N + 1 by simp only [List.length_singleton]; omega)
 clear HP hle c0 h hX hx hN hmB hBs hl0
 go_enter Tryz.func44, Tryz.ntmps44
 go_wp2_with fail
 refine HT.out.mono ?_
 intro e v1 hE
 obtain ⟨rfl, hC, hR, hM⟩ := kyV hE
 clear hE
 have hb1 := ba v1 (.cells #[st x.nm, .bool x.down] 54)
 have hOw := Ow.made kyC_ok (ty := 54) (base := w.heap.size) hC (by have := hM.size; omega)
 have HS := Lib.hid (show LsS kyC 54 2 thing w0 [] m N w X [x] s1 s1.ts.length (.slice (some ⟨v1.heap.size, 0, none⟩) 1 1) (v1.alloc (.cells #[st x.nm, .bool x.down] 54)) from ⟨Nat.le_refl _, HL0.out, hR.next hb1, hM.trans (ButM.of hb1), hOw, HX1.out⟩)
 clear hC hR hM hb1 hOw
 go_wp2_with fail
 go_loopw [7] (fun v W => ∃ (l : List Pa.Ky) (s1 : Pa.Ps) (nn : Nat), Hid (LsS kyC 54 2 thing w0 [] m N w X l s1 nn v W)) (fun _ W => lenR m W)
 case atStart => exact ⟨_, _, _, HS⟩
 case round =>
  obtain ⟨l, s2, nn, HS⟩ := hrel
  obtain ⟨A0, cap0, rfl, _⟩ := HS.out.ow.slice
  have HT := Lib.hid (takeAll1_any m s2 w0 g wr HS.out.rs hgm (HS.out.but.cell (Nat.ne_of_gt hgm) HC0.out))
  obtain ⟨hle2, hyes, hno⟩ := Pa.takeAll_le w0 [] HS.out.rs.fin
  obtain ⟨t, ht⟩ : ∃ z, (Pa.takeAll w0 [] s2).1 = z := ⟨_, rfl⟩
  obtain ⟨s3, hs3⟩ : ∃ z, (Pa.takeAll w0 [] s2).2 = z := ⟨_, rfl⟩
  rw [ht, hs3] at HT hyes hno
  rw [hs3] at hle2
  have HK := Lib.hid (show Pa.takeAll w0 [] s2 = (t, s3) by rw [← ht, ← hs3])
  clear ht hs3
  cases t with
  | true =>
   have hlt := (hyes rfl).2
   obtain ⟨nn, rfl⟩ : ∃ k, nn = k + 1 := ⟨nn - 1, by have := HS.out.len; omega⟩
   have hN3 : s3.ts.length ≤ N := by have := HS.out.tot; have := HS.out.ow.1; omega
   obtain ⟨⟨x, s4⟩, hx⟩ : ∃ q, thing s3 = q := ⟨_, rfl⟩
   have HY := Lib.hid hx
   have HX2 := Lib.hid (show Pa.moreP thing w0 [] nn (l ++ [x]) s4 = X by rw [← HS.out.eq, moreP_more (by rw [HK.out]), HK.out, HY.out])
   have HLs := Lib.hid hlt
   clear hle2 hyes hno hx hlt
   go_wp2_with fail
   refine HT.out.mono ?_
   rintro e v2 ⟨rfl, hR, hM⟩
   have HB2 := Lib.hid (HS.out.but.trans hM)
   have HO2 := Lib.hid (HS.out.ow.but kyC_ok (by rw [HBs.out]; exact HmB.out) hM)
   have HP2 := Lib.hid (HPp.out s3 v2 hR hN3)
   rw [HY.out] at HP2
   have HL4 := Lib.hid (show s4.ts.length ≤ s3.ts.length by have := (Hle.out s3 hR.fin).len; rw [HY.out] at this; exact this)
   clear hR hM hN3
   go_wp2_with fail
   refine HP2.out.mono ?_
   intro e v3 hE
   obtain ⟨rfl, hC, hR, hM⟩ := kyV hE
   clear hE
   have HB3 := Lib.hid (HB2.out.trans hM)
   have HO3 := HO2.out.but kyC_ok (by rw [HBs.out]; exact HmB.out) hM
   have HO3h := Lib.hid HO3
   have HR3 := Lib.hid hR
   have hX3 := kyC_ok.go (fun _ _ => rfl) (fun k hk => HO2.out.apart (W := v3) hk) hC
   have HX3 := Lib.hid hX3
   obtain ⟨hb3, q, hq, ho⟩ := HO3
   have HQ := Lib.hid hq
   have HOr := Lib.hid ho
   have HLen := Lib.hid (show l.length ≤ 5001 by have := HS.out.tot; omega)
   have HB0 := Lib.hid hb3
   clear hC hR hM hX3 hq ho hb3
   go_wp2_with (at_builtin; refine wpList_append_own_at _ rfl _ _ 24 rfl w.heap.size 54 i0 _ 2 24 Tryz.underlying24 hi hz0 hz1 hz2 rfl (by decide) _ _ _ rfl (HOr.out.alloc _) ⟨v3.heap.size, 0, none⟩ 1 1 [st x.nm, .bool x.down] rfl rfl (news_of _ _ _) (kyC_ok.one HX3.out) ?c3 ?c4 ?c5 ?_)
   case c3 => have := HLen.out; unfold maxLen; omega
   case c4 => have := HLen.out; omega
   case c5 => have := HB0.out; rw [World.size_alloc]; omega
   intro v' v4 hown' hg4 _ hat
   have hrs := grown_rs HR3.out HB3.out HBs.out HmB.out hg4 (fun k hk => by have := (HOr.out.lt k hk).1; rw [HBs.out] at this; exact this)
   have hOw := HO3h.out.grow kyC_ok HQ.out HX3.out hown' hg4 (by rw [World.size_alloc]; exact hat)
   have HSn := Lib.hid (show LsS kyC 54 2 thing w0 [] m N w X (l ++ [x]) s4 nn v' v4 from ⟨by have := HS.out.len; have := HLs.out; have := HL4.out; omega, by have := HS.out.tot; have := HLs.out; have := HL4.out; simp only [List.length_append, List.length_singleton]; omega, hrs.1, hrs.2, hOw, HX2.out⟩)
   clear hown' hg4 hat hrs hOw
   go_wp2_with fail
   go_roundw
   case rel => exact ⟨_, _, _, HSn⟩
   case measure => rw [HSn.out.rs.len, HS.out.rs.len]; have := HLs.out; have := HL4.out; omega
  | false =>
   obtain rfl := hno rfl
   have HXe := Lib.hid (show X = (l, s3) by rw [← HS.out.eq, Pa.moreP_stop (by rw [HK.out])])
   clear hle2 hyes hno
   go_wp2_with fail
   refine HT.out.mono ?_
   rintro e v2 ⟨rfl, hR, hM⟩
   have HE := Lib.hid (show Ow kyC 54 2 w.heap.size v2 (.slice A0 l.length cap0) l ∧ RS m v2 s3 ∧ ButM m w v2 from ⟨HS.out.ow.but kyC_ok (by rw [HBs.out]; exact HmB.out) hM, hR, HS.out.but.trans hM⟩)
   clear hR hM
   go_wp2_with fail
   exact bodyPost_ret (v := .slice A0 l.length cap0) (by simp [results, Tryz.results44, go_sem]) rfl (by rw [HXe.out]; exact ⟨_, rfl, HE.out⟩)
end Go.Proofs.YtfjimoccliejdaaGreatDoor
end
section
namespace Go.Proofs.YtfjimoccliejdaaGreatDoor
open Go.RowKit Go.Shelf

set_option maxRecDepth 100000 in
set_option maxHeartbeats 4000000 in
theorem listL_any (thing : Pa.Ps → Pa.Sel × Pa.Ps) (hle : ∀ s, Pa.Fin s.ts → Pa.Le s (thing s).2) (m N : Nat) (hN5 : N ≤ 5000) (HP : OkP slC 42 thing m N) (s : Pa.Ps) (w0 w1 : Lx.B) (g : Nat) (w : World) (h : RS m w s) (hN : s.ts.length ≤ N) (hgm : m < g) (c0 : w.cell? ⟨g, 0, none⟩ = some (.string ⟨w0.toArray⟩)) (c1 : w.cell? ⟨g, 1, none⟩ = some (.string ⟨w1.toArray⟩)) :
  Calls Tryz.prog 41 #[.pointer (some ⟨m, 0, none⟩), .func (.func 42) #[.pointer (some ⟨m, 0, none⟩)] #[], .slice (some ⟨g, 0, none⟩) 2 2] w (LsE slC 47 12 m w (Pa.listP thing w0 [w1] s).1 (Pa.listP thing w0 [w1] s).2) := by
 obtain ⟨i0, hi, hz0, hz1, hz2⟩ := infoE_parts info_L
 have HPp := Lib.hid HP
 have Hle := Lib.hid hle
 have HC0 := Lib.hid c0
 have HC1 := Lib.hid c1
 have H1 := Lib.hid h
 have hmB := h.lt
 obtain ⟨Bs, hBs⟩ : ∃ b, w.heap.size = b := ⟨_, rfl⟩
 rw [hBs] at hmB
 have HBs := Lib.hid hBs
 have HmB := Lib.hid hmB
 obtain ⟨X, hX⟩ : ∃ X, Pa.listP thing w0 [w1] s = X := ⟨_, rfl⟩
 rw [hX]
 have HX := Lib.hid hX
 have hl0 := (hle s h.fin).len
 have HT := Lib.hid (HP s w h hN)
 obtain ⟨⟨x, s1⟩, hx⟩ : ∃ q, thing s = q := ⟨_, rfl⟩
 rw [hx] at HT hl0
 simp only at HT hl0
 have HX1 := Lib.hid (show Pa.moreP thing w0 [w1] s1.ts.length [x] s1 = X by rw [← hX, Pa.listP, hx])
 have HL0 := Lib.hid (show [x].length + s1.ts.length ≤ N + 1 by simp only [List.length_singleton]; omega)
 clear HP hle c0 c1 h hX hx hN hmB hBs hl0
 go_enter Tryz.func41, Tryz.ntmps41
 go_wp2_with fail
 refine HT.out.mono ?_
 intro e v1 hE
 obtain ⟨iA, fA, gA, ic, fc, gc, hd, A, n, cp, rfl, hC, hR, hM⟩ := slV hE
 clear hE
 have hb1 := ba v1 (.cells #[.bool x.dist, .slice iA x.its.length ic, .slice fA x.frs.length fc, .int .i64 hd.k, .int .i64 hd.n, .int .i64 hd.vk, .int .i64 hd.vn, .string hd.vs, .string hd.tab, .string hd.col, .slice A n cp, .slice gA x.grp.length gc] 47)
 have hOw := Ow.made slC_ok (ty := 47) (base := w.heap.size) hC (by have := hM.size; omega)
 have HS := Lib.hid (show LsS slC 47 12 thing w0 [w1] m N w X [x] s1 s1.ts.length (.slice (some ⟨v1.heap.size, 0, none⟩) 1 1) (v1.alloc (.cells #[.bool x.dist, .slice iA x.its.length ic, .slice fA x.frs.length fc, .int .i64 hd.k, .int .i64 hd.n, .int .i64 hd.vk, .int .i64 hd.vn, .string hd.vs, .string hd.tab, .string hd.col, .slice A n cp, .slice gA x.grp.length gc] 47)) from ⟨Nat.le_refl _, HL0.out, hR.next hb1, hM.trans (ButM.of hb1), hOw, HX1.out⟩)
 clear hC hR hM hb1 hOw
 go_wp2_with fail
 go_loopw [7] (fun v W => ∃ (l : List Pa.Sel) (s1 : Pa.Ps) (nn : Nat), Hid (LsS slC 47 12 thing w0 [w1] m N w X l s1 nn v W)) (fun _ W => lenR m W)
 case atStart => exact ⟨_, _, _, HS⟩
 case round =>
  obtain ⟨l, s2, nn, HS⟩ := hrel
  obtain ⟨A0, cap0, rfl, _⟩ := HS.out.ow.slice
  have HT := Lib.hid (takeAll2_any m s2 w0 w1 g wr HS.out.rs hgm (HS.out.but.cell (Nat.ne_of_gt hgm) HC0.out) (HS.out.but.cell (Nat.ne_of_gt hgm) HC1.out))
  obtain ⟨hle2, hyes, hno⟩ := Pa.takeAll_le w0 [w1] HS.out.rs.fin
  obtain ⟨t, ht⟩ : ∃ z, (Pa.takeAll w0 [w1] s2).1 = z := ⟨_, rfl⟩
  obtain ⟨s3, hs3⟩ : ∃ z, (Pa.takeAll w0 [w1] s2).2 = z := ⟨_, rfl⟩
  rw [ht, hs3] at HT hyes hno
  rw [hs3] at hle2
  have HK := Lib.hid (show Pa.takeAll w0 [w1] s2 = (t, s3) by rw [← ht, ← hs3])
  clear ht hs3
  cases t with
  | true =>
   have hlt := (hyes rfl).2
   obtain ⟨nn, rfl⟩ : ∃ k, nn = k + 1 := ⟨nn - 1, by have := HS.out.len; omega⟩
   have hN3 : s3.ts.length ≤ N := by have := HS.out.tot; have := HS.out.ow.1; omega
   obtain ⟨⟨x, s4⟩, hx⟩ : ∃ q, thing s3 = q := ⟨_, rfl⟩
   have HY := Lib.hid hx
   have HX2 := Lib.hid (show Pa.moreP thing w0 [w1] nn (l ++ [x]) s4 = X by rw [← HS.out.eq, moreP_more (by rw [HK.out]), HK.out, HY.out])
   have HLs := Lib.hid hlt
   clear hle2 hyes hno hx hlt
   go_wp2_with fail
   refine HT.out.mono ?_
   rintro e v2 ⟨rfl, hR, hM⟩
   have HB2 := Lib.hid (HS.out.but.trans hM)
   have HO2 := Lib.hid (HS.out.ow.but slC_ok (by rw [HBs.out]; exact HmB.out) hM)
   have HP2 := Lib.hid (HPp.out s3 v2 hR hN3)
   rw [HY.out] at HP2
   have HL4 := Lib.hid (show s4.ts.length ≤ s3.ts.length by have := (Hle.out s3 hR.fin).len; rw [HY.out] at this; exact this)
   clear hR hM hN3
   go_wp2_with fail
   refine HP2.out.mono ?_
   intro e v3 hE
   obtain ⟨iA, fA, gA, ic, fc, gc, hd, A, n, cp, rfl, hC, hR, hM⟩ := slV hE
   clear hE
   have HB3 := Lib.hid (HB2.out.trans hM)
   have HO3 := HO2.out.but slC_ok (by rw [HBs.out]; exact HmB.out) hM
   have HO3h := Lib.hid HO3
   have HR3 := Lib.hid hR
   have hX3 := slC_ok.go (fun _ _ => rfl) (fun k hk => HO2.out.apart (W := v3) hk) hC
   have HX3 := Lib.hid hX3
   obtain ⟨hb3, q, hq, ho⟩ := HO3
   have HQ := Lib.hid hq
   have HOr := Lib.hid ho
   have HLen := Lib.hid (show l.length ≤ 5001 by have := HS.out.tot; omega)
   have HB0 := Lib.hid hb3
   clear hC hR hM hX3 hq ho hb3
   go_wp2_with (at_builtin; refine wpList_append_own_at _ rfl _ _ 23 rfl w.heap.size 47 i0 _ 12 184 Tryz.underlying23 hi hz0 hz1 hz2 rfl (by decide) _ _ _ rfl (HOr.out.alloc _) ⟨v3.heap.size, 0, none⟩ 1 1 [.bool x.dist, .slice iA x.its.length ic, .slice fA x.frs.length fc, .int .i64 hd.k, .int .i64 hd.n, .int .i64 hd.vk, .int .i64 hd.vn, .string hd.vs, .string hd.tab, .string hd.col, .slice A n cp, .slice gA x.grp.length gc] rfl rfl (news_of _ _ _) (slC_ok.one HX3.out) ?c3 ?c4 ?c5 ?_)
   case c3 => have := HLen.out; unfold maxLen; omega
   case c4 => have := HLen.out; omega
   case c5 => have := HB0.out; rw [World.size_alloc]; omega
   intro v' v4 hown' hg4 _ hat
   have hrs := grown_rs HR3.out HB3.out HBs.out HmB.out hg4 (fun k hk => by have := (HOr.out.lt k hk).1; rw [HBs.out] at this; exact this)
   have hOw := HO3h.out.grow slC_ok HQ.out HX3.out hown' hg4 (by rw [World.size_alloc]; exact hat)
   have HSn := Lib.hid (show LsS slC 47 12 thing w0 [w1] m N w X (l ++ [x]) s4 nn v' v4 from ⟨by have := HS.out.len; have := HLs.out; have := HL4.out; omega, by have := HS.out.tot; have := HLs.out; have := HL4.out; simp only [List.length_append, List.length_singleton]; omega, hrs.1, hrs.2, hOw, HX2.out⟩)
   clear hown' hg4 hat hrs hOw
   go_wp2_with fail
   go_roundw
   case rel => exact ⟨_, _, _, HSn⟩
   case measure => rw [HSn.out.rs.len, HS.out.rs.len]; have := HLs.out; have := HL4.out; omega
  | false =>
   obtain rfl := hno rfl
   have HXe := Lib.hid (show X = (l, s3) by rw [← HS.out.eq, Pa.moreP_stop (by rw [HK.out])])
   clear hle2 hyes hno
   go_wp2_with fail
   refine HT.out.mono ?_
   rintro e v2 ⟨rfl, hR, hM⟩
   have HE := Lib.hid (show Ow slC 47 12 w.heap.size v2 (.slice A0 l.length cap0) l ∧ RS m v2 s3 ∧ ButM m w v2 from ⟨HS.out.ow.but slC_ok (by rw [HBs.out]; exact HmB.out) hM, hR, HS.out.but.trans hM⟩)
   clear hR hM
   go_wp2_with fail
   exact bodyPost_ret (v := .slice A0 l.length cap0) (by simp [results, Tryz.results41, go_sem]) rfl (by rw [HXe.out]; exact ⟨_, rfl, HE.out⟩)
end Go.Proofs.YtfjimoccliejdaaGreatDoor
end
