/-
  Rules of expressions: what is enclosed, aggregates, first ones; all levels.
-/
import Derived.Test.YtfjimoccliejdaaGreatDoorE12
section
namespace Go.Proofs.YtfjimoccliejdaaGreatDoor
open Go.RowKit Go.Shelf

abbrev wAG : List (Lx.B × Nat) := [(Pa.wCOUNT, 2), (Pa.wSUM, 3), (Pa.wMIN, 4), (Pa.wMAX, 5)]
theorem first_which (or : Pa.Ps → Ex × Pa.Ps) (s : Pa.Ps) : ((whichP wAG s).1 = 0 ∨ (whichP wAG s).1 = 2 ∨ (whichP wAG s).1 = 3 ∨ (whichP wAG s).1 = 4 ∨ (whichP wAG s).1 = 5) ∧
  (if (Pa.takeW Pa.wCOUNT s).1 then Pa.countP or (Pa.takeW Pa.wCOUNT s).2 else if (Pa.takeW Pa.wSUM s).1 then Pa.aggP or 3 (Pa.takeW Pa.wSUM s).2 else if (Pa.takeW Pa.wMIN s).1 then Pa.aggP or 4 (Pa.takeW Pa.wMIN s).2 else if (Pa.takeW Pa.wMAX s).1 then Pa.aggP or 5 (Pa.takeW Pa.wMAX s).2 else Pa.colP s) =
  (if (whichP wAG s).1 = 0 then Pa.colP s else if (whichP wAG s).1 = 2 then Pa.countP or (whichP wAG s).2 else Pa.aggP or (whichP wAG s).1 (whichP wAG s).2) := by
 unfold wAG
 rw [whichP, whichP, whichP, whichP, whichP]
 simp only
 split
 ·exact ⟨.inr (.inl rfl), rfl⟩
 split
 ·exact ⟨.inr (.inr (.inl rfl)), rfl⟩
 split
 ·exact ⟨.inr (.inr (.inr (.inl rfl))), rfl⟩
 split
 ·exact ⟨.inr (.inr (.inr (.inr rfl))), rfl⟩
 ·exact ⟨.inl rfl, rfl⟩
set_option maxRecDepth 100000 in
set_option maxHeartbeats 8000000 in
theorem qfirst_any (F m N : Nat) (HO : OkQ 31 (Pa.lev F 0) m (N - 1)) : OkQ 168 (Pa.firstP (Pa.lev F 0)) m N := by
 intro s w h hN
 have HOo := Lib.hid HO
 clear HO
 have HB := Lib.hid (ba w (.cells #[.int .i64 0, .int .i64 0, .int .i64 0, .int .i64 0, .string ⟨#[]⟩, .string ⟨#[]⟩, .string ⟨#[]⟩, .slice none 0 0] 37))
 have HU := Lib.hid (show BxU _ _ #[.int .i64 0, .int .i64 0, .int .i64 0, .int .i64 0, .string ⟨#[]⟩, .string ⟨#[]⟩, .string ⟨#[]⟩, .slice none 0 0] 37 from (MapKept.heap_alloc w (.cells #[.int .i64 0, .int .i64 0, .int .i64 0, .int .i64 0, .string ⟨#[]⟩, .string ⟨#[]⟩, .string ⟨#[]⟩, .slice none 0 0] 37)).1)
 have H1 := Lib.hid (h.next HB.out)
 have hmU := h.lt
 have HFin := Lib.hid h.fin
 obtain ⟨U, hU⟩ : ∃ U, w.heap.size = U := ⟨_, rfl⟩
 have HUl := Lib.hid hU
 have HSz := Lib.hid (show (w.alloc (.cells #[.int .i64 0, .int .i64 0, .int .i64 0, .int .i64 0, .string ⟨#[]⟩, .string ⟨#[]⟩, .string ⟨#[]⟩, .slice none 0 0] 37)).heap.size = U + 1 by rw [World.size_alloc, hU])
 rw [hU] at HU hmU
 have HmU := Lib.hid hmU
 obtain ⟨X, hX⟩ : ∃ X, Pa.firstP (Pa.lev F 0) s = X := ⟨_, rfl⟩
 rw [hX]
 have HX := Lib.hid hX
 clear h hX hmU
 go_enter Tryz.func168, Tryz.ntmps168
 go_wp2_with fail
 generalize w.alloc (.cells #[.int .i64 0, .int .i64 0, .int .i64 0, .int .i64 0, .string ⟨#[]⟩, .string ⟨#[]⟩, .string ⟨#[]⟩, .slice none 0 0] 37) = W1 at HB HU H1 HSz ⊢
 clear hU
 have HM1 := Lib.hid (show ButM m w W1 from ButM.of HB.out)
 refine (qnow_any m s W1 H1.out).mono ?_
 rintro e v1 ⟨⟨x, htk, _, rfl⟩, hb⟩
 have hbt := ba v1 (.cells #[.int .i64 x.1.k, .string ⟨x.1.s.toArray⟩, .int .i64 x.1.n, .int .i64 x.2] 66)
 have HM2 := Lib.hid (HM1.out.trans (ButM.of (bt hb hbt)))
 have HU2 := Lib.hid ((HU.out.next hb).next hbt)
 have HR2 := Lib.hid ((H1.out.next hb).next hbt)
 have HV := Lib.hid (show BxU _ v1.heap.size #[.int .i64 x.1.k, .string ⟨x.1.s.toArray⟩, .int .i64 x.1.n, .int .i64 x.2] 66 from (MapKept.heap_alloc v1 (.cells #[.int .i64 x.1.k, .string ⟨x.1.s.toArray⟩, .int .i64 x.1.n, .int .i64 x.2] 66)).1)
 have HmV := Lib.hid (show m < v1.heap.size from Nat.lt_of_lt_of_le H1.out.lt hb.size)
 have HTk := Lib.hid htk
 clear hb hbt htk
 go_upto_region 2 with fail
 generalize v1.alloc (.cells #[.int .i64 x.1.k, .string ⟨x.1.s.toArray⟩, .int .i64 x.1.n, .int .i64 x.2] 66) = W2 at HM2 HU2 HR2 HV ⊢
 generalize v1.heap.size = V at HV HmV ⊢
 have t0_ : W2.cell? ⟨V, 0, none⟩ = some (.int .i64 x.1.k) := HV.out.cell 0
 have t1_ : W2.cell? ⟨V, 1, none⟩ = some (.string ⟨x.1.s.toArray⟩) := HV.out.cell 1
 have t2_ : W2.cell? ⟨V, 2, none⟩ = some (.int .i64 x.1.n) := HV.out.cell 2
 have t3_ : W2.cell? ⟨V, 3, none⟩ = some (.int .i64 x.2) := HV.out.cell 3
 obtain ⟨x9, g, off, c, n, kk, e0, e1, e2, hkn, hn5, _⟩ := HR2.out.head
 have hk5 : (kk : Int) < 5000 := by omega
 have f1_ := HR2.out.frozen 1
 clear e0 hkn
 obtain ⟨bd, hbd⟩ : ∃ b, s.bad = b := ⟨_, rfl⟩
 rw [hbd] at e2
 have HBd := Lib.hid hbd
 clear hbd
 cases bd with
 | true =>
  have HXs := Lib.hid (show X.2 = s by rw [← HX.out]; exact (Pa.first_le HFin.out fun s' hf _ => Pa.lev_le F 0 s' hf).stay HBd.out)
  clear hN t0_ t1_ t2_ t3_ e1 f1_ hk5 hn5
  obtain ⟨c0, c1, c2, c3, c4, c5, c6, c7⟩ := cl8 (w := W2) (HU2.out)
  have fc0 := (HU2.out).frozen 0
  have fc1 := (HU2.out).frozen 1
  have fc2 := (HU2.out).frozen 2
  have fc3 := (HU2.out).frozen 3
  have fc4 := (HU2.out).frozen 4
  have fc5 := (HU2.out).frozen 5
  have fc6 := (HU2.out).frozen 6
  have fc7 := (HU2.out).frozen 7
  go_wp2_with fail
  exact bodyPost_ret (v := XV ⟨0, 0, 0, 0, ⟨#[]⟩, ⟨#[]⟩, ⟨#[]⟩⟩ none 0 0) (by simp [results, Tryz.results168, go_sem, c0, c1, c2, c3, c4, c5, c6, c7]) rfl (by rw [HXs.out]; exact RyE.fin (c := xcell (⟨0, 0, 0, 0, ⟨#[]⟩, ⟨#[]⟩, ⟨#[]⟩⟩, none, 0, 0)) exC_ok HUl.out HmU.out HM2.out HR2.out (exC_leaf _ _ _) (fun hb => by rw [HBd.out] at hb; cases hb) (OnU.refl _ _).set.set.set.set.set.set.set.set)
 | false =>
  by_cases h3 : x.1.k = 3
  ·have hk3 : ((x.1.k : Int) == 3) = true := by rw [h3]; rfl
   have HK := Lib.hid (show Pa.takeK 3 s = (some x.1, ⟨s.ts.tail, false⟩) by rw [Pa.takeK, HTk.out, HBd.out, if_pos (by simp; omega)])
   have HT := Lib.hid (HR2.out.took (by rw [HTk.out]; omega) e1)
   have HN5 := Lib.hid hn5
   clear hN hn5
   obtain ⟨c0, c1, c2, c3, c4, c5, c6, c7⟩ := cl8 (w := W2) (HU2.out)
   have fc0 := (HU2.out).frozen 0
   have fc1 := (HU2.out).frozen 1
   have fc2 := (HU2.out).frozen 2
   have fc3 := (HU2.out).frozen 3
   have fc4 := (HU2.out).frozen 4
   have fc5 := (HU2.out).frozen 5
   have fc6 := (HU2.out).frozen 6
   have fc7 := (HU2.out).frozen 7
   have hmU := Nat.ne_of_lt HmU.out
   have hUm : U ≠ m := fun e => hmU e.symm
   have hmV := Nat.ne_of_lt HmV.out
   have hVm : V ≠ m := fun e => hmV e.symm
   go_wp2_with fail
   refine (qv_int (x.1.n : Int) _).mono ?_
   rintro e v8 ⟨rfl, hb⟩
   have HM8 := Lib.hid ((HM2.out.trans HT.out.2).trans (ButM.of hb))
   have HU8 := Lib.hid ((HU2.out.but HmU.out HT.out.2).next hb)
   have HR8 := Lib.hid (show RP m v8 ⟨s.ts.tail, false⟩ by have h := HT.out.1; rw [HBd.out] at h; exact h.next hb)
   clear hb
   clear c0 c1 c2 c3 c4 c5 c6 c7 fc0 fc1 fc2 fc3 fc4 fc5 fc6 fc7 t0_ t1_ t2_ t3_ e1 e2 f1_ hk5
   go_wp2_with fail
   refine (refLit_any 2 (x.1.n : Int) ⟨#[]⟩ _).mono ?_
   rintro e v9 ⟨rfl, hb⟩
   have HM9 := Lib.hid (HM8.out.trans (ButM.of hb))
   have HU9 := Lib.hid (HU8.out.next hb)
   have HR9 := Lib.hid (HR8.out.next hb)
   have HXe := Lib.hid (show X = (Pa.exLit 2 x.1.n [], ⟨s.ts.tail, false⟩) by rw [← HX.out]; simp only [Pa.firstP, HK.out])
   clear hb
   obtain ⟨c0, c1, c2, c3, c4, c5, c6, c7⟩ := cl8 (w := v9) (HU9.out)
   have fc0 := (HU9.out).frozen 0
   have fc1 := (HU9.out).frozen 1
   have fc2 := (HU9.out).frozen 2
   have fc3 := (HU9.out).frozen 3
   have fc4 := (HU9.out).frozen 4
   have fc5 := (HU9.out).frozen 5
   have fc6 := (HU9.out).frozen 6
   have fc7 := (HU9.out).frozen 7
   go_wp2_with fail
   exact bodyPost_ret (v := XV (hdL 2 (x.1.n : Int) ⟨#[]⟩) none 0 0) (by simp [results, Tryz.results168, go_sem, c0, c1, c2, c3, c4, c5, c6, c7]) rfl (by rw [HXe.out]; exact RyE.fin (c := xcell ((hdL 2 (x.1.n : Int) ⟨#[]⟩), none, 0, 0)) exC_ok HUl.out HmU.out HM9.out HR9.out (exC_leaf _ _ _) (fun _ => rfl) (OnU.refl _ _).set.set.set.set.set.set.set.set)
  have hk3 : ((x.1.k : Int) == 3) = false := by rw [beq_eq_false_iff_ne]; omega
  have HKn3 := Lib.hid (show Pa.takeK 3 s = (none, s) by rw [Pa.takeK, HTk.out, if_neg (by simp; intro _; exact h3)])
  by_cases h4 : x.1.k = 4
  ·have hk4 : ((x.1.k : Int) == 4) = true := by rw [h4]; rfl
   have HK := Lib.hid (show Pa.takeK 4 s = (some x.1, ⟨s.ts.tail, false⟩) by rw [Pa.takeK, HTk.out, HBd.out, if_pos (by simp; omega)])
   have HT := Lib.hid (HR2.out.took (by rw [HTk.out]; omega) e1)
   have HN5 := Lib.hid hn5
   clear hN hn5
   obtain ⟨c0, c1, c2, c3, c4, c5, c6, c7⟩ := cl8 (w := W2) (HU2.out)
   have fc0 := (HU2.out).frozen 0
   have fc1 := (HU2.out).frozen 1
   have fc2 := (HU2.out).frozen 2
   have fc3 := (HU2.out).frozen 3
   have fc4 := (HU2.out).frozen 4
   have fc5 := (HU2.out).frozen 5
   have fc6 := (HU2.out).frozen 6
   have fc7 := (HU2.out).frozen 7
   have hmU := Nat.ne_of_lt HmU.out
   have hUm : U ≠ m := fun e => hmU e.symm
   have hmV := Nat.ne_of_lt HmV.out
   have hVm : V ≠ m := fun e => hmV e.symm
   go_wp2_with fail
   refine (qv_text ⟨x.1.s.toArray⟩ _).mono ?_
   rintro e v8 ⟨rfl, hb⟩
   have HM8 := Lib.hid ((HM2.out.trans HT.out.2).trans (ButM.of hb))
   have HU8 := Lib.hid ((HU2.out.but HmU.out HT.out.2).next hb)
   have HR8 := Lib.hid (show RP m v8 ⟨s.ts.tail, false⟩ by have h := HT.out.1; rw [HBd.out] at h; exact h.next hb)
   clear hb
   clear c0 c1 c2 c3 c4 c5 c6 c7 fc0 fc1 fc2 fc3 fc4 fc5 fc6 fc7 t0_ t1_ t2_ t3_ e1 e2 f1_ hk5
   go_wp2_with fail
   refine (refLit_any 3 0 ⟨x.1.s.toArray⟩ _).mono ?_
   rintro e v9 ⟨rfl, hb⟩
   have HM9 := Lib.hid (HM8.out.trans (ButM.of hb))
   have HU9 := Lib.hid (HU8.out.next hb)
   have HR9 := Lib.hid (HR8.out.next hb)
   have HXe := Lib.hid (show X = (Pa.exLit 3 0 x.1.s, ⟨s.ts.tail, false⟩) by rw [← HX.out]; simp only [Pa.firstP, HKn3.out, HK.out])
   clear hb
   obtain ⟨c0, c1, c2, c3, c4, c5, c6, c7⟩ := cl8 (w := v9) (HU9.out)
   have fc0 := (HU9.out).frozen 0
   have fc1 := (HU9.out).frozen 1
   have fc2 := (HU9.out).frozen 2
   have fc3 := (HU9.out).frozen 3
   have fc4 := (HU9.out).frozen 4
   have fc5 := (HU9.out).frozen 5
   have fc6 := (HU9.out).frozen 6
   have fc7 := (HU9.out).frozen 7
   go_wp2_with fail
   exact bodyPost_ret (v := XV (hdL 3 0 ⟨x.1.s.toArray⟩) none 0 0) (by simp [results, Tryz.results168, go_sem, c0, c1, c2, c3, c4, c5, c6, c7]) rfl (by rw [HXe.out]; exact RyE.fin (c := xcell ((hdL 3 0 ⟨x.1.s.toArray⟩), none, 0, 0)) exC_ok HUl.out HmU.out HM9.out HR9.out (exC_leaf _ _ _) (fun _ => rfl) (OnU.refl _ _).set.set.set.set.set.set.set.set)
  have hk4 : ((x.1.k : Int) == 4) = false := by rw [beq_eq_false_iff_ne]; omega
  have HKn4 := Lib.hid (show Pa.takeK 4 s = (none, s) by rw [Pa.takeK, HTk.out, if_neg (by simp; intro _; exact h4)])
  clear h3 h4
  have HT1 := Lib.hid (qtake_any m s Pa.wTRUE W2 HR2.out)
  obtain ⟨t1, ht⟩ : ∃ z, (Pa.takeW Pa.wTRUE s).1 = z := ⟨_, rfl⟩
  obtain ⟨s1, hs⟩ : ∃ z, (Pa.takeW Pa.wTRUE s).2 = z := ⟨_, rfl⟩
  have hno1 := (Pa.takeW_le Pa.wTRUE HR2.out.fin).2.2
  rw [ht, hs] at HT1 hno1
  have HK1 := Lib.hid (show Pa.takeW Pa.wTRUE s = (t1, s1) by rw [← ht, ← hs])
  clear ht hs
  have hlen1 := (Pa.takeW_le Pa.wTRUE HR2.out.fin).2.1
  rw [HK1.out] at hlen1
  cases t1 with
  | true =>
   clear hlen1 hN
   clear hno1
   go_wp2_with fail
   refine HT1.out.mono ?_
   rintro e v21 ⟨rfl, hR, hM⟩
   clear t0_ t1_ t2_ t3_ e1 e2 f1_ hk5 hn5 hk3 hk4
   have HMn1 := Lib.hid (HM2.out.trans hM)
   have HUn1 := Lib.hid (HU2.out.but HmU.out hM)
   have HRn1 := Lib.hid hR
   clear hR hM
   go_wp2_with fail
   refine (qv_true _).mono ?_
   rintro e v8 ⟨rfl, hb⟩
   have HM8 := Lib.hid (HMn1.out.trans (ButM.of hb))
   have HU8 := Lib.hid (HUn1.out.next hb)
   have HR8 := Lib.hid (HRn1.out.next hb)
   clear hb
   go_wp2_with fail
   refine (refLit_any 1 1 ⟨#[]⟩ _).mono ?_
   rintro e v9 ⟨rfl, hb⟩
   have HM9 := Lib.hid (HM8.out.trans (ButM.of hb))
   have HU9 := Lib.hid (HU8.out.next hb)
   have HR9 := Lib.hid (HR8.out.next hb)
   have HXe := Lib.hid (show X = (Pa.exLit 1 1 [], s1) by rw [← HX.out]; simp only [Pa.firstP, HKn3.out, HKn4.out, HK1.out, if_true])
   clear hb
   obtain ⟨c0, c1, c2, c3, c4, c5, c6, c7⟩ := cl8 (w := v9) (HU9.out)
   have fc0 := (HU9.out).frozen 0
   have fc1 := (HU9.out).frozen 1
   have fc2 := (HU9.out).frozen 2
   have fc3 := (HU9.out).frozen 3
   have fc4 := (HU9.out).frozen 4
   have fc5 := (HU9.out).frozen 5
   have fc6 := (HU9.out).frozen 6
   have fc7 := (HU9.out).frozen 7
   go_wp2_with fail
   exact bodyPost_ret (v := XV (hdL 1 1 ⟨#[]⟩) none 0 0) (by simp [results, Tryz.results168, go_sem, c0, c1, c2, c3, c4, c5, c6, c7]) rfl (by rw [HXe.out]; exact RyE.fin (c := xcell ((hdL 1 1 ⟨#[]⟩), none, 0, 0)) exC_ok HUl.out HmU.out HM9.out HR9.out (exC_leaf _ _ _) (fun _ => rfl) (OnU.refl _ _).set.set.set.set.set.set.set.set)
  | false =>
   clear hlen1
   obtain rfl := hno1 rfl
   clear hno1
   go_wp2_with fail
   refine HT1.out.mono ?_
   rintro e v21 ⟨rfl, hR, hM⟩
   clear t0_ t1_ t2_ t3_ e1 e2 f1_ hk5 hn5 hk3 hk4
   have HMn1 := Lib.hid (HM2.out.trans hM)
   have HUn1 := Lib.hid (HU2.out.but HmU.out hM)
   have HRn1 := Lib.hid hR
   clear hR hM
   have HT2 := Lib.hid (qtake_any m s1 Pa.wFALSE v21 HRn1.out)
   obtain ⟨t2, ht⟩ : ∃ z, (Pa.takeW Pa.wFALSE s1).1 = z := ⟨_, rfl⟩
   obtain ⟨s2, hs⟩ : ∃ z, (Pa.takeW Pa.wFALSE s1).2 = z := ⟨_, rfl⟩
   have hno2 := (Pa.takeW_le Pa.wFALSE HRn1.out.fin).2.2
   rw [ht, hs] at HT2 hno2
   have HK2 := Lib.hid (show Pa.takeW Pa.wFALSE s1 = (t2, s2) by rw [← ht, ← hs])
   clear ht hs
   have hlen2 := (Pa.takeW_le Pa.wFALSE HRn1.out.fin).2.1
   rw [HK2.out] at hlen2
   cases t2 with
   | true =>
    clear hlen2 hN
    clear hno2
    go_wp2_with fail
    refine HT2.out.mono ?_
    rintro e v22 ⟨rfl, hR, hM⟩
    have HMn2 := Lib.hid (HMn1.out.trans hM)
    have HUn2 := Lib.hid (HUn1.out.but HmU.out hM)
    have HRn2 := Lib.hid hR
    clear hR hM
    go_wp2_with fail
    refine (qv_false _).mono ?_
    rintro e v8 ⟨rfl, hb⟩
    have HM8 := Lib.hid (HMn2.out.trans (ButM.of hb))
    have HU8 := Lib.hid (HUn2.out.next hb)
    have HR8 := Lib.hid (HRn2.out.next hb)
    clear hb
    go_wp2_with fail
    refine (refLit_any 1 0 ⟨#[]⟩ _).mono ?_
    rintro e v9 ⟨rfl, hb⟩
    have HM9 := Lib.hid (HM8.out.trans (ButM.of hb))
    have HU9 := Lib.hid (HU8.out.next hb)
    have HR9 := Lib.hid (HR8.out.next hb)
    have HXe := Lib.hid (show X = (Pa.exLit 1 0 [], s2) by rw [← HX.out]; simp only [Pa.firstP, HKn3.out, HKn4.out, HK1.out, HK2.out, Bool.false_eq_true, if_false, if_true])
    clear hb
    obtain ⟨c0, c1, c2, c3, c4, c5, c6, c7⟩ := cl8 (w := v9) (HU9.out)
    have fc0 := (HU9.out).frozen 0
    have fc1 := (HU9.out).frozen 1
    have fc2 := (HU9.out).frozen 2
    have fc3 := (HU9.out).frozen 3
    have fc4 := (HU9.out).frozen 4
    have fc5 := (HU9.out).frozen 5
    have fc6 := (HU9.out).frozen 6
    have fc7 := (HU9.out).frozen 7
    go_wp2_with fail
    exact bodyPost_ret (v := XV (hdL 1 0 ⟨#[]⟩) none 0 0) (by simp [results, Tryz.results168, go_sem, c0, c1, c2, c3, c4, c5, c6, c7]) rfl (by rw [HXe.out]; exact RyE.fin (c := xcell ((hdL 1 0 ⟨#[]⟩), none, 0, 0)) exC_ok HUl.out HmU.out HM9.out HR9.out (exC_leaf _ _ _) (fun _ => rfl) (OnU.refl _ _).set.set.set.set.set.set.set.set)
   | false =>
    clear hlen2
    obtain rfl := hno2 rfl
    clear hno2
    go_wp2_with fail
    refine HT2.out.mono ?_
    rintro e v22 ⟨rfl, hR, hM⟩
    have HMn2 := Lib.hid (HMn1.out.trans hM)
    have HUn2 := Lib.hid (HUn1.out.but HmU.out hM)
    have HRn2 := Lib.hid hR
    clear hR hM
    have HT3 := Lib.hid (qtake_any m s2 Pa.wNULL v22 HRn2.out)
    obtain ⟨t3, ht⟩ : ∃ z, (Pa.takeW Pa.wNULL s2).1 = z := ⟨_, rfl⟩
    obtain ⟨s3, hs⟩ : ∃ z, (Pa.takeW Pa.wNULL s2).2 = z := ⟨_, rfl⟩
    have hno3 := (Pa.takeW_le Pa.wNULL HRn2.out.fin).2.2
    rw [ht, hs] at HT3 hno3
    have HK3 := Lib.hid (show Pa.takeW Pa.wNULL s2 = (t3, s3) by rw [← ht, ← hs])
    clear ht hs
    have hlen3 := (Pa.takeW_le Pa.wNULL HRn2.out.fin).2.1
    rw [HK3.out] at hlen3
    cases t3 with
    | true =>
     clear hlen3 hN
     clear hno3
     go_wp2_with fail
     refine HT3.out.mono ?_
     rintro e v23 ⟨rfl, hR, hM⟩
     have HMn3 := Lib.hid (HMn2.out.trans hM)
     have HUn3 := Lib.hid (HUn2.out.but HmU.out hM)
     have HRn3 := Lib.hid hR
     clear hR hM
     go_wp2_with fail
     refine (refLit_any 0 0 ⟨#[]⟩ _).mono ?_
     rintro e v9 ⟨rfl, hb⟩
     have HM9 := Lib.hid (HMn3.out.trans (ButM.of hb))
     have HU9 := Lib.hid (HUn3.out.next hb)
     have HR9 := Lib.hid (HRn3.out.next hb)
     have HXe := Lib.hid (show X = (Pa.exLit 0 0 [], s3) by rw [← HX.out]; simp only [Pa.firstP, HKn3.out, HKn4.out, HK1.out, HK2.out, HK3.out, Bool.false_eq_true, if_false, if_true])
     clear hb
     obtain ⟨c0, c1, c2, c3, c4, c5, c6, c7⟩ := cl8 (w := v9) (HU9.out)
     have fc0 := (HU9.out).frozen 0
     have fc1 := (HU9.out).frozen 1
     have fc2 := (HU9.out).frozen 2
     have fc3 := (HU9.out).frozen 3
     have fc4 := (HU9.out).frozen 4
     have fc5 := (HU9.out).frozen 5
     have fc6 := (HU9.out).frozen 6
     have fc7 := (HU9.out).frozen 7
     go_wp2_with fail
     exact bodyPost_ret (v := XV (hdL 0 0 ⟨#[]⟩) none 0 0) (by simp [results, Tryz.results168, go_sem, c0, c1, c2, c3, c4, c5, c6, c7]) rfl (by rw [HXe.out]; exact RyE.fin (c := xcell ((hdL 0 0 ⟨#[]⟩), none, 0, 0)) exC_ok HUl.out HmU.out HM9.out HR9.out (exC_leaf _ _ _) (fun _ => rfl) (OnU.refl _ _).set.set.set.set.set.set.set.set)
    | false =>
     clear hlen3
     obtain rfl := hno3 rfl
     clear hno3
     go_wp2_with fail
     refine HT3.out.mono ?_
     rintro e v23 ⟨rfl, hR, hM⟩
     have HMn3 := Lib.hid (HMn2.out.trans hM)
     have HUn3 := Lib.hid (HUn2.out.but HmU.out hM)
     have HRn3 := Lib.hid hR
     clear hR hM
     have HT4 := Lib.hid (qtake_any m s3 [40] v23 HRn3.out)
     obtain ⟨t4, ht⟩ : ∃ z, (Pa.takeW [40] s3).1 = z := ⟨_, rfl⟩
     obtain ⟨s4, hs⟩ : ∃ z, (Pa.takeW [40] s3).2 = z := ⟨_, rfl⟩
     have hno4 := (Pa.takeW_le [40] HRn3.out.fin).2.2
     rw [ht, hs] at HT4 hno4
     have HK4 := Lib.hid (show Pa.takeW [40] s3 = (t4, s4) by rw [← ht, ← hs])
     clear ht hs
     have hlen4 := (Pa.takeW_le [40] HRn3.out.fin).2.1
     rw [HK4.out] at hlen4
     cases t4 with
     | true =>
      have HLm := Lib.hid (show s4.ts.length ≤ N - 1 by have := (hlen4 rfl).2.2; simp only at this; omega)
      clear hlen4 hN
      clear hno4
      go_wp2_with fail
      refine HT4.out.mono ?_
      rintro e v24 ⟨rfl, hR, hM⟩
      have HMn4 := Lib.hid (HMn3.out.trans hM)
      have HUn4 := Lib.hid (HUn3.out.but HmU.out hM)
      have HRn4 := Lib.hid hR
      clear hR hM
      have HT5 := Lib.hid (HOo.out s4 v24 HRn4.out HLm.out)
      obtain ⟨⟨x5, s5⟩, hs5⟩ : ∃ q, Pa.lev F 0 s4 = q := ⟨_, rfl⟩
      rw [hs5] at HT5
      have HK5 := Lib.hid hs5
      clear hs5
      simp only at HT5
      go_wp2_with fail
      refine HT5.out.mono ?_
      intro e v5 hE
      obtain ⟨z5, A5, cap5, rfl, hC, hz5, hR, hM⟩ := RyE.ev hE
      clear hE
      have HZ := Lib.hid hz5
      have HUs := Lib.hid (show U + 1 ≤ v24.heap.size from HUn4.out.lt)
      have HMn5 := Lib.hid (HMn4.out.trans hM)
      have HUn5 := Lib.hid (HUn4.out.but HmU.out hM)
      have HRn5 := Lib.hid hR
      have HC5 := Lib.hid (exC_ok.wide (a' := U + 1) (b' := v5.heap.size) HUs.out (Nat.le_refl _) hC)
      clear hC hR hM hz5
      obtain ⟨hd5, l5⟩ := z5
      simp only [Ex.hd, Ex.kids] at HC5 ⊢
      have hbv := ba v5 (xbox hd5 A5 l5.length cap5)
      have HRv := Lib.hid (HRn5.out.next hbv)
      have HMv := Lib.hid (HMn5.out.trans (ButM.of hbv))
      have HUv := Lib.hid (HUn5.out.next hbv)
      have HVv := Lib.hid (show BxU (v5.alloc (xbox hd5 A5 l5.length cap5)) v5.heap.size #[.int .i64 hd5.k, .int .i64 hd5.n, .int .i64 hd5.vk, .int .i64 hd5.vn, .string hd5.vs, .string hd5.tab, .string hd5.col, .slice A5 l5.length cap5] 37 from (MapKept.heap_alloc v5 (xbox hd5 A5 l5.length cap5)).1)
      have HCv := Lib.hid (exC_ok.keep (a := U + 1) (b := v5.heap.size) hbv (Nat.le_refl _) HC5.out)
      have HmV2 := Lib.hid (show m < v5.heap.size from HRn5.out.lt)
      have HUV := Lib.hid (show U < v5.heap.size from HUn5.out.lt)
      have HsV := Lib.hid (show v5.heap.size ≤ (v5.alloc (xbox hd5 A5 l5.length cap5)).heap.size from hbv.size)
      have HLe := Lib.hid (Pa.mustW_le [41] HRn5.out.fin)
      clear hbv
      go_wp2_with fail
      have HT := Lib.hid (qmust_any m s5 [41] _ HRv.out)
      refine HT.out.mono ?_
      rintro e v9 ⟨rfl, hR, hM⟩
      have HM9 := Lib.hid (HMv.out.trans hM)
      have HU9 := Lib.hid (HUv.out.but HmU.out hM)
      have HV9 := Lib.hid (HVv.out.but HmV2.out hM)
      have HR9 := Lib.hid hR
      have HC9 := Lib.hid (exC_ok.wide (a' := U + 1) (b' := v9.heap.size) (Nat.le_refl _) (Nat.le_trans HsV.out hM.size) (exC_ok.keepM hM (Nat.lt_succ_of_lt HmU.out) HsV.out HCv.out))
      have HXe := Lib.hid (show X = (x5, Pa.mustW [41] s5) by rw [← HX.out]; simp only [Pa.firstP, HKn3.out, HKn4.out, HK1.out, HK2.out, HK3.out, HK4.out, Bool.false_eq_true, if_false, if_true, Pa.enclP, HK5.out])
      have hUV := Nat.ne_of_lt HUV.out
      have hVU := hUV.symm
      clear hR hM
      obtain ⟨d0, d1, d2, d3, d4, d5, d6, d7⟩ := cl8 (w := v9) HV9.out
      obtain ⟨c0, c1, c2, c3, c4, c5, c6, c7⟩ := cl8 (w := v9) (HU9.out)
      have fc0 := (HU9.out).frozen 0
      have fc1 := (HU9.out).frozen 1
      have fc2 := (HU9.out).frozen 2
      have fc3 := (HU9.out).frozen 3
      have fc4 := (HU9.out).frozen 4
      have fc5 := (HU9.out).frozen 5
      have fc6 := (HU9.out).frozen 6
      have fc7 := (HU9.out).frozen 7
      go_wp2_with fail
      exact bodyPost_ret (v := XV hd5 A5 l5.length cap5) (by simp [results, Tryz.results168, go_sem, c0, c1, c2, c3, c4, c5, c6, c7]) rfl (by rw [HXe.out]; exact RyE.fin (c := xcell (hd5, A5, l5.length, cap5)) exC_ok HUl.out HmU.out HM9.out HR9.out HC9.out (fun hb => HZ.out (le_bad HLe.out hb)) (OnU.refl _ _).set.set.set.set.set.set.set.set)
     | false =>
      clear hlen4
      obtain rfl := hno4 rfl
      clear hno4
      go_wp2_with fail
      refine HT4.out.mono ?_
      rintro e v24 ⟨rfl, hR, hM⟩
      have HMn4 := Lib.hid (HMn3.out.trans hM)
      have HUn4 := Lib.hid (HUn3.out.but HmU.out hM)
      have HRn4 := Lib.hid hR
      clear hR hM
      have hb1 := ba v24 (.cells #[.string ⟨Pa.wCOUNT.toArray⟩, .string ⟨Pa.wSUM.toArray⟩, .string ⟨Pa.wMIN.toArray⟩, .string ⟨Pa.wMAX.toArray⟩] 9)
      have hb2 := ba (v24.alloc (.cells #[.string ⟨Pa.wCOUNT.toArray⟩, .string ⟨Pa.wSUM.toArray⟩, .string ⟨Pa.wMIN.toArray⟩, .string ⟨Pa.wMAX.toArray⟩] 9)) (.cells #[.int .i64 2, .int .i64 3, .int .i64 4, .int .i64 5] 3)
      have hg1 := (hb2.block v24.heap.size (by rw [World.size_alloc]; omega)).trans (MapKept.heap_alloc v24 (.cells #[.string ⟨Pa.wCOUNT.toArray⟩, .string ⟨Pa.wSUM.toArray⟩, .string ⟨Pa.wMIN.toArray⟩, .string ⟨Pa.wMAX.toArray⟩] 9)).1
      have hg2 := (MapKept.heap_alloc (v24.alloc (.cells #[.string ⟨Pa.wCOUNT.toArray⟩, .string ⟨Pa.wSUM.toArray⟩, .string ⟨Pa.wMIN.toArray⟩, .string ⟨Pa.wMAX.toArray⟩] 9)) (.cells #[.int .i64 2, .int .i64 3, .int .i64 4, .int .i64 5] 3)).1
      rw [World.size_alloc] at hg2
      have hmw := HRn4.out.lt
      have HT := Lib.hid (qwhich_any m s4 wAG v24.heap.size (v24.heap.size + 1) 4 4 _ ((HRn4.out.next hb1).next hb2) (by decide) hmw (by omega) (fun j x hj => by
       rw [World.cell?, World.cell?, hg1, hg2]
       match j, hj with
       | 0, hj => simp at hj; subst hj; exact ⟨rfl, rfl⟩
       | 1, hj => simp at hj; subst hj; exact ⟨rfl, rfl⟩
       | 2, hj => simp at hj; subst hj; exact ⟨rfl, rfl⟩
       | 3, hj => simp at hj; subst hj; exact ⟨rfl, rfl⟩
       | j + 4, hj => simp at hj))
      obtain ⟨hor, hfw⟩ := first_which (Pa.lev F 0) s4
      obtain ⟨_, hyes, hno⟩ := which_le wAG HRn4.out.fin (by decide)
      have HXw := Lib.hid (show (if (whichP wAG s4).1 = 0 then Pa.colP s4 else if (whichP wAG s4).1 = 2 then Pa.countP (Pa.lev F 0) (whichP wAG s4).2 else Pa.aggP (Pa.lev F 0) (whichP wAG s4).1 (whichP wAG s4).2) = X by rw [← hfw, ← HX.out]; simp only [Pa.firstP, HKn3.out, HKn4.out, HK1.out, HK2.out, HK3.out, HK4.out, Bool.false_eq_true, if_false])
      obtain ⟨⟨o, s9⟩, ho⟩ : ∃ z, whichP wAG s4 = z := ⟨_, rfl⟩
      rw [ho] at HT hor hyes hno HXw
      simp only at HT hor hyes hno HXw
      have HMb := Lib.hid (ButM.of (m := m) (bt hb1 hb2))
      have HUb := Lib.hid ((HUn4.out.next hb1).next hb2)
      have Hyes := Lib.hid hyes
      have Hno := Lib.hid hno
      clear hfw ho hyes hno hb1 hb2 hg1 hg2 hmw
      rcases hor with rfl | rfl | rfl | rfl | rfl
      ·go_wp2_with fail
       refine HT.out.mono ?_
       rintro e v8 ⟨rfl, hR, hM⟩
       have HM8 := Lib.hid ((HMn4.out.trans HMb.out).trans hM)
       have HU8 := Lib.hid (HUb.out.but HmU.out hM)
       have HR8 := Lib.hid hR
       clear hR hM
       have HUs := Lib.hid (show U + 1 ≤ v8.heap.size from HU8.out.lt)
       obtain rfl := Hno.out (by first | rfl | trivial)
       have HXe := Lib.hid (show Pa.colP s9 = X from HXw.out)
       have HTc := Lib.hid (qcol_any m s9 v8 HR8.out)
       rw [HXe.out] at HTc
       clear hN
       go_wp2_with fail
       refine (HTc.out).mono ?_
       intro e v9 hE
       obtain ⟨y9, A9, cap9, rfl, hC, hy9, hR, hM⟩ := RyE.ev hE
       clear hE
       have HM9 := Lib.hid (HM8.out.trans hM)
       have HU9 := Lib.hid (HU8.out.but HmU.out hM)
       have HR9 := Lib.hid hR
       have HY9 := Lib.hid hy9
       have HC9 := Lib.hid (exC_ok.wide (a' := U + 1) (b' := v9.heap.size) HUs.out (Nat.le_refl _) hC)
       clear hC hR hM hy9
       obtain ⟨c0, c1, c2, c3, c4, c5, c6, c7⟩ := cl8 (w := v9) (HU9.out)
       have fc0 := (HU9.out).frozen 0
       have fc1 := (HU9.out).frozen 1
       have fc2 := (HU9.out).frozen 2
       have fc3 := (HU9.out).frozen 3
       have fc4 := (HU9.out).frozen 4
       have fc5 := (HU9.out).frozen 5
       have fc6 := (HU9.out).frozen 6
       have fc7 := (HU9.out).frozen 7
       go_wp2_with fail
       exact bodyPost_ret (v := XV y9.hd A9 y9.kids.length cap9) (by simp [results, Tryz.results168, go_sem, c0, c1, c2, c3, c4, c5, c6, c7]) rfl (RyE.fin (c := xcell (y9.hd, A9, y9.kids.length, cap9)) exC_ok HUl.out HmU.out HM9.out HR9.out HC9.out HY9.out (OnU.refl _ _).set.set.set.set.set.set.set.set)
      ·go_wp2_with fail
       refine HT.out.mono ?_
       rintro e v8 ⟨rfl, hR, hM⟩
       have HM8 := Lib.hid ((HMn4.out.trans HMb.out).trans hM)
       have HU8 := Lib.hid (HUb.out.but HmU.out hM)
       have HR8 := Lib.hid hR
       clear hR hM
       have HUs := Lib.hid (show U + 1 ≤ v8.heap.size from HU8.out.lt)
       have HL9 := Lib.hid (show s9.ts.length ≤ N - 1 by have := (Hyes.out (by decide)).2; omega)
       have HXe := Lib.hid (show Pa.countP (Pa.lev F 0) s9 = X from HXw.out)
       have HTc := Lib.hid (qcount_any F m (N - 1) HOo.out s9 v8 HR8.out HL9.out)
       rw [HXe.out] at HTc
       clear hN
       go_wp2_with fail
       refine (HTc.out).mono ?_
       intro e v9 hE
       obtain ⟨y9, A9, cap9, rfl, hC, hy9, hR, hM⟩ := RyE.ev hE
       clear hE
       have HM9 := Lib.hid (HM8.out.trans hM)
       have HU9 := Lib.hid (HU8.out.but HmU.out hM)
       have HR9 := Lib.hid hR
       have HY9 := Lib.hid hy9
       have HC9 := Lib.hid (exC_ok.wide (a' := U + 1) (b' := v9.heap.size) HUs.out (Nat.le_refl _) hC)
       clear hC hR hM hy9
       obtain ⟨c0, c1, c2, c3, c4, c5, c6, c7⟩ := cl8 (w := v9) (HU9.out)
       have fc0 := (HU9.out).frozen 0
       have fc1 := (HU9.out).frozen 1
       have fc2 := (HU9.out).frozen 2
       have fc3 := (HU9.out).frozen 3
       have fc4 := (HU9.out).frozen 4
       have fc5 := (HU9.out).frozen 5
       have fc6 := (HU9.out).frozen 6
       have fc7 := (HU9.out).frozen 7
       go_wp2_with fail
       exact bodyPost_ret (v := XV y9.hd A9 y9.kids.length cap9) (by simp [results, Tryz.results168, go_sem, c0, c1, c2, c3, c4, c5, c6, c7]) rfl (RyE.fin (c := xcell (y9.hd, A9, y9.kids.length, cap9)) exC_ok HUl.out HmU.out HM9.out HR9.out HC9.out HY9.out (OnU.refl _ _).set.set.set.set.set.set.set.set)
      ·go_wp2_with fail
       refine HT.out.mono ?_
       rintro e v8 ⟨rfl, hR, hM⟩
       have HM8 := Lib.hid ((HMn4.out.trans HMb.out).trans hM)
       have HU8 := Lib.hid (HUb.out.but HmU.out hM)
       have HR8 := Lib.hid hR
       clear hR hM
       have HUs := Lib.hid (show U + 1 ≤ v8.heap.size from HU8.out.lt)
       have HL9 := Lib.hid (show s9.ts.length ≤ N - 1 by have := (Hyes.out (by decide)).2; omega)
       have HXe := Lib.hid (show Pa.aggP (Pa.lev F 0) 3 s9 = X from HXw.out)
       have HTc := Lib.hid (qagg_any F m (N - 1) HOo.out 3 (by decide) s9 v8 HR8.out HL9.out)
       rw [HXe.out] at HTc
       clear hN
       go_wp2_with fail
       refine (HTc.out).mono ?_
       intro e v9 hE
       obtain ⟨y9, A9, cap9, rfl, hC, hy9, hR, hM⟩ := RyE.ev hE
       clear hE
       have HM9 := Lib.hid (HM8.out.trans hM)
       have HU9 := Lib.hid (HU8.out.but HmU.out hM)
       have HR9 := Lib.hid hR
       have HY9 := Lib.hid hy9
       have HC9 := Lib.hid (exC_ok.wide (a' := U + 1) (b' := v9.heap.size) HUs.out (Nat.le_refl _) hC)
       clear hC hR hM hy9
       obtain ⟨c0, c1, c2, c3, c4, c5, c6, c7⟩ := cl8 (w := v9) (HU9.out)
       have fc0 := (HU9.out).frozen 0
       have fc1 := (HU9.out).frozen 1
       have fc2 := (HU9.out).frozen 2
       have fc3 := (HU9.out).frozen 3
       have fc4 := (HU9.out).frozen 4
       have fc5 := (HU9.out).frozen 5
       have fc6 := (HU9.out).frozen 6
       have fc7 := (HU9.out).frozen 7
       go_wp2_with fail
       exact bodyPost_ret (v := XV y9.hd A9 y9.kids.length cap9) (by simp [results, Tryz.results168, go_sem, c0, c1, c2, c3, c4, c5, c6, c7]) rfl (RyE.fin (c := xcell (y9.hd, A9, y9.kids.length, cap9)) exC_ok HUl.out HmU.out HM9.out HR9.out HC9.out HY9.out (OnU.refl _ _).set.set.set.set.set.set.set.set)
      ·go_wp2_with fail
       refine HT.out.mono ?_
       rintro e v8 ⟨rfl, hR, hM⟩
       have HM8 := Lib.hid ((HMn4.out.trans HMb.out).trans hM)
       have HU8 := Lib.hid (HUb.out.but HmU.out hM)
       have HR8 := Lib.hid hR
       clear hR hM
       have HUs := Lib.hid (show U + 1 ≤ v8.heap.size from HU8.out.lt)
       have HL9 := Lib.hid (show s9.ts.length ≤ N - 1 by have := (Hyes.out (by decide)).2; omega)
       have HXe := Lib.hid (show Pa.aggP (Pa.lev F 0) 4 s9 = X from HXw.out)
       have HTc := Lib.hid (qagg_any F m (N - 1) HOo.out 4 (by decide) s9 v8 HR8.out HL9.out)
       rw [HXe.out] at HTc
       clear hN
       go_wp2_with fail
       refine (HTc.out).mono ?_
       intro e v9 hE
       obtain ⟨y9, A9, cap9, rfl, hC, hy9, hR, hM⟩ := RyE.ev hE
       clear hE
       have HM9 := Lib.hid (HM8.out.trans hM)
       have HU9 := Lib.hid (HU8.out.but HmU.out hM)
       have HR9 := Lib.hid hR
       have HY9 := Lib.hid hy9
       have HC9 := Lib.hid (exC_ok.wide (a' := U + 1) (b' := v9.heap.size) HUs.out (Nat.le_refl _) hC)
       clear hC hR hM hy9
       obtain ⟨c0, c1, c2, c3, c4, c5, c6, c7⟩ := cl8 (w := v9) (HU9.out)
       have fc0 := (HU9.out).frozen 0
       have fc1 := (HU9.out).frozen 1
       have fc2 := (HU9.out).frozen 2
       have fc3 := (HU9.out).frozen 3
       have fc4 := (HU9.out).frozen 4
       have fc5 := (HU9.out).frozen 5
       have fc6 := (HU9.out).frozen 6
       have fc7 := (HU9.out).frozen 7
       go_wp2_with fail
       exact bodyPost_ret (v := XV y9.hd A9 y9.kids.length cap9) (by simp [results, Tryz.results168, go_sem, c0, c1, c2, c3, c4, c5, c6, c7]) rfl (RyE.fin (c := xcell (y9.hd, A9, y9.kids.length, cap9)) exC_ok HUl.out HmU.out HM9.out HR9.out HC9.out HY9.out (OnU.refl _ _).set.set.set.set.set.set.set.set)
      ·go_wp2_with fail
       refine HT.out.mono ?_
       rintro e v8 ⟨rfl, hR, hM⟩
       have HM8 := Lib.hid ((HMn4.out.trans HMb.out).trans hM)
       have HU8 := Lib.hid (HUb.out.but HmU.out hM)
       have HR8 := Lib.hid hR
       clear hR hM
       have HUs := Lib.hid (show U + 1 ≤ v8.heap.size from HU8.out.lt)
       have HL9 := Lib.hid (show s9.ts.length ≤ N - 1 by have := (Hyes.out (by decide)).2; omega)
       have HXe := Lib.hid (show Pa.aggP (Pa.lev F 0) 5 s9 = X from HXw.out)
       have HTc := Lib.hid (qagg_any F m (N - 1) HOo.out 5 (by decide) s9 v8 HR8.out HL9.out)
       rw [HXe.out] at HTc
       clear hN
       go_wp2_with fail
       refine (HTc.out).mono ?_
       intro e v9 hE
       obtain ⟨y9, A9, cap9, rfl, hC, hy9, hR, hM⟩ := RyE.ev hE
       clear hE
       have HM9 := Lib.hid (HM8.out.trans hM)
       have HU9 := Lib.hid (HU8.out.but HmU.out hM)
       have HR9 := Lib.hid hR
       have HY9 := Lib.hid hy9
       have HC9 := Lib.hid (exC_ok.wide (a' := U + 1) (b' := v9.heap.size) HUs.out (Nat.le_refl _) hC)
       clear hC hR hM hy9
       obtain ⟨c0, c1, c2, c3, c4, c5, c6, c7⟩ := cl8 (w := v9) (HU9.out)
       have fc0 := (HU9.out).frozen 0
       have fc1 := (HU9.out).frozen 1
       have fc2 := (HU9.out).frozen 2
       have fc3 := (HU9.out).frozen 3
       have fc4 := (HU9.out).frozen 4
       have fc5 := (HU9.out).frozen 5
       have fc6 := (HU9.out).frozen 6
       have fc7 := (HU9.out).frozen 7
       go_wp2_with fail
       exact bodyPost_ret (v := XV y9.hd A9 y9.kids.length cap9) (by simp [results, Tryz.results168, go_sem, c0, c1, c2, c3, c4, c5, c6, c7]) rfl (RyE.fin (c := xcell (y9.hd, A9, y9.kids.length, cap9)) exC_ok HUl.out HmU.out HM9.out HR9.out HC9.out HY9.out (OnU.refl _ _).set.set.set.set.set.set.set.set)
theorem qlevs_any (m : Nat) : ∀ (F N : Nat),
  (8 * N + 8 ≤ F → OkQ 31 (Pa.lev F 0) m N) ∧ (8 * N + 7 ≤ F → OkQ 63 (Pa.lev F 1) m N) ∧ (8 * N + 6 ≤ F → OkQ 116 (Pa.lev F 2) m N) ∧
  (8 * N + 5 ≤ F → OkQ 145 (Pa.lev F 3) m N) ∧ (8 * N + 4 ≤ F → OkQ 157 (Pa.lev F 4) m N) ∧ (8 * N + 3 ≤ F → OkQ 163 (Pa.lev F 5) m N) ∧
  (8 * N + 2 ≤ F → OkQ 166 (Pa.lev F 6) m N) ∧ (8 * N + 1 ≤ F → OkQ 168 (Pa.lev F 7) m N)
 | 0, N => by refine ⟨?_, ?_, ?_, ?_, ?_, ?_, ?_, ?_⟩ <;> intro h <;> omega
 | F + 1, N => by
  obtain ⟨h0, h1, h2, h3, h4, h5, h6, h7⟩ := qlevs_any m F N
  obtain ⟨g0, g1, g2, g3, g4, g5, g6, g7⟩ := qlevs_any m F (N - 1)
  have none : ∀ {fn : FuncId} {f : Pa.Ps → Ex × Pa.Ps}, N = 0 → OkQ fn f m N := fun hz s w h hl => by
   have := h.fin.ne
   omega
  have lev7 : Pa.lev (F + 1) 7 = Pa.firstP (Pa.lev F 0) := by funext s; rw [Pa.lev, if_neg (by decide), if_neg (by decide), if_pos rfl]
  refine ⟨fun h => qOr_any F m N (h1 (by omega)), fun h => qand_any F m N (h2 (by omega)), fun h => ?_, fun h => qcmp_any F m N (h4 (by omega)), fun h => qsum_any F m N (h5 (by omega)), fun h => qprod_any F m N (h6 (by omega)), fun h => ?_, fun h => ?_⟩
  ·rcases Nat.eq_zero_or_pos N with hz | hz
   ·exact none hz
   ·exact qnot_any F m N (g2 (by omega)) (h3 (by omega))
  ·rcases Nat.eq_zero_or_pos N with hz | hz
   ·exact none hz
   ·exact qunary_any F m N (g6 (by omega)) (h7 (by omega))
  ·rcases Nat.eq_zero_or_pos N with hz | hz
   ·exact none hz
   ·rw [lev7]
    exact qfirst_any F m N (g0 (by omega))
end Go.Proofs.YtfjimoccliejdaaGreatDoor
end
section
namespace Go.Proofs.YtfjimoccliejdaaGreatDoor
open Go.RowKit Go.Shelf

theorem end_took {m U : Nat} {w0 W3 W' : World} {s : Pa.Ps} {v : Value} (hP : RP m W3 s) (hb : s.bad = false) (hO : OnU U (W3.setCell ⟨m, 1, none⟩ v) W') (hmU : m ≠ U) (hU : w0.heap.size ≤ U) (hM : ButM m w0 W3) :
  ButM m w0 W' ∧ W'.cell? ⟨m, 2, none⟩ = some (.bool false) := by
 have hBm : ButM m W3 (W3.setCell ⟨m, 1, none⟩ v) := ⟨rfl, rfl, rfl, by rw [setc_size]; exact Nat.le_refl _, fun k _ hk => setc_other hk _⟩
 refine ⟨hO.but hU (hM.trans hBm), (World.cell?_of_block (hO.block m hmU)).trans ?_⟩
 obtain ⟨g5, off5, c5, l5, k5, h5, _⟩ := hP.ex
 simp only [World.cell?, World.setCell, Array.getElem?_modify, h5]
 simp [hb]
set_option maxRecDepth 100000 in
set_option maxHeartbeats 4000000 in
theorem qend_any (m : Nat) (s : Pa.Ps) (w : World) (h : RP m w s) :
  Calls Tryz.prog 32 #[.pointer (some ⟨m, 0, none⟩), .int .i64 6] w fun e w' => ∃ (v : Value) (b : Bool), e = .returned v ∧ ButM m w w' ∧ (b = true ↔ s.bad = true ∨ s.tk.k ≠ 6) ∧ (b = true → RP m w' ⟨s.ts, true⟩) ∧ w'.cell? ⟨m, 2, none⟩ = some (.bool b) := by
 have hb0 := ba w (.cells zcs4 66)
 have HU := Lib.hid (show BxU _ w.heap.size zcs4 66 from (MapKept.heap_alloc w (.cells zcs4 66)).1)
 have HB := Lib.hid hb0
 have HP := Lib.hid (h.next hb0)
 have HmU := Lib.hid h.lt
 have HSz := Lib.hid (show (w.alloc (.cells zcs4 66)).heap.size = w.heap.size + 1 from World.size_alloc _ _)
 clear h hb0
 go_enter Tryz.func32, Tryz.ntmps32
 go_wp2_with fail
 generalize w.alloc (.cells #[.int .i64 0, .string ⟨#[]⟩, .int .i64 0, .int .i64 0] 66) = W1 at HB HU HP HSz ⊢
 obtain ⟨U, hU⟩ : ∃ U, w.heap.size = U := ⟨_, rfl⟩
 rw [hU] at HU HmU HSz ⊢
 have HUe := Lib.hid hU
 clear hU
 refine (qnow_any m s W1 HP.out).mono ?_
 rintro e W2 ⟨⟨x, htk, _, rfl⟩, hb⟩
 have hb2 := ba W2 (.cells #[.int .i64 x.1.k, .string ⟨x.1.s.toArray⟩, .int .i64 x.1.n, .int .i64 x.2] 66)
 have HP2 := Lib.hid ((HP.out.next hb).next hb2)
 have HM2 := Lib.hid (show ButM m w (W2.alloc (.cells #[.int .i64 x.1.k, .string ⟨x.1.s.toArray⟩, .int .i64 x.1.n, .int .i64 x.2] 66)) from ButM.of (bt HB.out (bt hb hb2)))
 have HU2 := Lib.hid ((HU.out.next hb).next hb2)
 have HV2 := Lib.hid (show BxU _ W2.heap.size #[.int .i64 x.1.k, .string ⟨x.1.s.toArray⟩, .int .i64 x.1.n, .int .i64 x.2] 66 from (MapKept.heap_alloc W2 (.cells #[.int .i64 x.1.k, .string ⟨x.1.s.toArray⟩, .int .i64 x.1.n, .int .i64 x.2] 66)).1)
 have HVm := Lib.hid (show W2.heap.size ≠ m by have := hb.size; have := HSz.out; have := HmU.out; omega)
 have HVU := Lib.hid (show W2.heap.size ≠ U by have := hb.size; have := HSz.out; omega)
 have HX := Lib.hid htk
 clear hb hb2 htk
 go_upto_region 2 with fail
 generalize W2.alloc (.cells #[.int .i64 x.1.k, .string ⟨x.1.s.toArray⟩, .int .i64 x.1.n, .int .i64 x.2] 66) = W3 at HP2 HM2 HU2 HV2 ⊢
 generalize W2.heap.size = V at HV2 HVm HVU ⊢
 obtain ⟨y, g, off, c, n, kk, c0, c1, c2, hkn, hn, _⟩ := HP2.out.head
 have hk5 : (kk : Int) < 5000 := by omega
 have f1 := HP2.out.frozen 1
 have f2 := HP2.out.frozen 2
 have v0 : W3.cell? ⟨V, 0, none⟩ = some (.int .i64 x.1.k) := HV2.out.cell 0
 have v1 : W3.cell? ⟨V, 1, none⟩ = some (.string ⟨x.1.s.toArray⟩) := HV2.out.cell 1
 have v2 : W3.cell? ⟨V, 2, none⟩ = some (.int .i64 x.1.n) := HV2.out.cell 2
 have v3 : W3.cell? ⟨V, 3, none⟩ = some (.int .i64 x.2) := HV2.out.cell 3
 have u0 : W3.cell? ⟨U, 0, none⟩ = some (.int .i64 0) := HU2.out.cell 0
 have u1 : W3.cell? ⟨U, 1, none⟩ = some (.string ⟨#[]⟩) := HU2.out.cell 1
 have u2 : W3.cell? ⟨U, 2, none⟩ = some (.int .i64 0) := HU2.out.cell 2
 have u3 : W3.cell? ⟨U, 3, none⟩ = some (.int .i64 0) := HU2.out.cell 3
 have fu0 := HU2.out.frozen 0
 have fu1 := HU2.out.frozen 1
 have fu2 := HU2.out.frozen 2
 have fu3 := HU2.out.frozen 3
 have hmU : m ≠ U := Nat.ne_of_lt HmU.out
 have hUm : U ≠ m := fun e => hmU e.symm
 have hVm := HVm.out
 have hVU := HVU.out
 have hneq : ((x.1.k : Int) != 6) = !(x.1.k == 6) := by unfold bne; rw [show (6 : Int) = ((6 : Nat) : Int) from rfl, int_k]
 cases hbd : s.bad with
 | true =>
  rw [hbd] at c2
  clear c0 c1 hkn hn hk5 hneq
  go_wp2_with fail
  have hS := HP2.out.stuck
  exact bodyPost_ret (v := .agg zcs4) (by simp [results, Tryz.results32, go_sem, u0, u1, u2, u3]) rfl ⟨_, true, rfl, (OnU.refl _ _).set.set.set.set.but (Nat.le_of_eq HUe.out) (HM2.out.trans hS.2), ⟨fun _ => .inl hbd, fun _ => rfl⟩, fun _ => (OnU.refl _ _).set.set.set.set.rp HmU.out hS.1, ((OnU.refl _ _).set.set.set.set.rp HmU.out hS.1).c2⟩
 | false =>
  rw [hbd] at c2
  cases hq : (x.1.k == 6) with
  | false =>
   rw [hq] at hneq
   simp only [Bool.not_false] at hneq
   clear c0 c1 hkn hn hk5
   go_wp2_with fail
   have hS := HP2.out.stuck
   exact bodyPost_ret (v := .agg zcs4) (by simp [results, Tryz.results32, go_sem, u0, u1, u2, u3]) rfl ⟨_, true, rfl, (OnU.refl _ _).set.set.set.set.but (Nat.le_of_eq HUe.out) (HM2.out.trans hS.2), ⟨fun _ => .inr (by rw [HX.out]; exact fun e => by rw [e] at hq; cases hq), fun _ => rfl⟩, fun _ => (OnU.refl _ _).set.set.set.set.rp HmU.out hS.1, ((OnU.refl _ _).set.set.set.set.rp HmU.out hS.1).c2⟩
  | true =>
   rw [hq] at hneq
   simp only [Bool.not_true] at hneq
   have HBd := Lib.hid hbd
   have HN := Lib.hid hn
   have HQ := Lib.hid hq
   have HC2 := Lib.hid c2
   clear c0 hkn hn hq hbd
   go_wp2_with fail
   have HE := Lib.hid (fun W' (hO : OnU U (W3.setCell ⟨m, 1, none⟩ (.int .i64 ((kk : Int) + 1))) W') => end_took HP2.out HBd.out hO hmU (Nat.le_of_eq HUe.out) HM2.out)
   have HIf := Lib.hid (show (false = true ↔ s.bad = true ∨ s.tk.k ≠ 6) from ⟨(fun e => by cases e), fun e => by
    rcases e with e | e
    ·rw [HBd.out] at e; cases e
    ·rw [HX.out] at e; exact absurd (beq_iff_eq.1 HQ.out) e⟩)
   exact bodyPost_ret (v := tkv x) (by simp [results, Tryz.results32, go_sem, u0, u1, u2, u3]) rfl ⟨_, false, rfl, (HE.out _ (OnU.refl _ _).set.set.set.set).1, HIf.out, (fun e => by cases e), (HE.out _ (OnU.refl _ _).set.set.set.set).2⟩
theorem RP.last {m : Nat} {w : World} {s : Pa.Ps} (h : RP m w s) : ∃ (x z : TkA) (g off c n k : Nat), w.cell? ⟨m, 0, none⟩ = some (.slice (some ⟨g, off, none⟩) (n + 1) c) ∧ w.cell? ⟨m, 1, none⟩ = some (.int .i64 k) ∧
  k < n + 1 ∧ n + 1 ≤ 5000 ∧ s.tk = x.1 ∧ s.at = x.2 ∧ TC w g (off + k * 4) x ∧ TC w g (off + n * 4) z ∧ g < m := by
 obtain ⟨g, off, c, l, k, h1, h2, h3, h4, h5, h6⟩ := h.ex
 have hn := h.fin.ne
 rw [h3, List.length_drop] at hn
 have hk : k < l.length := by omega
 obtain ⟨n, hln⟩ : ∃ n, l.length = n + 1 := ⟨l.length - 1, by omega⟩
 obtain ⟨x, hx⟩ : ∃ x, l[k]? = some x := ⟨_, List.getElem?_eq_getElem hk⟩
 obtain ⟨z, hz⟩ : ∃ z, l[n]? = some z := ⟨_, List.getElem?_eq_getElem (by omega)⟩
 obtain ⟨g', off', hA, hc⟩ := h2.at hx
 simp only [Option.some.injEq, Addr.mk.injEq] at hA
 obtain ⟨rfl, rfl, _⟩ := hA
 obtain ⟨g', off', hA, hcz⟩ := h2.at hz
 simp only [Option.some.injEq, Addr.mk.injEq] at hA
 obtain ⟨rfl, rfl, _⟩ := hA
 have hd : s.ts.head? = some x := by rw [h3, List.head?_drop, hx]
 have hh : s.ts.headD (⟨6, [], 0⟩, 0) = x := by
  cases ht : s.ts with
  | nil => rw [ht] at hd; cases hd
  | cons y r => rw [ht] at hd; exact Option.some.inj hd
 refine ⟨x, z, g, off, c, n, k, ?_, ?_, by omega, by omega, by rw [Pa.Ps.tk, hh], by rw [Pa.Ps.at, hh], hc, hcz, h4⟩
 ·simp [World.cell?, h1, hln]
 ·simp [World.cell?, h1]
end Go.Proofs.YtfjimoccliejdaaGreatDoor
end
section
namespace Go.Proofs.YtfjimoccliejdaaGreatDoor
open Go.RowKit Go.Shelf

set_option maxRecDepth 100000 in
theorem pv_int (n : Int) (w : World) : Calls Tryz.prog 170 #[.int .i64 n] w fun e w' => e = .returned (VV 2 n ⟨#[]⟩) ∧ Below w.heap.size w w' := by
 go_enter Tryz.func170, Tryz.ntmps170
 go_wp2_with fail
 refine bodyPost_ret (v := VV 2 n ⟨#[]⟩) (by simp [results, Tryz.results170, go_sem]) rfl ⟨rfl, ?_⟩
 first | exact Below.refl _ _ | exact ba w _
set_option maxRecDepth 100000 in
theorem pv_text (b : ByteArray) (w : World) : Calls Tryz.prog 171 #[.string b] w fun e w' => e = .returned (VV 3 0 b) ∧ Below w.heap.size w w' := by
 go_enter Tryz.func171, Tryz.ntmps171
 go_wp2_with fail
 refine bodyPost_ret (v := VV 3 0 b) (by simp [results, Tryz.results171, go_sem]) rfl ⟨rfl, ?_⟩
 first | exact Below.refl _ _ | exact ba w _
set_option maxRecDepth 100000 in
theorem pv_true  (w : World) : Calls Tryz.prog 172 #[.bool true] w fun e w' => e = .returned (VV 1 1 ⟨#[]⟩) ∧ Below w.heap.size w w' := by
 go_enter Tryz.func172, Tryz.ntmps172
 go_wp2_with fail
 refine bodyPost_ret (v := VV 1 1 ⟨#[]⟩) (by simp [results, Tryz.results172, go_sem]) rfl ⟨rfl, ?_⟩
 first | exact Below.refl _ _ | exact ba w _
set_option maxRecDepth 100000 in
theorem pv_false  (w : World) : Calls Tryz.prog 172 #[.bool false] w fun e w' => e = .returned (VV 1 0 ⟨#[]⟩) ∧ Below w.heap.size w w' := by
 go_enter Tryz.func172, Tryz.ntmps172
 go_wp2_with fail
 refine bodyPost_ret (v := VV 1 0 ⟨#[]⟩) (by simp [results, Tryz.results172, go_sem]) rfl ⟨rfl, ?_⟩
 first | exact Below.refl _ _ | exact ba w _
set_option maxRecDepth 100000 in
theorem pv_null  (w : World) : Calls Tryz.prog 173 #[] w fun e w' => e = .returned (VV 0 0 ⟨#[]⟩) ∧ Below w.heap.size w w' := by
 go_enter Tryz.func173, Tryz.ntmps173
 go_wp2_with fail
 refine bodyPost_ret (v := VV 0 0 ⟨#[]⟩) (by simp [results, Tryz.results173, go_sem]) rfl ⟨rfl, ?_⟩
 first | exact Below.refl _ _ | exact ba w _
theorem pagg_rows (w : World) : Calls Tryz.prog 182 #[.int .i64 1, .slice none 0 0] w fun e w' => ∃ A cap, e = .returned (XV (hdA 1) A 0 cap) ∧ Below w.heap.size w w' :=
 (ev_agg (n := 1) (LV.nil w) (by decide)).mono fun _ _ ⟨_, h1, hb, A, cap, h2, _, _⟩ => ⟨A, cap, by rw [h1, h2]; rfl, hb⟩
set_option maxRecDepth 100000 in
set_option maxHeartbeats 4000000 in
theorem penc_any (F m N : Nat) (HO : Ok 29 (Pa.lev F 0) m N) : Ok 174 (Pa.enclP (Pa.lev F 0)) m N := by
 intro s w h hN
 have HOo := Lib.hid HO
 clear HO
 have HB := Lib.hid (ba w (.cells #[.int .i64 0, .int .i64 0, .int .i64 0, .int .i64 0, .string ⟨#[]⟩, .string ⟨#[]⟩, .string ⟨#[]⟩, .slice none 0 0] 37))
 have HU := Lib.hid (show BxU _ _ #[.int .i64 0, .int .i64 0, .int .i64 0, .int .i64 0, .string ⟨#[]⟩, .string ⟨#[]⟩, .string ⟨#[]⟩, .slice none 0 0] 37 from (MapKept.heap_alloc w (.cells #[.int .i64 0, .int .i64 0, .int .i64 0, .int .i64 0, .string ⟨#[]⟩, .string ⟨#[]⟩, .string ⟨#[]⟩, .slice none 0 0] 37)).1)
 have H1 := Lib.hid (h.next HB.out)
 have hmU := h.lt
 have HFin := Lib.hid h.fin
 obtain ⟨U, hU⟩ : ∃ U, w.heap.size = U := ⟨_, rfl⟩
 have HUl := Lib.hid hU
 have HSz := Lib.hid (show (w.alloc (.cells #[.int .i64 0, .int .i64 0, .int .i64 0, .int .i64 0, .string ⟨#[]⟩, .string ⟨#[]⟩, .string ⟨#[]⟩, .slice none 0 0] 37)).heap.size = U + 1 by rw [World.size_alloc, hU])
 rw [hU] at HU hmU
 have HmU := Lib.hid hmU
 obtain ⟨X, hX⟩ : ∃ X, Pa.enclP (Pa.lev F 0) s = X := ⟨_, rfl⟩
 rw [hX]
 have HX := Lib.hid hX
 clear h hX hmU
 go_enter Tryz.func174, Tryz.ntmps174
 go_wp2_with fail
 generalize w.alloc (.cells #[.int .i64 0, .int .i64 0, .int .i64 0, .int .i64 0, .string ⟨#[]⟩, .string ⟨#[]⟩, .string ⟨#[]⟩, .slice none 0 0] 37) = W1 at HB HU H1 HSz ⊢
 clear hU
 have HM1 := Lib.hid (show ButM m w W1 from ButM.of HB.out)
 have HT1 := Lib.hid (HOo.out s W1 H1.out hN)
 obtain ⟨⟨x1, s1⟩, hs1⟩ : ∃ q, Pa.lev F 0 s = q := ⟨_, rfl⟩
 rw [hs1] at HT1
 have HK1 := Lib.hid hs1
 clear hs1
 simp only at HT1
 go_wp2_with fail
 refine HT1.out.mono ?_
 intro e v1 hE
 obtain ⟨A1, cap1, rfl, hC, hR, hM⟩ := RuE.ev hE
 clear hE
 have HMn1 := Lib.hid (HM1.out.trans hM)
 have HUn1 := Lib.hid (HU.out.but HmU.out hM)
 have HRn1 := Lib.hid hR
 have HC1 := Lib.hid (exC_ok.wide (a' := U + 1) (b' := v1.heap.size) (by rw [HSz.out]; exact Nat.le_refl _) (Nat.le_refl _) hC)
 clear hC hR hM
 clear hN
 obtain ⟨hd1, l1⟩ := x1
 simp only [Ex.hd, Ex.kids] at HC1 ⊢
 have hbv := ba v1 (xbox hd1 A1 l1.length cap1)
 have HRv := Lib.hid (HRn1.out.next hbv)
 have HMv := Lib.hid (HMn1.out.trans (ButM.of hbv))
 have HUv := Lib.hid (HUn1.out.next hbv)
 have HVv := Lib.hid (show BxU (v1.alloc (xbox hd1 A1 l1.length cap1)) v1.heap.size #[.int .i64 hd1.k, .int .i64 hd1.n, .int .i64 hd1.vk, .int .i64 hd1.vn, .string hd1.vs, .string hd1.tab, .string hd1.col, .slice A1 l1.length cap1] 37 from (MapKept.heap_alloc v1 (xbox hd1 A1 l1.length cap1)).1)
 have HCv := Lib.hid (exC_ok.keep (a := U + 1) (b := v1.heap.size) hbv (Nat.le_refl _) HC1.out)
 have HmV := Lib.hid (show m < v1.heap.size from HRn1.out.lt)
 have HsV := Lib.hid (show v1.heap.size ≤ (v1.alloc (xbox hd1 A1 l1.length cap1)).heap.size from hbv.size)
 clear hbv
 go_wp2_with fail
 have HT := Lib.hid (must_any m s1 [41] _ HRv.out)
 refine HT.out.mono ?_
 rintro e v9 ⟨rfl, hR, hM⟩
 have HM9 := Lib.hid (HMv.out.trans hM)
 have HU9 := Lib.hid (HUv.out.but HmU.out hM)
 have HV9 := Lib.hid (HVv.out.but HmV.out hM)
 have HR9 := Lib.hid hR
 have HC9 := Lib.hid (exC_ok.wide (a' := U + 1) (b' := v9.heap.size) (Nat.le_refl _) (Nat.le_trans HsV.out hM.size) (exC_ok.keepM hM (Nat.lt_succ_of_lt HmU.out) HsV.out HCv.out))
 have HXe := Lib.hid (show X = (.mk hd1 l1, Pa.mustW [41] s1) by rw [← HX.out, Pa.enclP, HK1.out])
 have hUV := Nat.ne_of_lt HUn1.out.lt
 have hVU := hUV.symm
 clear hR hM
 obtain ⟨d0, d1, d2, d3, d4, d5, d6, d7⟩ := cl8 (w := v9) HV9.out
 obtain ⟨c0, c1, c2, c3, c4, c5, c6, c7⟩ := cl8 (w := v9) (HU9.out)
 have fc0 := (HU9.out).frozen 0
 have fc1 := (HU9.out).frozen 1
 have fc2 := (HU9.out).frozen 2
 have fc3 := (HU9.out).frozen 3
 have fc4 := (HU9.out).frozen 4
 have fc5 := (HU9.out).frozen 5
 have fc6 := (HU9.out).frozen 6
 have fc7 := (HU9.out).frozen 7
 go_wp2_with fail
 exact bodyPost_ret (v := XV hd1 A1 l1.length cap1) (by simp [results, Tryz.results174, go_sem, c0, c1, c2, c3, c4, c5, c6, c7]) rfl (by rw [HXe.out]; exact RuE.fin (c := xcell (hd1, A1, l1.length, cap1)) exC_ok HUl.out HmU.out HM9.out HR9.out HC9.out (OnU.refl _ _).set.set.set.set.set.set.set.set)
set_option maxRecDepth 100000 in
set_option maxHeartbeats 4000000 in
theorem pagg_any (F m N : Nat) (HO : Ok 29 (Pa.lev F 0) m N) (n : Nat) (s : Pa.Ps) (w : World) (h : RS m w s) (hN : s.ts.length ≤ N) :
  Calls Tryz.prog 176 #[.pointer (some ⟨m, 0, none⟩), .int .i64 n] w (RuE exC m w (Pa.aggP (Pa.lev F 0) n s).1 (Pa.aggP (Pa.lev F 0) n s).2) := by
 have HOo := Lib.hid (penc_any F m N HO)
 clear HO
 have HB := Lib.hid (ba w (.cells #[.int .i64 0, .int .i64 0, .int .i64 0, .int .i64 0, .string ⟨#[]⟩, .string ⟨#[]⟩, .string ⟨#[]⟩, .slice none 0 0] 37))
 have HU := Lib.hid (show BxU _ _ #[.int .i64 0, .int .i64 0, .int .i64 0, .int .i64 0, .string ⟨#[]⟩, .string ⟨#[]⟩, .string ⟨#[]⟩, .slice none 0 0] 37 from (MapKept.heap_alloc w (.cells #[.int .i64 0, .int .i64 0, .int .i64 0, .int .i64 0, .string ⟨#[]⟩, .string ⟨#[]⟩, .string ⟨#[]⟩, .slice none 0 0] 37)).1)
 have H1 := Lib.hid (h.next HB.out)
 have hmU := h.lt
 have HFin := Lib.hid h.fin
 obtain ⟨U, hU⟩ : ∃ U, w.heap.size = U := ⟨_, rfl⟩
 have HUl := Lib.hid hU
 have HSz := Lib.hid (show (w.alloc (.cells #[.int .i64 0, .int .i64 0, .int .i64 0, .int .i64 0, .string ⟨#[]⟩, .string ⟨#[]⟩, .string ⟨#[]⟩, .slice none 0 0] 37)).heap.size = U + 1 by rw [World.size_alloc, hU])
 rw [hU] at HU hmU
 have HmU := Lib.hid hmU
 obtain ⟨X, hX⟩ : ∃ X, Pa.aggP (Pa.lev F 0) n s = X := ⟨_, rfl⟩
 rw [hX]
 have HX := Lib.hid hX
 clear h hX hmU
 go_enter Tryz.func176, Tryz.ntmps176
 go_wp2_with fail
 generalize w.alloc (.cells #[.int .i64 0, .int .i64 0, .int .i64 0, .int .i64 0, .string ⟨#[]⟩, .string ⟨#[]⟩, .string ⟨#[]⟩, .slice none 0 0] 37) = W1 at HB HU H1 HSz ⊢
 clear hU
 have HM1 := Lib.hid (show ButM m w W1 from ButM.of HB.out)
 have hle := (Pa.mustW_le [40] HFin.out).len
 have HT1 := Lib.hid (must_any m s [40] W1 H1.out)
 obtain ⟨s1, hs1⟩ : ∃ z, Pa.mustW [40] s = z := ⟨_, rfl⟩
 rw [hs1] at HT1
 have HK1 := Lib.hid hs1
 clear hs1
 go_wp2_with fail
 refine HT1.out.mono ?_
 rintro e v1 ⟨rfl, hR, hM⟩
 have HMn1 := Lib.hid (HM1.out.trans hM)
 have HUn1 := Lib.hid (HU.out.but HmU.out hM)
 have HRn1 := Lib.hid hR
 clear hR hM
 rw [HK1.out] at hle
 have HT2 := Lib.hid (HOo.out s1 v1 HRn1.out (by omega))
 obtain ⟨⟨x2, s2⟩, hs2⟩ : ∃ q, Pa.enclP (Pa.lev F 0) s1 = q := ⟨_, rfl⟩
 rw [hs2] at HT2
 have HK2 := Lib.hid hs2
 clear hs2
 simp only at HT2
 go_wp2_with fail
 refine HT2.out.mono ?_
 have HUs := Lib.hid (show U + 1 ≤ v1.heap.size from HUn1.out.lt)
 intro e v2 hE
 obtain ⟨A2, cap2, rfl, hC, hR, hM⟩ := RuE.ev hE
 clear hE
 have HMn2 := Lib.hid (HMn1.out.trans hM)
 have HUn2 := Lib.hid (HUn1.out.but HmU.out hM)
 have HRn2 := Lib.hid hR
 have HC2 := Lib.hid (exC_ok.wide (a' := U + 1) (b' := v2.heap.size) HUs.out (Nat.le_refl _) hC)
 clear hC hR hM
 clear hN hle
 obtain ⟨hd2, l2⟩ := x2
 simp only [Ex.hd, Ex.kids] at HC2 ⊢
 go_wp2_with fail
 have hbx := ba v2 (xbox hd2 A2 l2.length cap2)
 have HCm := Lib.hid (exC_one (B' := Bt (U + 1) (v2.heap.size + 1)) (⟨4, (n : Int), 0, 0, ⟨#[]⟩, ⟨#[]⟩, ⟨#[]⟩⟩ : Hd) HC2.out (fun k hk => ⟨hk.2, hk.1, Nat.lt_succ_of_lt hk.2⟩) ⟨HUn2.out.lt, Nat.lt_succ_self _⟩ 37)
 have HMx := Lib.hid (HMn2.out.trans (ButM.of hbx))
 have HRx := Lib.hid (HRn2.out.next hbx)
 have HUx := Lib.hid (HUn2.out.next hbx)
 clear hbx
 refine (pmade_any 4 (n : Int) (some ⟨v2.heap.size, 0, none⟩) 1 1 _).mono ?_
 rintro e v9 ⟨rfl, hb⟩
 have HM9 := Lib.hid (HMx.out.trans (ButM.of hb))
 have HU9 := Lib.hid (HUx.out.next hb)
 have HR9 := Lib.hid (HRx.out.next hb)
 have HC9 := Lib.hid (show exC (Bt (U + 1) v9.heap.size) v9 (.mk (⟨4, (n : Int), 0, 0, ⟨#[]⟩, ⟨#[]⟩, ⟨#[]⟩⟩ : Hd) [.mk hd2 l2]) (xcell ((⟨4, (n : Int), 0, 0, ⟨#[]⟩, ⟨#[]⟩, ⟨#[]⟩⟩ : Hd), some ⟨v2.heap.size, 0, none⟩, 1, 1)) from exC_ok.wide (Nat.le_refl _) (by have := hb.size; rw [World.size_alloc] at this; omega) (exC_ok.keep hb (by rw [World.size_alloc]; exact Nat.le_refl _) HCm.out))
 have HXe := Lib.hid (show X = (.mk (⟨4, (n : Int), 0, 0, ⟨#[]⟩, ⟨#[]⟩, ⟨#[]⟩⟩ : Hd) [.mk hd2 l2], s2) by rw [← HX.out, Pa.aggP, HK1.out, HK2.out]; rfl)
 clear hb
 obtain ⟨c0, c1, c2, c3, c4, c5, c6, c7⟩ := cl8 (w := v9) (HU9.out)
 have fc0 := (HU9.out).frozen 0
 have fc1 := (HU9.out).frozen 1
 have fc2 := (HU9.out).frozen 2
 have fc3 := (HU9.out).frozen 3
 have fc4 := (HU9.out).frozen 4
 have fc5 := (HU9.out).frozen 5
 have fc6 := (HU9.out).frozen 6
 have fc7 := (HU9.out).frozen 7
 go_wp2_with fail
 exact bodyPost_ret (v := XV (⟨4, (n : Int), 0, 0, ⟨#[]⟩, ⟨#[]⟩, ⟨#[]⟩⟩ : Hd) (some ⟨v2.heap.size, 0, none⟩) 1 1) (by simp [results, Tryz.results176, go_sem, c0, c1, c2, c3, c4, c5, c6, c7]) rfl (by rw [HXe.out]; exact RuE.fin (c := xcell ((⟨4, (n : Int), 0, 0, ⟨#[]⟩, ⟨#[]⟩, ⟨#[]⟩⟩ : Hd), (some ⟨v2.heap.size, 0, none⟩), 1, 1)) exC_ok HUl.out HmU.out HM9.out HR9.out HC9.out (OnU.refl _ _).set.set.set.set.set.set.set.set)
set_option maxRecDepth 100000 in
set_option maxHeartbeats 4000000 in
theorem pcount_any (F m N : Nat) (HO : Ok 29 (Pa.lev F 0) m N) : Ok 175 (Pa.countP (Pa.lev F 0)) m N := by
 intro s w h hN
 have HOo := Lib.hid (penc_any F m N HO)
 clear HO
 have HB := Lib.hid (ba w (.cells #[.int .i64 0, .int .i64 0, .int .i64 0, .int .i64 0, .string ⟨#[]⟩, .string ⟨#[]⟩, .string ⟨#[]⟩, .slice none 0 0] 37))
 have HU := Lib.hid (show BxU _ _ #[.int .i64 0, .int .i64 0, .int .i64 0, .int .i64 0, .string ⟨#[]⟩, .string ⟨#[]⟩, .string ⟨#[]⟩, .slice none 0 0] 37 from (MapKept.heap_alloc w (.cells #[.int .i64 0, .int .i64 0, .int .i64 0, .int .i64 0, .string ⟨#[]⟩, .string ⟨#[]⟩, .string ⟨#[]⟩, .slice none 0 0] 37)).1)
 have H1 := Lib.hid (h.next HB.out)
 have hmU := h.lt
 have HFin := Lib.hid h.fin
 obtain ⟨U, hU⟩ : ∃ U, w.heap.size = U := ⟨_, rfl⟩
 have HUl := Lib.hid hU
 have HSz := Lib.hid (show (w.alloc (.cells #[.int .i64 0, .int .i64 0, .int .i64 0, .int .i64 0, .string ⟨#[]⟩, .string ⟨#[]⟩, .string ⟨#[]⟩, .slice none 0 0] 37)).heap.size = U + 1 by rw [World.size_alloc, hU])
 rw [hU] at HU hmU
 have HmU := Lib.hid hmU
 obtain ⟨X, hX⟩ : ∃ X, Pa.countP (Pa.lev F 0) s = X := ⟨_, rfl⟩
 rw [hX]
 have HX := Lib.hid hX
 clear h hX hmU
 go_enter Tryz.func175, Tryz.ntmps175
 go_wp2_with fail
 generalize w.alloc (.cells #[.int .i64 0, .int .i64 0, .int .i64 0, .int .i64 0, .string ⟨#[]⟩, .string ⟨#[]⟩, .string ⟨#[]⟩, .slice none 0 0] 37) = W1 at HB HU H1 HSz ⊢
 clear hU
 have HM1 := Lib.hid (show ButM m w W1 from ButM.of HB.out)
 have hle := (Pa.mustW_le [40] HFin.out).len
 have HT1 := Lib.hid (must_any m s [40] W1 H1.out)
 obtain ⟨s1, hs1⟩ : ∃ z, Pa.mustW [40] s = z := ⟨_, rfl⟩
 rw [hs1] at HT1
 have HK1 := Lib.hid hs1
 clear hs1
 go_wp2_with fail
 refine HT1.out.mono ?_
 rintro e v1 ⟨rfl, hR, hM⟩
 have HMn1 := Lib.hid (HM1.out.trans hM)
 have HUn1 := Lib.hid (HU.out.but HmU.out hM)
 have HRn1 := Lib.hid hR
 clear hR hM
 rw [HK1.out] at hle
 have HT2 := Lib.hid (take_any m s1 [42] v1 HRn1.out)
 obtain ⟨t2, ht⟩ : ∃ z, (Pa.takeW [42] s1).1 = z := ⟨_, rfl⟩
 obtain ⟨s2, hs⟩ : ∃ z, (Pa.takeW [42] s1).2 = z := ⟨_, rfl⟩
 have hno2 := (Pa.takeW_le [42] HRn1.out.fin).2.2
 rw [ht, hs] at HT2 hno2
 have HK2 := Lib.hid (show Pa.takeW [42] s1 = (t2, s2) by rw [← ht, ← hs])
 clear ht hs
 cases t2 with
 | true =>
  clear hle hN
  clear hno2
  go_wp2_with fail
  refine HT2.out.mono ?_
  rintro e v2 ⟨rfl, hR, hM⟩
  have HMn2 := Lib.hid (HMn1.out.trans hM)
  have HUn2 := Lib.hid (HUn1.out.but HmU.out hM)
  have HRn2 := Lib.hid hR
  clear hR hM
  have HT3 := Lib.hid (must_any m s2 [41] v2 HRn2.out)
  obtain ⟨s3, hs3⟩ : ∃ z, Pa.mustW [41] s2 = z := ⟨_, rfl⟩
  rw [hs3] at HT3
  have HK3 := Lib.hid hs3
  clear hs3
  go_wp2_with fail
  refine HT3.out.mono ?_
  rintro e v3 ⟨rfl, hR, hM⟩
  have HMn3 := Lib.hid (HMn2.out.trans hM)
  have HUn3 := Lib.hid (HUn2.out.but HmU.out hM)
  have HRn3 := Lib.hid hR
  clear hR hM
  go_wp2_with fail
  refine (pagg_rows v3).mono ?_
  rintro e v9 ⟨A9, cap9, rfl, hb⟩
  have HM9 := Lib.hid (HMn3.out.trans (ButM.of hb))
  have HU9 := Lib.hid (HUn3.out.next hb)
  have HR9 := Lib.hid (HRn3.out.next hb)
  have HXe := Lib.hid (show X = (Pa.exAgg 1 [], s3) by rw [← HX.out, Pa.countP, HK1.out, HK2.out, if_pos rfl, HK3.out])
  clear hb
  obtain ⟨c0, c1, c2, c3, c4, c5, c6, c7⟩ := cl8 (w := v9) (HU9.out)
  have fc0 := (HU9.out).frozen 0
  have fc1 := (HU9.out).frozen 1
  have fc2 := (HU9.out).frozen 2
  have fc3 := (HU9.out).frozen 3
  have fc4 := (HU9.out).frozen 4
  have fc5 := (HU9.out).frozen 5
  have fc6 := (HU9.out).frozen 6
  have fc7 := (HU9.out).frozen 7
  go_wp2_with fail
  exact bodyPost_ret (v := XV (hdA 1) A9 0 cap9) (by simp [results, Tryz.results175, go_sem, c0, c1, c2, c3, c4, c5, c6, c7]) rfl (by rw [HXe.out]; exact RuE.fin (c := xcell ((hdA 1), A9, 0, cap9)) exC_ok HUl.out HmU.out HM9.out HR9.out (show exC _ _ (Pa.exAgg 1 []) _ from ⟨_, rfl, rfl, rfl, Nat.zero_le _, by show XsB _ _ [] _; rw [XsB]; trivial⟩) (OnU.refl _ _).set.set.set.set.set.set.set.set)
 | false =>
  obtain rfl := hno2 rfl
  clear hno2
  go_wp2_with fail
  refine HT2.out.mono ?_
  rintro e v2 ⟨rfl, hR, hM⟩
  have HMn2 := Lib.hid (HMn1.out.trans hM)
  have HUn2 := Lib.hid (HUn1.out.but HmU.out hM)
  have HRn2 := Lib.hid hR
  clear hR hM
  have HT3 := Lib.hid (HOo.out s2 v2 HRn2.out (by omega))
  obtain ⟨⟨x3, s3⟩, hs3⟩ : ∃ q, Pa.enclP (Pa.lev F 0) s2 = q := ⟨_, rfl⟩
  rw [hs3] at HT3
  have HK3 := Lib.hid hs3
  clear hs3
  simp only at HT3
  go_wp2_with fail
  refine HT3.out.mono ?_
  have HUs := Lib.hid (show U + 1 ≤ v2.heap.size from HUn2.out.lt)
  intro e v3 hE
  obtain ⟨A3, cap3, rfl, hC, hR, hM⟩ := RuE.ev hE
  clear hE
  have HMn3 := Lib.hid (HMn2.out.trans hM)
  have HUn3 := Lib.hid (HUn2.out.but HmU.out hM)
  have HRn3 := Lib.hid hR
  have HC3 := Lib.hid (exC_ok.wide (a' := U + 1) (b' := v3.heap.size) HUs.out (Nat.le_refl _) hC)
  clear hC hR hM
  clear hN hle
  obtain ⟨hd3, l3⟩ := x3
  simp only [Ex.hd, Ex.kids] at HC3 ⊢
  go_wp2_with fail
  have hbx := ba v3 (xbox hd3 A3 l3.length cap3)
  have HCm := Lib.hid (exC_one (B' := Bt (U + 1) (v3.heap.size + 1)) (⟨4, 2, 0, 0, ⟨#[]⟩, ⟨#[]⟩, ⟨#[]⟩⟩ : Hd) HC3.out (fun k hk => ⟨hk.2, hk.1, Nat.lt_succ_of_lt hk.2⟩) ⟨HUn3.out.lt, Nat.lt_succ_self _⟩ 37)
  have HMx := Lib.hid (HMn3.out.trans (ButM.of hbx))
  have HRx := Lib.hid (HRn3.out.next hbx)
  have HUx := Lib.hid (HUn3.out.next hbx)
  clear hbx
  refine (pmade_any 4 2 (some ⟨v3.heap.size, 0, none⟩) 1 1 _).mono ?_
  rintro e v9 ⟨rfl, hb⟩
  have HM9 := Lib.hid (HMx.out.trans (ButM.of hb))
  have HU9 := Lib.hid (HUx.out.next hb)
  have HR9 := Lib.hid (HRx.out.next hb)
  have HC9 := Lib.hid (show exC (Bt (U + 1) v9.heap.size) v9 (.mk (⟨4, 2, 0, 0, ⟨#[]⟩, ⟨#[]⟩, ⟨#[]⟩⟩ : Hd) [.mk hd3 l3]) (xcell ((⟨4, 2, 0, 0, ⟨#[]⟩, ⟨#[]⟩, ⟨#[]⟩⟩ : Hd), some ⟨v3.heap.size, 0, none⟩, 1, 1)) from exC_ok.wide (Nat.le_refl _) (by have := hb.size; rw [World.size_alloc] at this; omega) (exC_ok.keep hb (by rw [World.size_alloc]; exact Nat.le_refl _) HCm.out))
  have HXe := Lib.hid (show X = (.mk (⟨4, 2, 0, 0, ⟨#[]⟩, ⟨#[]⟩, ⟨#[]⟩⟩ : Hd) [.mk hd3 l3], s3) by rw [← HX.out, Pa.countP, HK1.out, HK2.out, if_neg (by simp), Pa.aggP, HK1.out, HK3.out]; rfl)
  clear hb
  obtain ⟨c0, c1, c2, c3, c4, c5, c6, c7⟩ := cl8 (w := v9) (HU9.out)
  have fc0 := (HU9.out).frozen 0
  have fc1 := (HU9.out).frozen 1
  have fc2 := (HU9.out).frozen 2
  have fc3 := (HU9.out).frozen 3
  have fc4 := (HU9.out).frozen 4
  have fc5 := (HU9.out).frozen 5
  have fc6 := (HU9.out).frozen 6
  have fc7 := (HU9.out).frozen 7
  go_wp2_with fail
  exact bodyPost_ret (v := XV (⟨4, 2, 0, 0, ⟨#[]⟩, ⟨#[]⟩, ⟨#[]⟩⟩ : Hd) (some ⟨v3.heap.size, 0, none⟩) 1 1) (by simp [results, Tryz.results175, go_sem, c0, c1, c2, c3, c4, c5, c6, c7]) rfl (by rw [HXe.out]; exact RuE.fin (c := xcell ((⟨4, 2, 0, 0, ⟨#[]⟩, ⟨#[]⟩, ⟨#[]⟩⟩ : Hd), (some ⟨v3.heap.size, 0, none⟩), 1, 1)) exC_ok HUl.out HmU.out HM9.out HR9.out HC9.out (OnU.refl _ _).set.set.set.set.set.set.set.set)
end Go.Proofs.YtfjimoccliejdaaGreatDoor
end
