/-
  Rules of queries: a part.
-/
import Derived.Test.YtfjimoccliejdaaGreatDoorE14
section
namespace Go.Proofs.YtfjimoccliejdaaGreatDoor
open Go.RowKit Go.Shelf

theorem BxU.set1 {w : World} {V : Nat} {cs : Array Value} {T : TypeId} (h : BxU w V cs T) (j : Nat) (v : Value) : BxU (w.setCell ⟨V, j, none⟩ v) V (cs.setIfInBounds j v) T := by
 unfold BxU at h ⊢
 simp [World.setCell, Array.getElem?_modify, h]
theorem itC_of {B : Nat → Prop} {w : World} {i : Pa.Itm} {h : Hd} {A : Option Addr} {n cp : Nat} {s : Bool} {b : Lx.B} (hs : i.star = s) (hb : i.nm = b) (hx : exC B w i.e (xcell (h, A, n, cp))) : itC B w i (.bool s :: (xcell (h, A, n, cp) ++ [st b])) := by
 subst hs hb
 obtain ⟨x, hc, hx⟩ := hx
 exact ⟨x, by rw [hc], hx⟩
theorem BxU.off {w w' : World} {U V : Nat} {cs : Array Value} {T : TypeId} (h : BxU w U cs T) (hUV : U ≠ V) (hO : OnU V w w') : BxU w' U cs T := by
 unfold BxU at h ⊢
 exact (hO.block U hUV).trans h
set_option maxRecDepth 100000 in
set_option maxHeartbeats 4000000 in
theorem pitem_any (F m N : Nat) (HO : Ok 29 (Pa.lev F 0) m N) : OkP itC 78 (Pa.itemP (Pa.lev F 0)) m N := by
 intro s w h hN
 have HOo := Lib.hid HO
 clear HO
 have HB := Lib.hid (ba w (.cells #[.bool false, .int .i64 0, .int .i64 0, .int .i64 0, .int .i64 0, .string ⟨#[]⟩, .string ⟨#[]⟩, .string ⟨#[]⟩, .slice none 0 0, .string ⟨#[]⟩] 49))
 have HU := Lib.hid (show BxU _ _ #[.bool false, .int .i64 0, .int .i64 0, .int .i64 0, .int .i64 0, .string ⟨#[]⟩, .string ⟨#[]⟩, .string ⟨#[]⟩, .slice none 0 0, .string ⟨#[]⟩] 49 from (MapKept.heap_alloc w (.cells #[.bool false, .int .i64 0, .int .i64 0, .int .i64 0, .int .i64 0, .string ⟨#[]⟩, .string ⟨#[]⟩, .string ⟨#[]⟩, .slice none 0 0, .string ⟨#[]⟩] 49)).1)
 have H1 := Lib.hid (h.next HB.out)
 have hmU := h.lt
 have HFin := Lib.hid h.fin
 obtain ⟨U, hU⟩ : ∃ U, w.heap.size = U := ⟨_, rfl⟩
 have HUl := Lib.hid hU
 have HSz := Lib.hid (show (w.alloc (.cells #[.bool false, .int .i64 0, .int .i64 0, .int .i64 0, .int .i64 0, .string ⟨#[]⟩, .string ⟨#[]⟩, .string ⟨#[]⟩, .slice none 0 0, .string ⟨#[]⟩] 49)).heap.size = U + 1 by rw [World.size_alloc, hU])
 rw [hU] at HU hmU
 have HmU := Lib.hid hmU
 obtain ⟨X, hX⟩ : ∃ X, Pa.itemP (Pa.lev F 0) s = X := ⟨_, rfl⟩
 rw [hX]
 have HX := Lib.hid hX
 clear h hX hmU
 go_enter Tryz.func78, Tryz.ntmps78
 go_wp2_with fail
 generalize w.alloc (.cells #[.bool false, .int .i64 0, .int .i64 0, .int .i64 0, .int .i64 0, .string ⟨#[]⟩, .string ⟨#[]⟩, .string ⟨#[]⟩, .slice none 0 0, .string ⟨#[]⟩] 49) = W1 at HB HU H1 HSz ⊢
 clear hU
 have HM1 := Lib.hid (show ButM m w W1 from ButM.of HB.out)
 have HT1 := Lib.hid (take_any m s [42] W1 H1.out)
 obtain ⟨t1, ht⟩ : ∃ z, (Pa.takeW [42] s).1 = z := ⟨_, rfl⟩
 obtain ⟨s1, hs⟩ : ∃ z, (Pa.takeW [42] s).2 = z := ⟨_, rfl⟩
 have hno1 := (Pa.takeW_le [42] H1.out.fin).2.2
 rw [ht, hs] at HT1 hno1
 have HK1 := Lib.hid (show Pa.takeW [42] s = (t1, s1) by rw [← ht, ← hs])
 clear ht hs
 cases t1 with
 | true =>
  clear hN
  clear hno1
  go_wp2_with fail
  refine HT1.out.mono ?_
  rintro e v1 ⟨rfl, hR, hM⟩
  have HMn1 := Lib.hid (HM1.out.trans hM)
  have HUn1 := Lib.hid (HU.out.but HmU.out hM)
  have HRn1 := Lib.hid hR
  clear hR hM
  have HXe := Lib.hid (show X = (⟨true, Pa.exZ, []⟩, s1) by rw [← HX.out, Pa.itemP, HK1.out, if_pos rfl])
  obtain ⟨c0, c1, c2, c3, c4, c5, c6, c7, c8, c9⟩ := cl10 (w := v1) (HUn1.out)
  have fc0 := (HUn1.out).frozen 0
  have fc1 := (HUn1.out).frozen 1
  have fc2 := (HUn1.out).frozen 2
  have fc3 := (HUn1.out).frozen 3
  have fc4 := (HUn1.out).frozen 4
  have fc5 := (HUn1.out).frozen 5
  have fc6 := (HUn1.out).frozen 6
  have fc7 := (HUn1.out).frozen 7
  have fc8 := (HUn1.out).frozen 8
  have fc9 := (HUn1.out).frozen 9
  go_wp2_with fail
  exact bodyPost_ret (v := .agg #[.bool true, .int .i64 0, .int .i64 0, .int .i64 0, .int .i64 0, .string ⟨#[]⟩, .string ⟨#[]⟩, .string ⟨#[]⟩, .slice none 0 0, .string ⟨#[]⟩]) (by simp [results, Tryz.results78, go_sem, c0, c1, c2, c3, c4, c5, c6, c7, c8, c9]) rfl (by rw [HXe.out]; exact RuE.fin (c := [.bool true, .int .i64 0, .int .i64 0, .int .i64 0, .int .i64 0, .string ⟨#[]⟩, .string ⟨#[]⟩, .string ⟨#[]⟩, .slice none 0 0, .string ⟨#[]⟩]) itC_ok HUl.out HmU.out HMn1.out HRn1.out (show itC _ _ (⟨true, Pa.exZ, []⟩ : Pa.Itm) _ from ⟨(⟨0, 0, 0, 0, ⟨#[]⟩, ⟨#[]⟩, ⟨#[]⟩⟩, none, 0, 0), rfl, rfl, rfl, Nat.le_refl _, by show XsB _ _ [] _; rw [XsB]; trivial⟩) (OnU.refl _ _).set.set.set.set.set.set.set.set.set.set)
 | false =>
  obtain rfl := hno1 rfl
  clear hno1
  go_wp2_with fail
  refine HT1.out.mono ?_
  rintro e v1 ⟨rfl, hR, hM⟩
  have HMn1 := Lib.hid (HM1.out.trans hM)
  have HUn1 := Lib.hid (HU.out.but HmU.out hM)
  have HRn1 := Lib.hid hR
  clear hR hM
  have HT2 := Lib.hid (HOo.out s1 v1 HRn1.out hN)
  obtain ⟨⟨x2, s2⟩, hs2⟩ : ∃ q, Pa.lev F 0 s1 = q := ⟨_, rfl⟩
  rw [hs2] at HT2
  have HK2 := Lib.hid hs2
  clear hs2
  simp only at HT2
  go_wp2_with fail
  refine HT2.out.mono ?_
  have HUs := Lib.hid (show U + 1 ≤ v1.heap.size from HUn1.out.lt)
  intro e v2 hE
  obtain ⟨A2, cap2, rfl, hC, hR, hM⟩ := RuE.ev hE
  clear hE
  have HMn2 := Lib.hid (HMn1.out.trans hM)
  have HUn2 := Lib.hid (HUn1.out.but HmU.out hM)
  have HRn2 := Lib.hid hR
  have HC2 := Lib.hid (exC_ok.wide (a' := U + 1) (b' := v2.heap.size) HUs.out (Nat.le_refl _) hC)
  clear hC hR hM hN
  obtain ⟨hd2, l2⟩ := x2
  simp only [Ex.hd, Ex.kids] at HC2 ⊢
  have hbva := ba v2 (.cells #[.bool false, .int .i64 hd2.k, .int .i64 hd2.n, .int .i64 hd2.vk, .int .i64 hd2.vn, .string hd2.vs, .string hd2.tab, .string hd2.col, .slice A2 l2.length cap2, .string ⟨#[]⟩] 49)
  have HVva := Lib.hid (show BxU (v2.alloc (.cells #[.bool false, .int .i64 hd2.k, .int .i64 hd2.n, .int .i64 hd2.vk, .int .i64 hd2.vn, .string hd2.vs, .string hd2.tab, .string hd2.col, .slice A2 l2.length cap2, .string ⟨#[]⟩] 49)) v2.heap.size #[.bool false, .int .i64 hd2.k, .int .i64 hd2.n, .int .i64 hd2.vk, .int .i64 hd2.vn, .string hd2.vs, .string hd2.tab, .string hd2.col, .slice A2 l2.length cap2, .string ⟨#[]⟩] 49 from (MapKept.heap_alloc v2 (.cells #[.bool false, .int .i64 hd2.k, .int .i64 hd2.n, .int .i64 hd2.vk, .int .i64 hd2.vn, .string hd2.vs, .string hd2.tab, .string hd2.col, .slice A2 l2.length cap2, .string ⟨#[]⟩] 49)).1)
  have HRva := Lib.hid (HRn2.out.next hbva)
  have HMva := Lib.hid (HMn2.out.trans (ButM.of hbva))
  have HUva := Lib.hid (HUn2.out.next hbva)
  have HsV := Lib.hid (show v2.heap.size + 1 ≤ (v2.alloc (.cells #[.bool false, .int .i64 hd2.k, .int .i64 hd2.n, .int .i64 hd2.vk, .int .i64 hd2.vn, .string hd2.vs, .string hd2.tab, .string hd2.col, .slice A2 l2.length cap2, .string ⟨#[]⟩] 49)).heap.size by rw [World.size_alloc]; exact Nat.le_refl _)
  obtain ⟨V, hV⟩ : ∃ V, v2.heap.size = V := ⟨_, rfl⟩
  have HVl := Lib.hid hV
  have HmV := Lib.hid (show m < V by rw [← hV]; exact HRn2.out.lt)
  have HUV := Lib.hid (show U < V by rw [← hV]; exact HUn2.out.lt)
  rw [hV] at HVva HsV
  have HCv := Lib.hid (exC_ok.keep (a := U + 1) (b := V) hbva (by rw [HVl.out]; exact Nat.le_refl _) (by rw [HVl.out] at HC2; exact HC2.out))
  clear hbva
  go_wp2_with fail
  clear hV
  generalize (v2.alloc (.cells #[.bool false, .int .i64 hd2.k, .int .i64 hd2.n, .int .i64 hd2.vk, .int .i64 hd2.vn, .string hd2.vs, .string hd2.tab, .string hd2.col, .slice A2 l2.length cap2, .string ⟨#[]⟩] 49)) = W5 at HVva HRva HMva HUva HsV HCv ⊢
  have HT3 := Lib.hid (take_any m s2 Pa.wAS W5 HRva.out)
  obtain ⟨t3, ht⟩ : ∃ z, (Pa.takeW Pa.wAS s2).1 = z := ⟨_, rfl⟩
  obtain ⟨s3, hs⟩ : ∃ z, (Pa.takeW Pa.wAS s2).2 = z := ⟨_, rfl⟩
  have hno3 := (Pa.takeW_le Pa.wAS HRva.out.fin).2.2
  rw [ht, hs] at HT3 hno3
  have HK3 := Lib.hid (show Pa.takeW Pa.wAS s2 = (t3, s3) by rw [← ht, ← hs])
  clear ht hs
  cases t3 with
  | true =>
   clear hno3
   go_wp2_with fail
   refine HT3.out.mono ?_
   rintro e v3 ⟨rfl, hR, hM⟩
   have HMn3 := Lib.hid (HMva.out.trans hM)
   have HUn3 := Lib.hid (HUva.out.but HmU.out hM)
   have HVn3 := Lib.hid (HVva.out.but HmV.out hM)
   have HRn3 := Lib.hid hR
   have HCn3 := Lib.hid (exC_ok.keepM (a := U + 1) (b := V) hM (Nat.lt_succ_of_lt HmU.out) (Nat.le_of_succ_le HsV.out) HCv.out)
   have HSn3 := Lib.hid (show V + 1 ≤ v3.heap.size from Nat.le_trans HsV.out hM.size)
   clear hR hM
   have HT4 := Lib.hid (pname_any m s3 v3 HRn3.out)
   obtain ⟨⟨b4, s4⟩, hs4⟩ : ∃ q, Pa.nameP s3 = q := ⟨_, rfl⟩
   rw [hs4] at HT4
   have HK4 := Lib.hid hs4
   clear hs4
   simp only at HT4
   go_wp2_with fail
   refine HT4.out.mono ?_
   rintro e v4 ⟨rfl, hR, hM⟩
   have HMn4 := Lib.hid (HMn3.out.trans hM)
   have HUn4 := Lib.hid (HUn3.out.but HmU.out hM)
   have HVn4 := Lib.hid (HVn3.out.but HmV.out hM)
   have HRn4 := Lib.hid hR
   have HCn4 := Lib.hid (exC_ok.keepM (a := U + 1) (b := V) hM (Nat.lt_succ_of_lt HmU.out) (Nat.le_of_succ_le HSn3.out) HCn3.out)
   have HSn4 := Lib.hid (show V + 1 ≤ v4.heap.size from Nat.le_trans HSn3.out hM.size)
   clear hR hM
   obtain ⟨d0, d1, d2, d3, d4, d5, d6, d7, d8, d9⟩ := cl10 (w := v4) HVn4.out
   have fd9 := HVn4.out.frozen 9
   have hUneV : U ≠ V := Nat.ne_of_lt HUV.out
   have hVneU := hUneV.symm
   have HXe := Lib.hid (show X = (⟨false, .mk hd2 l2, b4⟩, s4) by rw [← HX.out, Pa.itemP, HK1.out, if_neg (by simp), HK2.out, Pa.asP, HK3.out, if_pos rfl, HK4.out])
   have HO9 := Lib.hid ((OnU.refl V v4).set (j := 9) (v := st b4))
   have HU9 := Lib.hid (HUn4.out.off hUneV HO9.out)
   have HR9 := Lib.hid (HO9.out.rs HmV.out HRn4.out)
   have HM9 := Lib.hid (HO9.out.but (by rw [HUl.out]; exact Nat.le_of_lt HUV.out) HMn4.out)
   have HC9 := Lib.hid (exC_ok.wide (a' := U + 1) (b' := (v4.setCell ⟨V, 9, none⟩ (st b4)).heap.size) (Nat.le_refl _) (by rw [HO9.out.size]; exact Nat.le_of_succ_le HSn4.out) (HO9.out.lay exC_ok (.inr (Nat.le_refl _)) HCn4.out))
   obtain ⟨c0, c1, c2, c3, c4, c5, c6, c7, c8, c9⟩ := cl10 (w := ((v4.setCell ⟨V, 9, none⟩ (st b4)))) (HU9.out)
   have fc0 := (HU9.out).frozen 0
   have fc1 := (HU9.out).frozen 1
   have fc2 := (HU9.out).frozen 2
   have fc3 := (HU9.out).frozen 3
   have fc4 := (HU9.out).frozen 4
   have fc5 := (HU9.out).frozen 5
   have fc6 := (HU9.out).frozen 6
   have fc7 := (HU9.out).frozen 7
   have fc8 := (HU9.out).frozen 8
   have fc9 := (HU9.out).frozen 9
   go_wp2_with fail
   exact bodyPost_ret (v := .agg #[.bool false, .int .i64 hd2.k, .int .i64 hd2.n, .int .i64 hd2.vk, .int .i64 hd2.vn, .string hd2.vs, .string hd2.tab, .string hd2.col, .slice A2 l2.length cap2, st b4]) (by simp [results, Tryz.results78, go_sem, c0, c1, c2, c3, c4, c5, c6, c7, c8, c9]) rfl (by rw [HXe.out]; exact RuE.fin (c := [.bool false, .int .i64 hd2.k, .int .i64 hd2.n, .int .i64 hd2.vk, .int .i64 hd2.vn, .string hd2.vs, .string hd2.tab, .string hd2.col, .slice A2 l2.length cap2, st b4]) itC_ok HUl.out HmU.out HM9.out HR9.out (itC_of (i := ⟨false, .mk hd2 l2, b4⟩) rfl rfl HC9.out) (OnU.refl _ _).set.set.set.set.set.set.set.set.set.set)
  | false =>
   obtain rfl := hno3 rfl
   clear hno3
   go_wp2_with fail
   refine HT3.out.mono ?_
   rintro e v3 ⟨rfl, hR, hM⟩
   have HMn3 := Lib.hid (HMva.out.trans hM)
   have HUn3 := Lib.hid (HUva.out.but HmU.out hM)
   have HVn3 := Lib.hid (HVva.out.but HmV.out hM)
   have HRn3 := Lib.hid hR
   have HCn3 := Lib.hid (exC_ok.keepM (a := U + 1) (b := V) hM (Nat.lt_succ_of_lt HmU.out) (Nat.le_of_succ_le HsV.out) HCv.out)
   have HSn3 := Lib.hid (show V + 1 ≤ v3.heap.size from Nat.le_trans HsV.out hM.size)
   clear hR hM
   obtain ⟨d0, d1, d2, d3, d4, d5, d6, d7, d8, d9⟩ := cl10 (w := v3) HVn3.out
   have fd9 := HVn3.out.frozen 9
   have hUneV : U ≠ V := Nat.ne_of_lt HUV.out
   have hVneU := hUneV.symm
   have HXe := Lib.hid (show X = (⟨false, .mk hd2 l2, []⟩, s3) by rw [← HX.out, Pa.itemP, HK1.out, if_neg (by simp), HK2.out, Pa.asP, HK3.out, if_neg (by simp)])
   have HC9 := Lib.hid (exC_ok.wide (a' := U + 1) (b' := v3.heap.size) (Nat.le_refl _) (Nat.le_of_succ_le HSn3.out) HCn3.out)
   obtain ⟨c0, c1, c2, c3, c4, c5, c6, c7, c8, c9⟩ := cl10 (w := v3) (HUn3.out)
   have fc0 := (HUn3.out).frozen 0
   have fc1 := (HUn3.out).frozen 1
   have fc2 := (HUn3.out).frozen 2
   have fc3 := (HUn3.out).frozen 3
   have fc4 := (HUn3.out).frozen 4
   have fc5 := (HUn3.out).frozen 5
   have fc6 := (HUn3.out).frozen 6
   have fc7 := (HUn3.out).frozen 7
   have fc8 := (HUn3.out).frozen 8
   have fc9 := (HUn3.out).frozen 9
   go_wp2_with fail
   exact bodyPost_ret (v := .agg #[.bool false, .int .i64 hd2.k, .int .i64 hd2.n, .int .i64 hd2.vk, .int .i64 hd2.vn, .string hd2.vs, .string hd2.tab, .string hd2.col, .slice A2 l2.length cap2, .string ⟨#[]⟩]) (by simp [results, Tryz.results78, go_sem, c0, c1, c2, c3, c4, c5, c6, c7, c8, c9]) rfl (by rw [HXe.out]; exact RuE.fin (c := [.bool false, .int .i64 hd2.k, .int .i64 hd2.n, .int .i64 hd2.vk, .int .i64 hd2.vn, .string hd2.vs, .string hd2.tab, .string hd2.col, .slice A2 l2.length cap2, .string ⟨#[]⟩]) itC_ok HUl.out HmU.out HMn3.out HRn3.out (itC_of (i := ⟨false, .mk hd2 l2, []⟩) rfl rfl HC9.out) (OnU.refl _ _).set.set.set.set.set.set.set.set.set.set)
end Go.Proofs.YtfjimoccliejdaaGreatDoor
end
section
namespace Go.Proofs.YtfjimoccliejdaaGreatDoor
open Go.RowKit Go.Shelf

theorem exZ_at (B : Nat → Prop) (w : World) : exC B w Pa.exZ (xcell (⟨0, 0, 0, 0, ⟨#[]⟩, ⟨#[]⟩, ⟨#[]⟩⟩, none, 0, 0)) := exC_leaf B w _
theorem srC_of {B : Nat → Prop} {w : World} {s : Pa.Src} {h : Hd} {A : Option Addr} {n cp : Nat} {t b : Lx.B} {j : Nat} (ht : s.tb = t) (hb : s.nm = b) (hj : s.join = j) (hx : exC B w s.on (xcell (h, A, n, cp))) : srC B w s (st t :: st b :: .int .i64 j :: xcell (h, A, n, cp)) := by
 subst ht hb hj
 obtain ⟨x, hc, hx⟩ := hx
 exact ⟨x, by rw [hc], hx⟩
set_option maxRecDepth 100000 in
set_option maxHeartbeats 4000000 in
theorem pkey_any (m : Nat) (s : Pa.Ps) (w : World) (h : RS m w s) : Calls Tryz.prog 45 #[.pointer (some ⟨m, 0, none⟩)] w (RuE kyC m w (Pa.keyP s).1 (Pa.keyP s).2) := by
 have HB := Lib.hid (ba w (.cells #[.string ⟨#[]⟩, .bool false] 54))
 have HU := Lib.hid (show BxU _ _ #[.string ⟨#[]⟩, .bool false] 54 from (MapKept.heap_alloc w (.cells #[.string ⟨#[]⟩, .bool false] 54)).1)
 have H1 := Lib.hid (h.next HB.out)
 have hmU := h.lt
 have HFin := Lib.hid h.fin
 obtain ⟨U, hU⟩ : ∃ U, w.heap.size = U := ⟨_, rfl⟩
 have HUl := Lib.hid hU
 have HSz := Lib.hid (show (w.alloc (.cells #[.string ⟨#[]⟩, .bool false] 54)).heap.size = U + 1 by rw [World.size_alloc, hU])
 rw [hU] at HU hmU
 have HmU := Lib.hid hmU
 obtain ⟨X, hX⟩ : ∃ X, Pa.keyP s = X := ⟨_, rfl⟩
 rw [hX]
 have HX := Lib.hid hX
 clear h hX hmU
 go_enter Tryz.func45, Tryz.ntmps45
 go_wp2_with fail
 generalize w.alloc (.cells #[.string ⟨#[]⟩, .bool false] 54) = W1 at HB HU H1 HSz ⊢
 clear hU
 have HM1 := Lib.hid (show ButM m w W1 from ButM.of HB.out)
 have HT1 := Lib.hid (pname_any m s W1 H1.out)
 obtain ⟨⟨b1, s1⟩, hs1⟩ : ∃ q, Pa.nameP s = q := ⟨_, rfl⟩
 rw [hs1] at HT1
 have HK1 := Lib.hid hs1
 clear hs1
 simp only at HT1
 go_wp2_with fail
 refine HT1.out.mono ?_
 rintro e v1 ⟨rfl, hR, hM⟩
 have HMn1 := Lib.hid (HM1.out.trans hM)
 have HUn1 := Lib.hid (HU.out.but HmU.out hM)
 have HRn1 := Lib.hid hR
 clear hR hM
 have HT2 := Lib.hid (take_any m s1 Pa.wDESC v1 HRn1.out)
 obtain ⟨t2, ht⟩ : ∃ z, (Pa.takeW Pa.wDESC s1).1 = z := ⟨_, rfl⟩
 obtain ⟨s2, hs⟩ : ∃ z, (Pa.takeW Pa.wDESC s1).2 = z := ⟨_, rfl⟩
 have hno2 := (Pa.takeW_le Pa.wDESC HRn1.out.fin).2.2
 rw [ht, hs] at HT2 hno2
 have HK2 := Lib.hid (show Pa.takeW Pa.wDESC s1 = (t2, s2) by rw [← ht, ← hs])
 clear ht hs
 clear hno2
 go_wp2_with fail
 refine HT2.out.mono ?_
 rintro e v2 ⟨rfl, hR, hM⟩
 have HMn2 := Lib.hid (HMn1.out.trans hM)
 have HUn2 := Lib.hid (HUn1.out.but HmU.out hM)
 have HRn2 := Lib.hid hR
 clear hR hM
 have HXe := Lib.hid (show X = (⟨b1, t2⟩, s2) by rw [← HX.out, Pa.keyP, HK1.out, HK2.out])
 have c0 : (v2).cell? ⟨U, 0, none⟩ = some (.string ⟨#[]⟩) := (HUn2.out).cell 0
 have c1 : (v2).cell? ⟨U, 1, none⟩ = some (.bool false) := (HUn2.out).cell 1
 have fc0 := (HUn2.out).frozen 0
 have fc1 := (HUn2.out).frozen 1
 go_wp2_with fail
 exact bodyPost_ret (v := .agg #[st b1, .bool t2]) (by simp [results, Tryz.results45, go_sem, c0, c1]) rfl (by rw [HXe.out]; exact RuE.fin (c := [st b1, .bool t2]) kyC_ok HUl.out HmU.out HMn2.out HRn2.out (show kyC _ _ (⟨b1, t2⟩ : Pa.Ky) _ from rfl) (OnU.refl _ _).set.set)
set_option maxRecDepth 100000 in
set_option maxHeartbeats 4000000 in
theorem psource_any (m : Nat) (s : Pa.Ps) (w : World) (h : RS m w s) : Calls Tryz.prog 128 #[.pointer (some ⟨m, 0, none⟩)] w (RuE srC m w (Pa.sourceP s).1 (Pa.sourceP s).2) := by
 have HB := Lib.hid (ba w (.cells #[.string ⟨#[]⟩, .string ⟨#[]⟩, .int .i64 0, .int .i64 0, .int .i64 0, .int .i64 0, .int .i64 0, .string ⟨#[]⟩, .string ⟨#[]⟩, .string ⟨#[]⟩, .slice none 0 0] 51))
 have HU := Lib.hid (show BxU _ _ #[.string ⟨#[]⟩, .string ⟨#[]⟩, .int .i64 0, .int .i64 0, .int .i64 0, .int .i64 0, .int .i64 0, .string ⟨#[]⟩, .string ⟨#[]⟩, .string ⟨#[]⟩, .slice none 0 0] 51 from (MapKept.heap_alloc w (.cells #[.string ⟨#[]⟩, .string ⟨#[]⟩, .int .i64 0, .int .i64 0, .int .i64 0, .int .i64 0, .int .i64 0, .string ⟨#[]⟩, .string ⟨#[]⟩, .string ⟨#[]⟩, .slice none 0 0] 51)).1)
 have H1 := Lib.hid (h.next HB.out)
 have hmU := h.lt
 have HFin := Lib.hid h.fin
 obtain ⟨U, hU⟩ : ∃ U, w.heap.size = U := ⟨_, rfl⟩
 have HUl := Lib.hid hU
 have HSz := Lib.hid (show (w.alloc (.cells #[.string ⟨#[]⟩, .string ⟨#[]⟩, .int .i64 0, .int .i64 0, .int .i64 0, .int .i64 0, .int .i64 0, .string ⟨#[]⟩, .string ⟨#[]⟩, .string ⟨#[]⟩, .slice none 0 0] 51)).heap.size = U + 1 by rw [World.size_alloc, hU])
 rw [hU] at HU hmU
 have HmU := Lib.hid hmU
 obtain ⟨X, hX⟩ : ∃ X, Pa.sourceP s = X := ⟨_, rfl⟩
 rw [hX]
 have HX := Lib.hid hX
 clear h hX hmU
 go_enter Tryz.func128, Tryz.ntmps128
 go_wp2_with fail
 generalize w.alloc (.cells #[.string ⟨#[]⟩, .string ⟨#[]⟩, .int .i64 0, .int .i64 0, .int .i64 0, .int .i64 0, .int .i64 0, .string ⟨#[]⟩, .string ⟨#[]⟩, .string ⟨#[]⟩, .slice none 0 0] 51) = W1 at HB HU H1 HSz ⊢
 clear hU
 have HM1 := Lib.hid (show ButM m w W1 from ButM.of HB.out)
 have HT1 := Lib.hid (pname_any m s W1 H1.out)
 obtain ⟨⟨b1, s1⟩, hs1⟩ : ∃ q, Pa.nameP s = q := ⟨_, rfl⟩
 rw [hs1] at HT1
 have HK1 := Lib.hid hs1
 clear hs1
 simp only at HT1
 go_wp2_with fail
 refine HT1.out.mono ?_
 rintro e v1 ⟨rfl, hR, hM⟩
 have HMn1 := Lib.hid (HM1.out.trans hM)
 have HUn1 := Lib.hid (HU.out.but HmU.out hM)
 have HRn1 := Lib.hid hR
 clear hR hM
 have hbva := ba v1 (.cells #[st b1, st b1, .int .i64 0, .int .i64 0, .int .i64 0, .int .i64 0, .int .i64 0, .string ⟨#[]⟩, .string ⟨#[]⟩, .string ⟨#[]⟩, .slice none 0 0] 51)
 have HVva := Lib.hid (show BxU (v1.alloc (.cells #[st b1, st b1, .int .i64 0, .int .i64 0, .int .i64 0, .int .i64 0, .int .i64 0, .string ⟨#[]⟩, .string ⟨#[]⟩, .string ⟨#[]⟩, .slice none 0 0] 51)) v1.heap.size #[st b1, st b1, .int .i64 0, .int .i64 0, .int .i64 0, .int .i64 0, .int .i64 0, .string ⟨#[]⟩, .string ⟨#[]⟩, .string ⟨#[]⟩, .slice none 0 0] 51 from (MapKept.heap_alloc v1 (.cells #[st b1, st b1, .int .i64 0, .int .i64 0, .int .i64 0, .int .i64 0, .int .i64 0, .string ⟨#[]⟩, .string ⟨#[]⟩, .string ⟨#[]⟩, .slice none 0 0] 51)).1)
 have HRva := Lib.hid (HRn1.out.next hbva)
 have HMva := Lib.hid (HMn1.out.trans (ButM.of hbva))
 have HUva := Lib.hid (HUn1.out.next hbva)
 have HsV := Lib.hid (show v1.heap.size + 1 ≤ (v1.alloc (.cells #[st b1, st b1, .int .i64 0, .int .i64 0, .int .i64 0, .int .i64 0, .int .i64 0, .string ⟨#[]⟩, .string ⟨#[]⟩, .string ⟨#[]⟩, .slice none 0 0] 51)).heap.size by rw [World.size_alloc]; exact Nat.le_refl _)
 obtain ⟨V, hV⟩ : ∃ V, v1.heap.size = V := ⟨_, rfl⟩
 have HVl := Lib.hid hV
 have HmV := Lib.hid (show m < V by rw [← hV]; exact HRn1.out.lt)
 have HUV := Lib.hid (show U < V by rw [← hV]; exact HUn1.out.lt)
 rw [hV] at HVva HsV
 clear hbva
 go_wp2_with fail
 clear hV
 generalize (v1.alloc (.cells #[st b1, st b1, .int .i64 0, .int .i64 0, .int .i64 0, .int .i64 0, .int .i64 0, .string ⟨#[]⟩, .string ⟨#[]⟩, .string ⟨#[]⟩, .slice none 0 0] 51)) = W5 at HVva HRva HMva HUva HsV ⊢
 have HT2 := Lib.hid (take_any m s1 Pa.wAS W5 HRva.out)
 obtain ⟨t2, ht⟩ : ∃ z, (Pa.takeW Pa.wAS s1).1 = z := ⟨_, rfl⟩
 obtain ⟨s2, hs⟩ : ∃ z, (Pa.takeW Pa.wAS s1).2 = z := ⟨_, rfl⟩
 have hno2 := (Pa.takeW_le Pa.wAS HRva.out.fin).2.2
 rw [ht, hs] at HT2 hno2
 have HK2 := Lib.hid (show Pa.takeW Pa.wAS s1 = (t2, s2) by rw [← ht, ← hs])
 clear ht hs
 cases t2 with
 | true =>
  clear hno2
  go_wp2_with fail
  refine HT2.out.mono ?_
  rintro e v2 ⟨rfl, hR, hM⟩
  have HMn2 := Lib.hid (HMva.out.trans hM)
  have HUn2 := Lib.hid (HUva.out.but HmU.out hM)
  have HVn2 := Lib.hid (HVva.out.but HmV.out hM)
  have HRn2 := Lib.hid hR
  clear hR hM
  have HT3 := Lib.hid (pname_any m s2 v2 HRn2.out)
  obtain ⟨⟨b3, s3⟩, hs3⟩ : ∃ q, Pa.nameP s2 = q := ⟨_, rfl⟩
  rw [hs3] at HT3
  have HK3 := Lib.hid hs3
  clear hs3
  simp only at HT3
  go_wp2_with fail
  refine HT3.out.mono ?_
  rintro e v3 ⟨rfl, hR, hM⟩
  have HMn3 := Lib.hid (HMn2.out.trans hM)
  have HUn3 := Lib.hid (HUn2.out.but HmU.out hM)
  have HVn3 := Lib.hid (HVn2.out.but HmV.out hM)
  have HRn3 := Lib.hid hR
  clear hR hM
  obtain ⟨d0, d1, d2, d3, d4, d5, d6, d7, d8, d9, d10⟩ := cl11 (w := v3) HVn3.out
  have fd1 := HVn3.out.frozen 1
  have hUneV : U ≠ V := Nat.ne_of_lt HUV.out
  have hVneU := hUneV.symm
  have HXe := Lib.hid (show X = (⟨b1, b3, 0, Pa.exZ⟩, s3) by rw [← HX.out, Pa.sourceP, HK1.out, Pa.asP, HK2.out, if_pos rfl, HK3.out])
  have HO9 := Lib.hid ((OnU.refl V v3).set (j := 1) (v := st b3))
  have HU9 := Lib.hid (HUn3.out.off hUneV HO9.out)
  have HR9 := Lib.hid (HO9.out.rs HmV.out HRn3.out)
  have HM9 := Lib.hid (HO9.out.but (by rw [HUl.out]; exact Nat.le_of_lt HUV.out) HMn3.out)
  obtain ⟨c0, c1, c2, c3, c4, c5, c6, c7, c8, c9, c10⟩ := cl11 (w := ((v3.setCell ⟨V, 1, none⟩ (st b3)))) (HU9.out)
  have fc0 := (HU9.out).frozen 0
  have fc1 := (HU9.out).frozen 1
  have fc2 := (HU9.out).frozen 2
  have fc3 := (HU9.out).frozen 3
  have fc4 := (HU9.out).frozen 4
  have fc5 := (HU9.out).frozen 5
  have fc6 := (HU9.out).frozen 6
  have fc7 := (HU9.out).frozen 7
  have fc8 := (HU9.out).frozen 8
  have fc9 := (HU9.out).frozen 9
  have fc10 := (HU9.out).frozen 10
  go_wp2_with fail
  exact bodyPost_ret (v := .agg #[st b1, st b3, .int .i64 0, .int .i64 0, .int .i64 0, .int .i64 0, .int .i64 0, .string ⟨#[]⟩, .string ⟨#[]⟩, .string ⟨#[]⟩, .slice none 0 0]) (by simp [results, Tryz.results128, go_sem, c0, c1, c2, c3, c4, c5, c6, c7, c8, c9, c10]) rfl (by rw [HXe.out]; exact RuE.fin (c := [st b1, st b3, .int .i64 0, .int .i64 0, .int .i64 0, .int .i64 0, .int .i64 0, .string ⟨#[]⟩, .string ⟨#[]⟩, .string ⟨#[]⟩, .slice none 0 0]) srC_ok HUl.out HmU.out HM9.out HR9.out (srC_of (s := ⟨b1, b3, 0, Pa.exZ⟩) rfl rfl rfl (exZ_at _ _)) (OnU.refl _ _).set.set.set.set.set.set.set.set.set.set.set)
 | false =>
  obtain rfl := hno2 rfl
  clear hno2
  go_wp2_with fail
  refine HT2.out.mono ?_
  rintro e v2 ⟨rfl, hR, hM⟩
  have HMn2 := Lib.hid (HMva.out.trans hM)
  have HUn2 := Lib.hid (HUva.out.but HmU.out hM)
  have HVn2 := Lib.hid (HVva.out.but HmV.out hM)
  have HRn2 := Lib.hid hR
  clear hR hM
  obtain ⟨d0, d1, d2, d3, d4, d5, d6, d7, d8, d9, d10⟩ := cl11 (w := v2) HVn2.out
  have fd1 := HVn2.out.frozen 1
  have hUneV : U ≠ V := Nat.ne_of_lt HUV.out
  have hVneU := hUneV.symm
  have HXe := Lib.hid (show X = (⟨b1, b1, 0, Pa.exZ⟩, s2) by rw [← HX.out, Pa.sourceP, HK1.out, Pa.asP, HK2.out, if_neg (by simp)])
  obtain ⟨c0, c1, c2, c3, c4, c5, c6, c7, c8, c9, c10⟩ := cl11 (w := v2) (HUn2.out)
  have fc0 := (HUn2.out).frozen 0
  have fc1 := (HUn2.out).frozen 1
  have fc2 := (HUn2.out).frozen 2
  have fc3 := (HUn2.out).frozen 3
  have fc4 := (HUn2.out).frozen 4
  have fc5 := (HUn2.out).frozen 5
  have fc6 := (HUn2.out).frozen 6
  have fc7 := (HUn2.out).frozen 7
  have fc8 := (HUn2.out).frozen 8
  have fc9 := (HUn2.out).frozen 9
  have fc10 := (HUn2.out).frozen 10
  go_wp2_with fail
  exact bodyPost_ret (v := .agg #[st b1, st b1, .int .i64 0, .int .i64 0, .int .i64 0, .int .i64 0, .int .i64 0, .string ⟨#[]⟩, .string ⟨#[]⟩, .string ⟨#[]⟩, .slice none 0 0]) (by simp [results, Tryz.results128, go_sem, c0, c1, c2, c3, c4, c5, c6, c7, c8, c9, c10]) rfl (by rw [HXe.out]; exact RuE.fin (c := [st b1, st b1, .int .i64 0, .int .i64 0, .int .i64 0, .int .i64 0, .int .i64 0, .string ⟨#[]⟩, .string ⟨#[]⟩, .string ⟨#[]⟩, .slice none 0 0]) srC_ok HUl.out HmU.out HMn2.out HRn2.out (srC_of (s := ⟨b1, b1, 0, Pa.exZ⟩) rfl rfl rfl (exZ_at _ _)) (OnU.refl _ _).set.set.set.set.set.set.set.set.set.set.set)
set_option maxRecDepth 100000 in
set_option maxHeartbeats 4000000 in
theorem pjoin_any (m : Nat) (s : Pa.Ps) (w : World) (h : RS m w s) : Calls Tryz.prog 129 #[.pointer (some ⟨m, 0, none⟩)] w fun e w' => e = .returned (.int .i64 ((Pa.joinP s).1 : Nat)) ∧ RS m w' (Pa.joinP s).2 ∧ ButM m w w' := by
 have H1 := Lib.hid h
 have HFin := Lib.hid h.fin
 have HmU := Lib.hid h.lt
 obtain ⟨X, hX⟩ : ∃ X, Pa.joinP s = X := ⟨_, rfl⟩
 rw [hX]
 have HX := Lib.hid hX
 clear h hX
 go_enter Tryz.func129, Tryz.ntmps129
 go_wp2_with fail
 have HT1 := Lib.hid (take_any m s Pa.wJOIN w H1.out)
 obtain ⟨t1, ht⟩ : ∃ z, (Pa.takeW Pa.wJOIN s).1 = z := ⟨_, rfl⟩
 obtain ⟨s1, hs⟩ : ∃ z, (Pa.takeW Pa.wJOIN s).2 = z := ⟨_, rfl⟩
 have hno1 := (Pa.takeW_le Pa.wJOIN H1.out.fin).2.2
 rw [ht, hs] at HT1 hno1
 have HK1 := Lib.hid (show Pa.takeW Pa.wJOIN s = (t1, s1) by rw [← ht, ← hs])
 clear ht hs
 cases t1 with
 | true =>
  clear hno1
  go_wp2_with fail
  refine HT1.out.mono ?_
  rintro e v1 ⟨rfl, hR, hM⟩
  have HMn1 := Lib.hid hM
  have HRn1 := Lib.hid hR
  clear hR hM
  have HXe := Lib.hid (show X = (1, s1) by rw [← HX.out]; simp only [Pa.joinP, HK1.out, if_true])
  go_wp2_with fail
  exact bodyPost_ret (v := .int .i64 1) (by simp [results, Tryz.results129, go_sem]) rfl (by rw [HXe.out]; exact ⟨rfl, HRn1.out, HMn1.out⟩)
 | false =>
  obtain rfl := hno1 rfl
  clear hno1
  go_wp2_with fail
  refine HT1.out.mono ?_
  rintro e v1 ⟨rfl, hR, hM⟩
  have HMn1 := Lib.hid hM
  have HRn1 := Lib.hid hR
  clear hR hM
  have hbo := ba v1 (.cells #[st Pa.wLEFT, st Pa.wJOIN] 9)
  have hgo : BxU (v1.alloc (.cells #[st Pa.wLEFT, st Pa.wJOIN] 9)) v1.heap.size #[st Pa.wLEFT, st Pa.wJOIN] 9 := (MapKept.heap_alloc v1 (.cells #[st Pa.wLEFT, st Pa.wJOIN] 9)).1
  have HT2 := Lib.hid (takeAll2_any m s1 Pa.wLEFT Pa.wJOIN v1.heap.size (v1.alloc (.cells #[st Pa.wLEFT, st Pa.wJOIN] 9)) (HRn1.out.next hbo) HRn1.out.lt (hgo.cell 0) (hgo.cell 1))
  have HMo2 := Lib.hid (HMn1.out.trans (ButM.of hbo))
  clear hbo hgo
  obtain ⟨t2, ht⟩ : ∃ z, (Pa.takeAll Pa.wLEFT [Pa.wJOIN] s1).1 = z := ⟨_, rfl⟩
  obtain ⟨s2, hs⟩ : ∃ z, (Pa.takeAll Pa.wLEFT [Pa.wJOIN] s1).2 = z := ⟨_, rfl⟩
  have hno2 := (Pa.takeAll_le Pa.wLEFT [Pa.wJOIN] HRn1.out.fin).2.2
  rw [ht, hs] at HT2 hno2
  have HK2 := Lib.hid (show Pa.takeAll Pa.wLEFT [Pa.wJOIN] s1 = (t2, s2) by rw [← ht, ← hs])
  clear ht hs
  cases t2 with
  | true =>
   clear hno2
   go_wp2_with fail
   refine HT2.out.mono ?_
   rintro e v2 ⟨rfl, hR, hM⟩
   have HMn2 := Lib.hid (HMo2.out.trans hM)
   have HRn2 := Lib.hid hR
   clear hR hM
   have HXe := Lib.hid (show X = (2, s2) by rw [← HX.out]; simp only [Pa.joinP, HK1.out, HK2.out, Bool.false_eq_true, if_false, if_true])
   go_wp2_with fail
   exact bodyPost_ret (v := .int .i64 2) (by simp [results, Tryz.results129, go_sem]) rfl (by rw [HXe.out]; exact ⟨rfl, HRn2.out, HMn2.out⟩)
  | false =>
   obtain rfl := hno2 rfl
   clear hno2
   go_wp2_with fail
   refine HT2.out.mono ?_
   rintro e v2 ⟨rfl, hR, hM⟩
   have HMn2 := Lib.hid (HMo2.out.trans hM)
   have HRn2 := Lib.hid hR
   clear hR hM
   have hbo := ba v2 (.cells #[st Pa.wSEMI, st Pa.wJOIN] 9)
   have hgo : BxU (v2.alloc (.cells #[st Pa.wSEMI, st Pa.wJOIN] 9)) v2.heap.size #[st Pa.wSEMI, st Pa.wJOIN] 9 := (MapKept.heap_alloc v2 (.cells #[st Pa.wSEMI, st Pa.wJOIN] 9)).1
   have HT3 := Lib.hid (takeAll2_any m s2 Pa.wSEMI Pa.wJOIN v2.heap.size (v2.alloc (.cells #[st Pa.wSEMI, st Pa.wJOIN] 9)) (HRn2.out.next hbo) HRn2.out.lt (hgo.cell 0) (hgo.cell 1))
   have HMo3 := Lib.hid (HMn2.out.trans (ButM.of hbo))
   clear hbo hgo
   obtain ⟨t3, ht⟩ : ∃ z, (Pa.takeAll Pa.wSEMI [Pa.wJOIN] s2).1 = z := ⟨_, rfl⟩
   obtain ⟨s3, hs⟩ : ∃ z, (Pa.takeAll Pa.wSEMI [Pa.wJOIN] s2).2 = z := ⟨_, rfl⟩
   have hno3 := (Pa.takeAll_le Pa.wSEMI [Pa.wJOIN] HRn2.out.fin).2.2
   rw [ht, hs] at HT3 hno3
   have HK3 := Lib.hid (show Pa.takeAll Pa.wSEMI [Pa.wJOIN] s2 = (t3, s3) by rw [← ht, ← hs])
   clear ht hs
   cases t3 with
   | true =>
    clear hno3
    go_wp2_with fail
    refine HT3.out.mono ?_
    rintro e v3 ⟨rfl, hR, hM⟩
    have HMn3 := Lib.hid (HMo3.out.trans hM)
    have HRn3 := Lib.hid hR
    clear hR hM
    have HXe := Lib.hid (show X = (3, s3) by rw [← HX.out]; simp only [Pa.joinP, HK1.out, HK2.out, HK3.out, Bool.false_eq_true, if_false, if_true])
    go_wp2_with fail
    exact bodyPost_ret (v := .int .i64 3) (by simp [results, Tryz.results129, go_sem]) rfl (by rw [HXe.out]; exact ⟨rfl, HRn3.out, HMn3.out⟩)
   | false =>
    obtain rfl := hno3 rfl
    clear hno3
    go_wp2_with fail
    refine HT3.out.mono ?_
    rintro e v3 ⟨rfl, hR, hM⟩
    have HMn3 := Lib.hid (HMo3.out.trans hM)
    have HRn3 := Lib.hid hR
    clear hR hM
    have hbo := ba v3 (.cells #[st Pa.wANTI, st Pa.wJOIN] 9)
    have hgo : BxU (v3.alloc (.cells #[st Pa.wANTI, st Pa.wJOIN] 9)) v3.heap.size #[st Pa.wANTI, st Pa.wJOIN] 9 := (MapKept.heap_alloc v3 (.cells #[st Pa.wANTI, st Pa.wJOIN] 9)).1
    have HT4 := Lib.hid (takeAll2_any m s3 Pa.wANTI Pa.wJOIN v3.heap.size (v3.alloc (.cells #[st Pa.wANTI, st Pa.wJOIN] 9)) (HRn3.out.next hbo) HRn3.out.lt (hgo.cell 0) (hgo.cell 1))
    have HMo4 := Lib.hid (HMn3.out.trans (ButM.of hbo))
    clear hbo hgo
    obtain ⟨t4, ht⟩ : ∃ z, (Pa.takeAll Pa.wANTI [Pa.wJOIN] s3).1 = z := ⟨_, rfl⟩
    obtain ⟨s4, hs⟩ : ∃ z, (Pa.takeAll Pa.wANTI [Pa.wJOIN] s3).2 = z := ⟨_, rfl⟩
    have hno4 := (Pa.takeAll_le Pa.wANTI [Pa.wJOIN] HRn3.out.fin).2.2
    rw [ht, hs] at HT4 hno4
    have HK4 := Lib.hid (show Pa.takeAll Pa.wANTI [Pa.wJOIN] s3 = (t4, s4) by rw [← ht, ← hs])
    clear ht hs
    cases t4 with
    | true =>
     clear hno4
     go_wp2_with fail
     refine HT4.out.mono ?_
     rintro e v4 ⟨rfl, hR, hM⟩
     have HMn4 := Lib.hid (HMo4.out.trans hM)
     have HRn4 := Lib.hid hR
     clear hR hM
     have HXe := Lib.hid (show X = (4, s4) by rw [← HX.out]; simp only [Pa.joinP, HK1.out, HK2.out, HK3.out, HK4.out, Bool.false_eq_true, if_false, if_true])
     go_wp2_with fail
     exact bodyPost_ret (v := .int .i64 4) (by simp [results, Tryz.results129, go_sem]) rfl (by rw [HXe.out]; exact ⟨rfl, HRn4.out, HMn4.out⟩)
    | false =>
     obtain rfl := hno4 rfl
     clear hno4
     go_wp2_with fail
     refine HT4.out.mono ?_
     rintro e v4 ⟨rfl, hR, hM⟩
     have HMn4 := Lib.hid (HMo4.out.trans hM)
     have HRn4 := Lib.hid hR
     clear hR hM
     have HXe := Lib.hid (show X = (0, s4) by rw [← HX.out]; simp only [Pa.joinP, HK1.out, HK2.out, HK3.out, HK4.out, Bool.false_eq_true, if_false])
     go_wp2_with fail
     exact bodyPost_ret (v := .int .i64 0) (by simp [results, Tryz.results129, go_sem]) rfl (by rw [HXe.out]; exact ⟨rfl, HRn4.out, HMn4.out⟩)
end Go.Proofs.YtfjimoccliejdaaGreatDoor
end
section
namespace Go.Proofs.YtfjimoccliejdaaGreatDoor
open Go.RowKit Go.Shelf

structure SoS (or : Pa.Ps → Ex × Pa.Ps) (m N : Nat) (w : World) (X : List Pa.Src × Pa.Ps) (l : List Pa.Src) (s1 : Pa.Ps) (nn : Nat) (kd : Nat) (s2 : Pa.Ps) (v : Value) (W : World) : Prop where
 len : s1.ts.length ≤ nn
 tot : l.length + s1.ts.length ≤ N + 1
 fin : Pa.Fin s1.ts
 jn : Pa.joinP s1 = (kd, s2)
 rs : RS m W s2
 but : ButM m w W
 ow : Ow srC 51 11 w.heap.size W v l
 eq : Pa.sourcesP or nn l s1 = X
theorem sourcesP_more {or : Pa.Ps → Ex × Pa.Ps} {n : Nat} {l : List Pa.Src} {s : Pa.Ps} (h : (Pa.joinP s).1 ≠ 0) : Pa.sourcesP or (n + 1) l s = Pa.sourcesP or n (l ++ [(Pa.joinedP or (Pa.joinP s).1 (Pa.joinP s).2).1]) (Pa.joinedP or (Pa.joinP s).1 (Pa.joinP s).2).2 := by rw [Pa.sourcesP, if_neg h]
theorem box11_set {w : World} {V : Nat} {T : TypeId} {a0 a1 a2 a3 a4 a5 a6 a7 a8 a9 a10 : Value} (h : BxU w V #[a0, a1, a2, a3, a4, a5, a6, a7, a8, a9, a10] T) (b3 b4 b5 b6 b7 b8 b9 b10 : Value) :
  BxU ((((((((w.setCell ⟨V, 3, none⟩ b3).setCell ⟨V, 4, none⟩ b4).setCell ⟨V, 5, none⟩ b5).setCell ⟨V, 6, none⟩ b6).setCell ⟨V, 7, none⟩ b7).setCell ⟨V, 8, none⟩ b8).setCell ⟨V, 9, none⟩ b9).setCell ⟨V, 10, none⟩ b10) V #[a0, a1, a2, b3, b4, b5, b6, b7, b8, b9, b10] T := by
 unfold BxU at h ⊢
 simp [World.setCell, Array.getElem?_modify, h]
def lenJ (k : Value) (m : Nat) (w : World) : Nat := 2 * lenR m w + (match k with | .int _ 0 => 0 | _ => 1)
theorem lenJ_0 {m : Nat} {w : World} {s : Pa.Ps} (h : RS m w s) : lenJ (.int .i64 0) m w = 2 * s.ts.length := by simp [lenJ, h.len]
theorem lenJ_le {m : Nat} {w : World} {s : Pa.Ps} (h : RS m w s) (k : Value) : lenJ k m w ≤ 2 * s.ts.length + 1 := by
 unfold lenJ
 rw [h.len]
 split <;> omega
theorem lenJ_pos {m : Nat} {w : World} {s : Pa.Ps} (h : RS m w s) {k : Nat} (hk : k ≠ 0) : lenJ (.int .i64 k) m w = 2 * s.ts.length + 1 := by
 unfold lenJ
 rw [h.len]
 split
 ·rename_i h2; simp at h2; omega
 ·rfl
set_option maxRecDepth 100000 in
set_option maxHeartbeats 8000000 in
theorem psources_any (F m N : Nat) (hN5 : N ≤ 5000) (HO : Ok 29 (Pa.lev F 0) m N) (s : Pa.Ps) (w : World) (h : RS m w s) (hN : s.ts.length ≤ N) :
  Calls Tryz.prog 79 #[.pointer (some ⟨m, 0, none⟩)] w (LsE srC 51 11 m w (Pa.fromP (Pa.lev F 0) s).1 (Pa.fromP (Pa.lev F 0) s).2) := by
 obtain ⟨i0, hi, hz0, hz1, hz2⟩ := infoE_parts info_S
 have HOo := Lib.hid HO
 have hmB := h.lt
 obtain ⟨Bs, hBs⟩ : ∃ b, w.heap.size = b := ⟨_, rfl⟩
 rw [hBs] at hmB
 have HBs := Lib.hid hBs
 have HmB := Lib.hid hmB
 obtain ⟨X, hX⟩ : ∃ X, Pa.fromP (Pa.lev F 0) s = X := ⟨_, rfl⟩
 rw [hX]
 have hl0 := (Pa.sourceP_le h.fin).len
 have hf0 := (Pa.sourceP_le h.fin).fin
 have HT := Lib.hid (psource_any m s w h)
 obtain ⟨⟨x, s1⟩, hx⟩ : ∃ q, Pa.sourceP s = q := ⟨_, rfl⟩
 rw [hx] at HT hl0 hf0
 simp only at HT hl0 hf0
 have HX1 := Lib.hid (show Pa.sourcesP (Pa.lev F 0) s1.ts.length [x] s1 = X by rw [← hX, Pa.fromP, hx])
 have HL0 := Lib.hid (show [x].length + s1.ts.length ≤ N + 1 by simp only [List.length_singleton]; omega)
 have HF0 := Lib.hid hf0
 clear HO h hX hx hN hmB hBs hl0 hf0
 go_enter Tryz.func79, Tryz.ntmps79
 go_wp2_with fail
 refine HT.out.mono ?_
 intro e v1 hE
 obtain ⟨hd, A, n, cp, rfl, hC, hR, hM⟩ := srV hE
 clear hE
 have hb1 := ba v1 (.cells #[st x.tb, st x.nm, .int .i64 x.join, .int .i64 hd.k, .int .i64 hd.n, .int .i64 hd.vk, .int .i64 hd.vn, .string hd.vs, .string hd.tab, .string hd.col, .slice A n cp] 51)
 have HOw := Lib.hid (Ow.made srC_ok (ty := 51) (base := w.heap.size) hC (by have := hM.size; omega))
 have HR1 := Lib.hid (hR.next hb1)
 have HM1 := Lib.hid (hM.trans (ButM.of hb1))
 have HJ := Lib.hid (pjoin_any m s1 _ HR1.out)
 obtain ⟨⟨kd, s2⟩, hj⟩ : ∃ q, Pa.joinP s1 = q := ⟨_, rfl⟩
 rw [hj] at HJ
 simp only at HJ
 have HJn := Lib.hid hj
 clear hC hR hM hb1 hj
 go_wp2_with fail
 refine HJ.out.mono ?_
 rintro e v2 ⟨rfl, hR, hM⟩
 have HS := Lib.hid (show SoS (Pa.lev F 0) m N w X [x] s1 s1.ts.length kd s2 (.slice (some ⟨v1.heap.size, 0, none⟩) 1 1) v2 from ⟨Nat.le_refl _, HL0.out, HF0.out, HJn.out, hR, HM1.out.trans hM, HOw.out.but srC_ok (by rw [HBs.out]; exact HmB.out) hM, HX1.out⟩)
 clear hR hM
 go_wp2_with fail
 go_loopw [3, 4] (fun v kv W => ∃ (l : List Pa.Src) (s1 : Pa.Ps) (nn kd : Nat) (s2 : Pa.Ps), kv = .int .i64 kd ∧ Hid (SoS (Pa.lev F 0) m N w X l s1 nn kd s2 v W)) (fun _ kv W => lenJ kv m W)
 case atStart => exact ⟨_, _, _, _, _, rfl, HS⟩
 case round =>
  obtain ⟨l, s3, nn, kd, s4, rfl, HS⟩ := hrel
  obtain ⟨A0, cap0, rfl, _⟩ := HS.out.ow.slice
  by_cases hk0 : kd = 0
  ·subst hk0
   have HXe := Lib.hid (show X = (l, s4) by
    have h1 := (Pa.joinP_le HS.out.fin).2.2 (by rw [HS.out.jn])
    rw [HS.out.jn] at h1
    rw [← HS.out.eq, Pa.sourcesP_stop (by rw [HS.out.jn])]
    simp only at h1
    rw [h1])
   go_wp2_with fail
   exact bodyPost_ret (v := .slice A0 l.length cap0) (by simp [results, Tryz.results79, go_sem]) rfl (by rw [HXe.out]; exact ⟨_, rfl, HS.out.ow, HS.out.rs, HS.out.but⟩)
  ·have hkI : ¬ ((kd : Int) = 0) := by omega
   have hjl := (Pa.joinP_le HS.out.fin).2.1 (by rw [HS.out.jn]; exact hk0)
   rw [HS.out.jn] at hjl
   have hjl2 : s4.ts.length + 1 ≤ s3.ts.length := hjl.2
   obtain ⟨nn, rfl⟩ : ∃ k, nn = k + 1 := ⟨nn - 1, by have := HS.out.len; omega⟩
   have HK0 := Lib.hid hk0
   have HL4 := Lib.hid hjl2
   obtain ⟨⟨x, s5⟩, hx⟩ : ∃ q, Pa.sourceP s4 = q := ⟨_, rfl⟩
   have HT := Lib.hid (psource_any m s4 wr HS.out.rs)
   rw [hx] at HT
   have hl5 : s5.ts.length ≤ s4.ts.length := by have := (Pa.sourceP_le HS.out.rs.fin).len; rw [hx] at this; exact this
   have hf5 : Pa.Fin s5.ts := by have := (Pa.sourceP_le HS.out.rs.fin).fin; rw [hx] at this; exact this
   obtain ⟨s6, hs6⟩ : ∃ z, Pa.mustW Pa.wON s5 = z := ⟨_, rfl⟩
   have hl6 : s6.ts.length ≤ s5.ts.length := by have := (Pa.mustW_le Pa.wON hf5).len; rw [hs6] at this; exact this
   have hf6 : Pa.Fin s6.ts := by have := (Pa.mustW_le Pa.wON hf5).fin; rw [hs6] at this; exact this
   obtain ⟨⟨on, s7⟩, hs7⟩ : ∃ q, Pa.lev F 0 s6 = q := ⟨_, rfl⟩
   have hl7 : s7.ts.length ≤ s6.ts.length := by have := (Pa.lev_le F 0 s6 hf6).len; rw [hs7] at this; exact this
   have hf7 : Pa.Fin s7.ts := by have := (Pa.lev_le F 0 s6 hf6).fin; rw [hs7] at this; exact this
   obtain ⟨⟨k8, s8⟩, hs8⟩ : ∃ q, Pa.joinP s7 = q := ⟨_, rfl⟩
   have HJ7 := Lib.hid hs8
   have HF7 := Lib.hid hf7
   have H6 := Lib.hid hs6
   have H7 := Lib.hid hs7
   have HJl := Lib.hid (show Pa.joinedP (Pa.lev F 0) kd s4 = (⟨x.tb, x.nm, kd, on⟩, s7) by simp only [Pa.joinedP, hx, hs6, hs7])
   have HX2 := Lib.hid (show Pa.sourcesP (Pa.lev F 0) nn (l ++ [⟨x.tb, x.nm, kd, on⟩]) s7 = X by rw [← HS.out.eq, sourcesP_more (by rw [HS.out.jn]; exact hk0), HS.out.jn, HJl.out])
   have HL7 := Lib.hid (show s7.ts.length ≤ s4.ts.length by omega)
   have HN6 := Lib.hid (show s6.ts.length ≤ N by have := HS.out.tot; have := HS.out.ow.1; omega)
   have HL8 := Lib.hid (show k8 ≠ 0 → s8.ts.length + 1 ≤ s7.ts.length by
    intro hk
    have := ((Pa.joinP_le HF7.out).2.1 (by rw [HJ7.out]; exact hk)).2
    rw [HJ7.out] at this
    exact this)
   have HL88 := Lib.hid (show s8.ts.length ≤ s7.ts.length by
    have := (Pa.joinP_le HF7.out).1.len
    rw [HJ7.out] at this
    exact this)
   clear hk0 hjl hjl2 hx hl5 hf5 hs6 hl6 hf6 hs7 hl7 hf7 hs8
   go_wp2_with fail
   refine HT.out.mono ?_
   intro e v3 hE
   obtain ⟨hd, A, n, cp, rfl, hC, hR, hM⟩ := srV hE
   clear hE hC
   have HM3 := Lib.hid (HS.out.but.trans hM)
   have HO3 := Lib.hid (HS.out.ow.but srC_ok (by rw [HBs.out]; exact HmB.out) hM)
   have hbv := ba v3 (.cells #[st x.tb, st x.nm, .int .i64 kd, .int .i64 hd.k, .int .i64 hd.n, .int .i64 hd.vk, .int .i64 hd.vn, .string hd.vs, .string hd.tab, .string hd.col, .slice A n cp] 51)
   have HRv := Lib.hid (hR.next hbv)
   have hVv := (MapKept.heap_alloc v3 (.cells #[st x.tb, st x.nm, .int .i64 kd, .int .i64 hd.k, .int .i64 hd.n, .int .i64 hd.vk, .int .i64 hd.vn, .string hd.vs, .string hd.tab, .string hd.col, .slice A n cp] 51)).1
   obtain ⟨V, hV⟩ : ∃ V, v3.heap.size = V := ⟨_, rfl⟩
   rw [hV] at hVv
   have HBV := Lib.hid (show w.heap.size ≤ V by rw [← hV]; exact HM3.out.size)
   have HmV := Lib.hid (show m < V by rw [← hV]; exact hR.lt)
   have HMv := Lib.hid (HM3.out.trans (ButM.of hbv))
   have HBv := Lib.hid (show ButM m v3 _ from ButM.of hbv)
   have HVv := Lib.hid (show BxU (v3.alloc (.cells #[st x.tb, st x.nm, .int .i64 kd, .int .i64 hd.k, .int .i64 hd.n, .int .i64 hd.vk, .int .i64 hd.vn, .string hd.vs, .string hd.tab, .string hd.col, .slice A n cp] 51)) V #[st x.tb, st x.nm, .int .i64 kd, .int .i64 hd.k, .int .i64 hd.n, .int .i64 hd.vk, .int .i64 hd.vn, .string hd.vs, .string hd.tab, .string hd.col, .slice A n cp] 51 from hVv)
   have HVl := Lib.hid hV
   clear hR hM hbv hVv
   go_wp2_with fail
   generalize v3.alloc (.cells #[st x.tb, st x.nm, .int .i64 kd, .int .i64 hd.k, .int .i64 hd.n, .int .i64 hd.vk, .int .i64 hd.vn, .string hd.vs, .string hd.tab, .string hd.col, .slice A n cp] 51) = W4 at HRv HMv HBv HVv ⊢
   clear hV
   have HT2 := Lib.hid (must_any m s5 Pa.wON W4 HRv.out)
   rw [H6.out] at HT2
   refine HT2.out.mono ?_
   rintro e v4 ⟨rfl, hR, hM⟩
   have HR4 := Lib.hid hR
   have HM4 := Lib.hid (HMv.out.trans hM)
   have HB4 := Lib.hid (HBv.out.trans hM)
   have HV4 := Lib.hid (HVv.out.but HmV.out hM)
   have HTo := Lib.hid (HOo.out s6 v4 HR4.out HN6.out)
   rw [H7.out] at HTo
   clear hR hM
   go_wp2_with fail
   refine HTo.out.mono ?_
   intro e v5 hE
   obtain ⟨hd2, A2, n2, cp2, rfl, hC, hR, hM⟩ := exV hE
   clear hE
   have HR5 := Lib.hid hR
   have HM5 := Lib.hid (HM4.out.trans hM)
   have HB5 := Lib.hid (HB4.out.trans hM)
   have HV5 := Lib.hid (HV4.out.but HmV.out hM)
   have HC5 := Lib.hid hC
   have hV4 := HV4.out.lt
   have HX4 := Lib.hid (show ∀ k, Bt v4.heap.size v5.heap.size k → Ot w.heap.size v5 (.slice A0 l.length cap0) k ∧ k ≠ V from fun k hk => ⟨HO3.out.apart (W := v5) ⟨by have := hk.1; have := HB4.out.size; omega, hk.2⟩, by have := hk.1; omega⟩)
   clear hC hR hM hV4
   obtain ⟨d0, d1, d2, d3, d4, d5, d6, d7, d8, d9, d10⟩ := cl11 (w := v5) HV5.out
   have fd3 := HV5.out.frozen 3
   have fd4 := HV5.out.frozen 4
   have fd5 := HV5.out.frozen 5
   have fd6 := HV5.out.frozen 6
   have fd7 := HV5.out.frozen 7
   have fd8 := HV5.out.frozen 8
   have fd9 := HV5.out.frozen 9
   have fd10 := HV5.out.frozen 10
   have HO6 := Lib.hid (show OnU V v5 ((((((((v5.setCell ⟨V, 3, none⟩ (.int .i64 hd2.k)).setCell ⟨V, 4, none⟩ (.int .i64 hd2.n)).setCell ⟨V, 5, none⟩ (.int .i64 hd2.vk)).setCell ⟨V, 6, none⟩ (.int .i64 hd2.vn)).setCell ⟨V, 7, none⟩ (.string hd2.vs)).setCell ⟨V, 8, none⟩ (.string hd2.tab)).setCell ⟨V, 9, none⟩ (.string hd2.col)).setCell ⟨V, 10, none⟩ (.slice A2 n2 cp2)) from (OnU.refl V v5).set.set.set.set.set.set.set.set)
   have HR6 := Lib.hid (HO6.out.rs HmV.out HR5.out)
   have HM6 := Lib.hid (HO6.out.but HBV.out HM5.out)
   have HOw6 := Lib.hid (HO3.out.but srC_ok (by rw [HBs.out]; exact HmB.out) (HO6.out.but (w0 := v3) (by rw [HVl.out]; exact Nat.le_refl _) HB5.out))
   have HC6 := Lib.hid (show srC (Bt v4.heap.size v5.heap.size) ((((((((v5.setCell ⟨V, 3, none⟩ (.int .i64 hd2.k)).setCell ⟨V, 4, none⟩ (.int .i64 hd2.n)).setCell ⟨V, 5, none⟩ (.int .i64 hd2.vk)).setCell ⟨V, 6, none⟩ (.int .i64 hd2.vn)).setCell ⟨V, 7, none⟩ (.string hd2.vs)).setCell ⟨V, 8, none⟩ (.string hd2.tab)).setCell ⟨V, 9, none⟩ (.string hd2.col)).setCell ⟨V, 10, none⟩ (.slice A2 n2 cp2)) (⟨x.tb, x.nm, kd, on⟩ : Pa.Src) [st x.tb, st x.nm, .int .i64 kd, .int .i64 hd2.k, .int .i64 hd2.n, .int .i64 hd2.vk, .int .i64 hd2.vn, .string hd2.vs, .string hd2.tab, .string hd2.col, .slice A2 n2 cp2] from srC_of (s := ⟨x.tb, x.nm, kd, on⟩) rfl rfl rfl (exC_ok.go (fun k hk => HO6.out.block k (HX4.out k hk).2) (fun _ hk => hk) HC5.out))
   have HV6 := Lib.hid (show BxU ((((((((v5.setCell ⟨V, 3, none⟩ (.int .i64 hd2.k)).setCell ⟨V, 4, none⟩ (.int .i64 hd2.n)).setCell ⟨V, 5, none⟩ (.int .i64 hd2.vk)).setCell ⟨V, 6, none⟩ (.int .i64 hd2.vn)).setCell ⟨V, 7, none⟩ (.string hd2.vs)).setCell ⟨V, 8, none⟩ (.string hd2.tab)).setCell ⟨V, 9, none⟩ (.string hd2.col)).setCell ⟨V, 10, none⟩ (.slice A2 n2 cp2)) V #[st x.tb, st x.nm, .int .i64 kd, .int .i64 hd2.k, .int .i64 hd2.n, .int .i64 hd2.vk, .int .i64 hd2.vn, .string hd2.vs, .string hd2.tab, .string hd2.col, .slice A2 n2 cp2] 51 from box11_set HV5.out _ _ _ _ _ _ _ _)
   go_upto_region 9 with fail
   generalize ((((((((v5.setCell ⟨V, 3, none⟩ (.int .i64 hd2.k)).setCell ⟨V, 4, none⟩ (.int .i64 hd2.n)).setCell ⟨V, 5, none⟩ (.int .i64 hd2.vk)).setCell ⟨V, 6, none⟩ (.int .i64 hd2.vn)).setCell ⟨V, 7, none⟩ (.string hd2.vs)).setCell ⟨V, 8, none⟩ (.string hd2.tab)).setCell ⟨V, 9, none⟩ (.string hd2.col)).setCell ⟨V, 10, none⟩ (.slice A2 n2 cp2)) = W6 at HO6 HR6 HM6 HOw6 HC6 HV6 ⊢
   obtain ⟨g0, g1, g2, g3, g4, g5, g6, g7, g8, g9, g10⟩ := cl11 (w := W6) HV6.out
   have HX6 := Lib.hid (show srC (Ot w.heap.size W6 (.slice A0 l.length cap0)) W6 (⟨x.tb, x.nm, kd, on⟩ : Pa.Src) [st x.tb, st x.nm, .int .i64 kd, .int .i64 hd2.k, .int .i64 hd2.n, .int .i64 hd2.vk, .int .i64 hd2.vn, .string hd2.vs, .string hd2.tab, .string hd2.col, .slice A2 n2 cp2] from srC_ok.go (fun _ _ => rfl) (fun k hk => ⟨(HX4.out k hk).1.1, by rw [HO6.out.size]; exact (HX4.out k hk).1.2.1, (HX4.out k hk).1.2.2⟩) HC6.out)
   obtain ⟨hb6, q, hq, ho⟩ := HOw6.out
   have HQ := Lib.hid hq
   have HOr := Lib.hid ho
   have HLen := Lib.hid (show l.length ≤ 5001 by have := HS.out.tot; omega)
   have HB0 := Lib.hid hb6
   clear hb6 hq ho d0 d1 d2 d3 d4 d5 d6 d7 d8 d9 d10 fd3 fd4 fd5 fd6 fd7 fd8 fd9 fd10
   go_wp2_with (at_builtin; refine wpList_append_own_at _ rfl _ _ 45 rfl w.heap.size 51 i0 _ 11 144 Tryz.underlying45 hi hz0 hz1 hz2 rfl (by decide) _ _ _ rfl (HOr.out.alloc _) ⟨W6.heap.size, 0, none⟩ 1 1 [st x.tb, st x.nm, .int .i64 kd, .int .i64 hd2.k, .int .i64 hd2.n, .int .i64 hd2.vk, .int .i64 hd2.vn, .string hd2.vs, .string hd2.tab, .string hd2.col, .slice A2 n2 cp2] rfl rfl (news_of _ _ _) (srC_ok.one HX6.out) ?c3 ?c4 ?c5 ?_)
   case c3 => have := HLen.out; unfold maxLen; omega
   case c4 => have := HLen.out; omega
   case c5 => have := HB0.out; rw [World.size_alloc]; omega
   intro v' v7 hown' hg4 _ hat
   have hrs := grown_rs HR6.out HM6.out HBs.out HmB.out hg4 (fun k hk => by have := (HOr.out.lt k hk).1; rw [HBs.out] at this; exact this)
   have HO7 := Lib.hid (HOw6.out.grow srC_ok HQ.out HX6.out hown' hg4 (by rw [World.size_alloc]; exact hat))
   have HM7 := Lib.hid hrs.2
   have HJ := Lib.hid (pjoin_any m s7 v7 hrs.1)
   rw [HJ7.out] at HJ
   simp only at HJ
   clear hown' hg4 hat hrs g0 g1 g2 g3 g4 g5 g6 g7 g8 g9 g10
   go_wp2_with fail
   refine HJ.out.mono ?_
   rintro e v8 ⟨rfl, hR, hM⟩
   have HSn := Lib.hid (show SoS (Pa.lev F 0) m N w X (l ++ [⟨x.tb, x.nm, kd, on⟩]) s7 nn k8 s8 v' v8 from ⟨by have := HS.out.len; have := HL4.out; have := HL7.out; omega, by have := HS.out.tot; have := HL4.out; have := HL7.out; simp only [List.length_append, List.length_singleton]; omega, HF7.out, HJ7.out, hR, HM7.out.trans hM, HO7.out.but srC_ok (by rw [HBs.out]; exact HmB.out) hM, HX2.out⟩)
   clear hR hM
   go_wp2_with fail
   go_roundw
   case rel => exact ⟨_, _, _, _, _, rfl, HSn⟩
   case measure =>
    rw [lenJ_pos HS.out.rs HK0.out]
    have := HL7.out
    rcases Nat.eq_zero_or_pos k8 with h8 | h8
    ·subst h8
     have h9 := lenJ_0 HSn.out.rs
     have := HL88.out
     show lenJ (.int .i64 0) m v8 < _
     omega
    ·have h9 := lenJ_le HSn.out.rs (.int .i64 k8)
     have := HL8.out (by omega)
     show lenJ (.int .i64 k8) m v8 < _
     omega
end Go.Proofs.YtfjimoccliejdaaGreatDoor
end
section
namespace Go.Proofs.YtfjimoccliejdaaGreatDoor
open Go.RowKit Go.Shelf

abbrev cs12 : Array Value := #[.bool false, .slice none 0 0, .slice none 0 0, .int .i64 0, .int .i64 0, .int .i64 0, .int .i64 0, .string ⟨#[]⟩, .string ⟨#[]⟩, .string ⟨#[]⟩, .slice none 0 0, .slice none 0 0]
structure PtS (m U V : Nat) (w : World) (dist : Bool) (its : List Pa.Itm) (iA : Option Addr) (ic : Nat) (frs : List Pa.Src) (fA : Option Addr) (fc : Nat) (wh : Ex) (hd : Hd) (A : Option Addr) (n cp : Nat) (grp : List Ex) (gA : Option Addr) (gc : Nat) (s1 : Pa.Ps) (W : World) : Prop where
 rs : RS m W s1
 but : ButM m w W
 bu : BxU W U cs12 47
 bv : BxU W V #[.bool dist, .slice iA its.length ic, .slice fA frs.length fc, .int .i64 hd.k, .int .i64 hd.n, .int .i64 hd.vk, .int .i64 hd.vn, .string hd.vs, .string hd.tab, .string hd.col, .slice A n cp, .slice gA grp.length gc] 47
 li : its.length ≤ ic ∧ Ls itC (Bv U V W.heap.size) W its iA
 lf : frs.length ≤ fc ∧ Ls srC (Bv U V W.heap.size) W frs fA
 lw : exC (Bv U V W.heap.size) W wh (xcell (hd, A, n, cp))
 lg : grp.length ≤ gc ∧ XsB (Bv U V W.heap.size) W grp gA
theorem PtS.go {m U V : Nat} {w : World} {dist : Bool} {its : List Pa.Itm} {iA : Option Addr} {ic : Nat} {frs : List Pa.Src} {fA : Option Addr} {fc : Nat} {wh : Ex} {hd : Hd} {A : Option Addr} {n cp : Nat} {grp : List Ex} {gA : Option Addr} {gc : Nat} {s1 : Pa.Ps} {W W' : World} {s2 : Pa.Ps} (h : PtS m U V w dist its iA ic frs fA fc wh hd A n cp grp gA gc s1 W) (hR : RS m W' s2) (hM : ButM m w W') (hU : BxU W' U cs12 47) (hV : BxU W' V #[.bool dist, .slice iA its.length ic, .slice fA frs.length fc, .int .i64 hd.k, .int .i64 hd.n, .int .i64 hd.vk, .int .i64 hd.vn, .string hd.vs, .string hd.tab, .string hd.col, .slice A n cp, .slice gA grp.length gc] 47) (hk : ∀ k, Bv U V W.heap.size k → W'.heap[k]? = W.heap[k]?) (hs : W.heap.size ≤ W'.heap.size) : PtS m U V w dist its iA ic frs fA fc wh hd A n cp grp gA gc s2 W' := by
 have hB : ∀ k, Bv U V W.heap.size k → Bv U V W'.heap.size k := fun k hk => ⟨hk.1, Nat.lt_of_lt_of_le hk.2.1 hs, hk.2.2⟩
 exact ⟨hR, hM, hU, hV, ⟨h.li.1, h.li.2.go itC_ok hk hB⟩, ⟨h.lf.1, h.lf.2.go srC_ok hk hB⟩, exC_ok.go hk hB h.lw, ⟨h.lg.1, XsB.go hk hB _ _ h.lg.2⟩⟩
theorem PtS.next {m U V : Nat} {w : World} {dist : Bool} {its : List Pa.Itm} {iA : Option Addr} {ic : Nat} {frs : List Pa.Src} {fA : Option Addr} {fc : Nat} {wh : Ex} {hd : Hd} {A : Option Addr} {n cp : Nat} {grp : List Ex} {gA : Option Addr} {gc : Nat} {s1 : Pa.Ps} {W W' : World} (h : PtS m U V w dist its iA ic frs fA fc wh hd A n cp grp gA gc s1 W) (hb : Below W.heap.size W W') : PtS m U V w dist its iA ic frs fA fc wh hd A n cp grp gA gc s1 W' :=
 h.go (h.rs.next hb) (h.but.trans (ButM.of hb)) (h.bu.next hb) (h.bv.next hb) (fun k hk => hb.block k hk.2.1) hb.size
theorem PtS.step {m U V : Nat} {w : World} {dist : Bool} {its : List Pa.Itm} {iA : Option Addr} {ic : Nat} {frs : List Pa.Src} {fA : Option Addr} {fc : Nat} {wh : Ex} {hd : Hd} {A : Option Addr} {n cp : Nat} {grp : List Ex} {gA : Option Addr} {gc : Nat} {s1 : Pa.Ps} {W W' : World} {s2 : Pa.Ps} (h : PtS m U V w dist its iA ic frs fA fc wh hd A n cp grp gA gc s1 W) (hm : m < U) (hUV : U < V) (hM : ButM m W W') (hR : RS m W' s2) : PtS m U V w dist its iA ic frs fA fc wh hd A n cp grp gA gc s2 W' :=
 h.go hR (h.but.trans hM) (h.bu.but hm hM) (h.bv.but (by omega) hM) (fun k hk => hM.block k hk.2.1 (by have := hk.1; omega)) hM.size
theorem PtS.items {m U V : Nat} {w : World} {dist : Bool} {its : List Pa.Itm} {iA : Option Addr} {ic : Nat} {frs : List Pa.Src} {fA : Option Addr} {fc : Nat} {wh : Ex} {hd : Hd} {A : Option Addr} {n cp : Nat} {grp : List Ex} {gA : Option Addr} {gc : Nat} {s1 : Pa.Ps} {W : World} (h : PtS m U V w dist its iA ic frs fA fc wh hd A n cp grp gA gc s1 W) (hm : m < U) (hUV : U < V) (hw : w.heap.size ≤ U) {v : Value} {l : List Pa.Itm} {b : Nat} (ho : Ow itC 49 10 b W v l) (hb : V < b) :
  ∃ A9 c9, v = .slice A9 l.length c9 ∧ PtS m U V w dist l A9 c9 frs fA fc wh hd A n cp grp gA gc s1 (W.setCell ⟨V, 1, none⟩ (.slice A9 l.length c9)) := by
 obtain ⟨A9, c9, rfl, hl9, hL⟩ := ho.read itC_ok
 have hO : OnU V W (W.setCell ⟨V, 1, none⟩ (.slice A9 l.length c9)) := (OnU.refl V W).set
 have hk : ∀ k, Bv U V W.heap.size k → (W.setCell ⟨V, 1, none⟩ (.slice A9 l.length c9)).heap[k]? = W.heap[k]? := fun k hk => hO.block k hk.2.2
 have hB : ∀ k, Bv U V W.heap.size k → Bv U V (W.setCell ⟨V, 1, none⟩ (.slice A9 l.length c9)).heap.size k := fun k hk => ⟨hk.1, by rw [hO.size]; exact hk.2.1, hk.2.2⟩
 have hB9 : ∀ k, Bn b W k → Bv U V (W.setCell ⟨V, 1, none⟩ (.slice A9 l.length c9)).heap.size k := fun k hk => ⟨by have := hk.1; omega, by rw [hO.size]; exact hk.2, by have := hk.1; omega⟩
 exact ⟨A9, c9, rfl, hO.rs (by omega) h.rs, hO.but (by omega) h.but, h.bu.off (Nat.ne_of_lt hUV) hO, h.bv.set1 1 _, ⟨hl9, hL.go itC_ok (fun k hk => hO.block k (hB9 k hk).2.2) hB9⟩, ⟨h.lf.1, h.lf.2.go srC_ok hk hB⟩, exC_ok.go hk hB h.lw, ⟨h.lg.1, XsB.go hk hB _ _ h.lg.2⟩⟩
theorem PtS.froms {m U V : Nat} {w : World} {dist : Bool} {its : List Pa.Itm} {iA : Option Addr} {ic : Nat} {frs : List Pa.Src} {fA : Option Addr} {fc : Nat} {wh : Ex} {hd : Hd} {A : Option Addr} {n cp : Nat} {grp : List Ex} {gA : Option Addr} {gc : Nat} {s1 : Pa.Ps} {W : World} (h : PtS m U V w dist its iA ic frs fA fc wh hd A n cp grp gA gc s1 W) (hm : m < U) (hUV : U < V) (hw : w.heap.size ≤ U) {v : Value} {l : List Pa.Src} {b : Nat} (ho : Ow srC 51 11 b W v l) (hb : V < b) :
  ∃ A9 c9, v = .slice A9 l.length c9 ∧ PtS m U V w dist its iA ic l A9 c9 wh hd A n cp grp gA gc s1 (W.setCell ⟨V, 2, none⟩ (.slice A9 l.length c9)) := by
 obtain ⟨A9, c9, rfl, hl9, hL⟩ := ho.read srC_ok
 have hO : OnU V W (W.setCell ⟨V, 2, none⟩ (.slice A9 l.length c9)) := (OnU.refl V W).set
 have hk : ∀ k, Bv U V W.heap.size k → (W.setCell ⟨V, 2, none⟩ (.slice A9 l.length c9)).heap[k]? = W.heap[k]? := fun k hk => hO.block k hk.2.2
 have hB : ∀ k, Bv U V W.heap.size k → Bv U V (W.setCell ⟨V, 2, none⟩ (.slice A9 l.length c9)).heap.size k := fun k hk => ⟨hk.1, by rw [hO.size]; exact hk.2.1, hk.2.2⟩
 have hB9 : ∀ k, Bn b W k → Bv U V (W.setCell ⟨V, 2, none⟩ (.slice A9 l.length c9)).heap.size k := fun k hk => ⟨by have := hk.1; omega, by rw [hO.size]; exact hk.2, by have := hk.1; omega⟩
 exact ⟨A9, c9, rfl, hO.rs (by omega) h.rs, hO.but (by omega) h.but, h.bu.off (Nat.ne_of_lt hUV) hO, h.bv.set1 2 _, ⟨h.li.1, h.li.2.go itC_ok hk hB⟩, ⟨hl9, hL.go srC_ok (fun k hk => hO.block k (hB9 k hk).2.2) hB9⟩, exC_ok.go hk hB h.lw, ⟨h.lg.1, XsB.go hk hB _ _ h.lg.2⟩⟩
theorem PtS.groups {m U V : Nat} {w : World} {dist : Bool} {its : List Pa.Itm} {iA : Option Addr} {ic : Nat} {frs : List Pa.Src} {fA : Option Addr} {fc : Nat} {wh : Ex} {hd : Hd} {A : Option Addr} {n cp : Nat} {grp : List Ex} {gA : Option Addr} {gc : Nat} {s1 : Pa.Ps} {W : World} (h : PtS m U V w dist its iA ic frs fA fc wh hd A n cp grp gA gc s1 W) (hm : m < U) (hUV : U < V) (hw : w.heap.size ≤ U) {v : Value} {l : List Ex} {b : Nat} (ho : Ow exC 37 8 b W v l) (hb : V < b) :
  ∃ A9 c9, v = .slice A9 l.length c9 ∧ PtS m U V w dist its iA ic frs fA fc wh hd A n cp l A9 c9 s1 (W.setCell ⟨V, 11, none⟩ (.slice A9 l.length c9)) := by
 obtain ⟨A9, c9, rfl, hl9, hL⟩ := ho.read exC_ok
 have hO : OnU V W (W.setCell ⟨V, 11, none⟩ (.slice A9 l.length c9)) := (OnU.refl V W).set
 have hk : ∀ k, Bv U V W.heap.size k → (W.setCell ⟨V, 11, none⟩ (.slice A9 l.length c9)).heap[k]? = W.heap[k]? := fun k hk => hO.block k hk.2.2
 have hB : ∀ k, Bv U V W.heap.size k → Bv U V (W.setCell ⟨V, 11, none⟩ (.slice A9 l.length c9)).heap.size k := fun k hk => ⟨hk.1, by rw [hO.size]; exact hk.2.1, hk.2.2⟩
 have hB9 : ∀ k, Bn b W k → Bv U V (W.setCell ⟨V, 11, none⟩ (.slice A9 l.length c9)).heap.size k := fun k hk => ⟨by have := hk.1; omega, by rw [hO.size]; exact hk.2, by have := hk.1; omega⟩
 exact ⟨A9, c9, rfl, hO.rs (by omega) h.rs, hO.but (by omega) h.but, h.bu.off (Nat.ne_of_lt hUV) hO, h.bv.set1 11 _, ⟨h.li.1, h.li.2.go itC_ok hk hB⟩, ⟨h.lf.1, h.lf.2.go srC_ok hk hB⟩, exC_ok.go hk hB h.lw, ⟨hl9, (hL.go exC_ok (fun k hk => hO.block k (hB9 k hk).2.2) hB9).xsB⟩⟩
theorem box12_set {w : World} {V : Nat} {T : TypeId} {a0 a1 a2 a3 a4 a5 a6 a7 a8 a9 a10 a11 : Value} (h : BxU w V #[a0, a1, a2, a3, a4, a5, a6, a7, a8, a9, a10, a11] T) (b3 b4 b5 b6 b7 b8 b9 b10 : Value) :
  BxU ((((((((w.setCell ⟨V, 3, none⟩ b3).setCell ⟨V, 4, none⟩ b4).setCell ⟨V, 5, none⟩ b5).setCell ⟨V, 6, none⟩ b6).setCell ⟨V, 7, none⟩ b7).setCell ⟨V, 8, none⟩ b8).setCell ⟨V, 9, none⟩ b9).setCell ⟨V, 10, none⟩ b10) V #[a0, a1, a2, b3, b4, b5, b6, b7, b8, b9, b10, a11] T := by
 unfold BxU at h ⊢
 simp [World.setCell, Array.getElem?_modify, h]
theorem PtS.whr {m U V : Nat} {w : World} {dist : Bool} {its : List Pa.Itm} {iA : Option Addr} {ic : Nat} {frs : List Pa.Src} {fA : Option Addr} {fc : Nat} {wh : Ex} {hd : Hd} {A : Option Addr} {n cp : Nat} {grp : List Ex} {gA : Option Addr} {gc : Nat} {s1 : Pa.Ps} {W : World} (h : PtS m U V w dist its iA ic frs fA fc wh hd A n cp grp gA gc s1 W) (hm : m < U) (hUV : U < V) (hw : w.heap.size ≤ U) {x2 : Ex} {hd2 : Hd} {A2 : Option Addr} {n2 cp2 b : Nat} (hx : exC (Bt b W.heap.size) W x2 (xcell (hd2, A2, n2, cp2))) (hb : V < b) :
  PtS m U V w dist its iA ic frs fA fc x2 hd2 A2 n2 cp2 grp gA gc s1 ((((((((W.setCell ⟨V, 3, none⟩ (.int .i64 hd2.k)).setCell ⟨V, 4, none⟩ (.int .i64 hd2.n)).setCell ⟨V, 5, none⟩ (.int .i64 hd2.vk)).setCell ⟨V, 6, none⟩ (.int .i64 hd2.vn)).setCell ⟨V, 7, none⟩ (.string hd2.vs)).setCell ⟨V, 8, none⟩ (.string hd2.tab)).setCell ⟨V, 9, none⟩ (.string hd2.col)).setCell ⟨V, 10, none⟩ (.slice A2 n2 cp2)) := by
 have hO : OnU V W ((((((((W.setCell ⟨V, 3, none⟩ (.int .i64 hd2.k)).setCell ⟨V, 4, none⟩ (.int .i64 hd2.n)).setCell ⟨V, 5, none⟩ (.int .i64 hd2.vk)).setCell ⟨V, 6, none⟩ (.int .i64 hd2.vn)).setCell ⟨V, 7, none⟩ (.string hd2.vs)).setCell ⟨V, 8, none⟩ (.string hd2.tab)).setCell ⟨V, 9, none⟩ (.string hd2.col)).setCell ⟨V, 10, none⟩ (.slice A2 n2 cp2)) := (OnU.refl V W).set.set.set.set.set.set.set.set
 have hk : ∀ k, Bv U V W.heap.size k → ((((((((W.setCell ⟨V, 3, none⟩ (.int .i64 hd2.k)).setCell ⟨V, 4, none⟩ (.int .i64 hd2.n)).setCell ⟨V, 5, none⟩ (.int .i64 hd2.vk)).setCell ⟨V, 6, none⟩ (.int .i64 hd2.vn)).setCell ⟨V, 7, none⟩ (.string hd2.vs)).setCell ⟨V, 8, none⟩ (.string hd2.tab)).setCell ⟨V, 9, none⟩ (.string hd2.col)).setCell ⟨V, 10, none⟩ (.slice A2 n2 cp2)).heap[k]? = W.heap[k]? := fun k hk => hO.block k hk.2.2
 have hB : ∀ k, Bv U V W.heap.size k → Bv U V ((((((((W.setCell ⟨V, 3, none⟩ (.int .i64 hd2.k)).setCell ⟨V, 4, none⟩ (.int .i64 hd2.n)).setCell ⟨V, 5, none⟩ (.int .i64 hd2.vk)).setCell ⟨V, 6, none⟩ (.int .i64 hd2.vn)).setCell ⟨V, 7, none⟩ (.string hd2.vs)).setCell ⟨V, 8, none⟩ (.string hd2.tab)).setCell ⟨V, 9, none⟩ (.string hd2.col)).setCell ⟨V, 10, none⟩ (.slice A2 n2 cp2)).heap.size k := fun k hk => ⟨hk.1, by rw [hO.size]; exact hk.2.1, hk.2.2⟩
 exact ⟨hO.rs (by omega) h.rs, hO.but (by omega) h.but, h.bu.off (Nat.ne_of_lt hUV) hO, box12_set h.bv _ _ _ _ _ _ _ _, ⟨h.li.1, h.li.2.go itC_ok hk hB⟩, ⟨h.lf.1, h.lf.2.go srC_ok hk hB⟩,
  exC_ok.go (fun k hk => hO.block k (by have := hk.1; omega)) (fun k hk => ⟨by have := hk.1; omega, by rw [hO.size]; exact hk.2, by have := hk.1; omega⟩) hx, ⟨h.lg.1, XsB.go hk hB _ _ h.lg.2⟩⟩
theorem PtS.told {m U V : Nat} {w : World} {dist : Bool} {its : List Pa.Itm} {iA : Option Addr} {ic : Nat} {frs : List Pa.Src} {fA : Option Addr} {fc : Nat} {wh : Ex} {hd : Hd} {A : Option Addr} {n cp : Nat} {grp : List Ex} {gA : Option Addr} {gc : Nat} {s1 : Pa.Ps} {W : World} (h : PtS m U V w dist its iA ic frs fA fc wh hd A n cp grp gA gc s1 W) : slC (Bt (U + 1) W.heap.size) W (⟨dist, its, frs, wh, grp⟩ : Pa.Sel) (.bool dist :: .slice iA its.length ic :: .slice fA frs.length fc :: (xcell (hd, A, n, cp) ++ [.slice gA grp.length gc])) := by
 have hB : ∀ k, Bv U V W.heap.size k → Bt (U + 1) W.heap.size k := fun k hk => ⟨hk.1, hk.2.1⟩
 obtain ⟨x, hc, hx⟩ := exC_ok.go (fun _ _ => rfl) hB h.lw
 exact ⟨iA, fA, gA, ic, fc, gc, x, by rw [hc], ⟨h.li.1, h.lf.1, h.lg.1⟩, h.li.2.go itC_ok (fun _ _ => rfl) hB, h.lf.2.go srC_ok (fun _ _ => rfl) hB, hx, XsB.go (fun _ _ => rfl) hB _ _ h.lg.2⟩
end Go.Proofs.YtfjimoccliejdaaGreatDoor
end
section
namespace Go.Proofs.YtfjimoccliejdaaGreatDoor
open Go.RowKit Go.Shelf

set_option maxRecDepth 100000 in
set_option maxHeartbeats 4000000 in
theorem ppart_any (F m N : Nat) (hN5 : N ≤ 5000) (HO : Ok 29 (Pa.lev F 0) m N) : OkP slC 42 (Pa.partP (Pa.lev F 0)) m N := by
 intro s w h hN
 have HOo := Lib.hid HO
 have HIt := Lib.hid (pitem_any F m N HO)
 have HCo := Lib.hid (show OkP exC 81 Pa.colP m N from fun s w h _ => pcol_any m s w h)
 clear HO
 have HB := Lib.hid (ba w (.cells #[.bool false, .slice none 0 0, .slice none 0 0, .int .i64 0, .int .i64 0, .int .i64 0, .int .i64 0, .string ⟨#[]⟩, .string ⟨#[]⟩, .string ⟨#[]⟩, .slice none 0 0, .slice none 0 0] 47))
 have HU := Lib.hid (show BxU _ _ #[.bool false, .slice none 0 0, .slice none 0 0, .int .i64 0, .int .i64 0, .int .i64 0, .int .i64 0, .string ⟨#[]⟩, .string ⟨#[]⟩, .string ⟨#[]⟩, .slice none 0 0, .slice none 0 0] 47 from (MapKept.heap_alloc w (.cells #[.bool false, .slice none 0 0, .slice none 0 0, .int .i64 0, .int .i64 0, .int .i64 0, .int .i64 0, .string ⟨#[]⟩, .string ⟨#[]⟩, .string ⟨#[]⟩, .slice none 0 0, .slice none 0 0] 47)).1)
 have H1 := Lib.hid (h.next HB.out)
 have hmU := h.lt
 have HFin := Lib.hid h.fin
 obtain ⟨U, hU⟩ : ∃ U, w.heap.size = U := ⟨_, rfl⟩
 have HUl := Lib.hid hU
 have HSz := Lib.hid (show (w.alloc (.cells #[.bool false, .slice none 0 0, .slice none 0 0, .int .i64 0, .int .i64 0, .int .i64 0, .int .i64 0, .string ⟨#[]⟩, .string ⟨#[]⟩, .string ⟨#[]⟩, .slice none 0 0, .slice none 0 0] 47)).heap.size = U + 1 by rw [World.size_alloc, hU])
 rw [hU] at HU hmU
 have HmU := Lib.hid hmU
 obtain ⟨X, hX⟩ : ∃ X, Pa.partP (Pa.lev F 0) s = X := ⟨_, rfl⟩
 rw [hX]
 have HX := Lib.hid hX
 clear h hX hmU
 go_enter Tryz.func42, Tryz.ntmps42
 go_wp2_with fail
 generalize w.alloc (.cells #[.bool false, .slice none 0 0, .slice none 0 0, .int .i64 0, .int .i64 0, .int .i64 0, .int .i64 0, .string ⟨#[]⟩, .string ⟨#[]⟩, .string ⟨#[]⟩, .slice none 0 0, .slice none 0 0] 47) = W1 at HB HU H1 HSz ⊢
 clear hU
 have HM1 := Lib.hid (show ButM m w W1 from ButM.of HB.out)
 have hl1 := (Pa.mustW_le Pa.wSELECT HFin.out)
 have HT1 := Lib.hid (must_any m s Pa.wSELECT W1 H1.out)
 obtain ⟨s1, hs1⟩ : ∃ z, Pa.mustW Pa.wSELECT s = z := ⟨_, rfl⟩
 rw [hs1] at HT1
 have HK1 := Lib.hid hs1
 clear hs1
 go_wp2_with fail
 refine HT1.out.mono ?_
 rintro e v1 ⟨rfl, hR, hM⟩
 have HMn1 := Lib.hid (HM1.out.trans hM)
 have HUn1 := Lib.hid (HU.out.but HmU.out hM)
 have HRn1 := Lib.hid hR
 clear hR hM
 rw [HK1.out] at hl1
 have HT2 := Lib.hid (take_any m s1 Pa.wDISTINCT v1 HRn1.out)
 obtain ⟨t2, ht⟩ : ∃ z, (Pa.takeW Pa.wDISTINCT s1).1 = z := ⟨_, rfl⟩
 obtain ⟨s2, hs⟩ : ∃ z, (Pa.takeW Pa.wDISTINCT s1).2 = z := ⟨_, rfl⟩
 have hno2 := (Pa.takeW_le Pa.wDISTINCT HRn1.out.fin).2.2
 rw [ht, hs] at HT2 hno2
 have HK2 := Lib.hid (show Pa.takeW Pa.wDISTINCT s1 = (t2, s2) by rw [← ht, ← hs])
 clear ht hs
 have hl2 := (Pa.takeW_le Pa.wDISTINCT HRn1.out.fin).1
 rw [HK2.out] at hl2
 have HN2 := Lib.hid (show s2.ts.length ≤ N by have := hl1.len; have := hl2.len; (try simp only at this); omega)
 clear hno2 hl1 hl2 hN
 go_wp2_with fail
 refine HT2.out.mono ?_
 rintro e v2 ⟨rfl, hR, hM⟩
 have HMn2 := Lib.hid (HMn1.out.trans hM)
 have HUn2 := Lib.hid (HUn1.out.but HmU.out hM)
 have HRn2 := Lib.hid hR
 clear hR hM
 have hbv := ba v2 (.cells #[.bool t2, .slice none 0 0, .slice none 0 0, .int .i64 0, .int .i64 0, .int .i64 0, .int .i64 0, .string ⟨#[]⟩, .string ⟨#[]⟩, .string ⟨#[]⟩, .slice none 0 0, .slice none 0 0] 47)
 have hVv := (MapKept.heap_alloc v2 (.cells #[.bool t2, .slice none 0 0, .slice none 0 0, .int .i64 0, .int .i64 0, .int .i64 0, .int .i64 0, .string ⟨#[]⟩, .string ⟨#[]⟩, .string ⟨#[]⟩, .slice none 0 0, .slice none 0 0] 47)).1
 obtain ⟨V, hV⟩ : ∃ V, v2.heap.size = V := ⟨_, rfl⟩
 rw [hV] at hVv
 have HVl := Lib.hid hV
 have HUV := Lib.hid (show U < V by rw [← hV]; exact HUn2.out.lt)
 have HwU := Lib.hid (show w.heap.size ≤ U by rw [HUl.out]; exact Nat.le_refl _)
 have HS3 := Lib.hid (show PtS m U V w t2 [] none 0 [] none 0 Pa.exZ ⟨0, 0, 0, 0, ⟨#[]⟩, ⟨#[]⟩, ⟨#[]⟩⟩ none 0 0 [] none 0 s2 (v2.alloc (.cells #[.bool t2, .slice none 0 0, .slice none 0 0, .int .i64 0, .int .i64 0, .int .i64 0, .int .i64 0, .string ⟨#[]⟩, .string ⟨#[]⟩, .string ⟨#[]⟩, .slice none 0 0, .slice none 0 0] 47)) from ⟨HRn2.out.next hbv, HMn2.out.trans (ButM.of hbv), HUn2.out.next hbv, hVv, ⟨Nat.le_refl _, Ls.nil _ _ _ _⟩, ⟨Nat.le_refl _, Ls.nil _ _ _ _⟩, exZ_at _ _, ⟨Nat.le_refl _, by rw [XsB]; trivial⟩⟩)
 have HSz3 := Lib.hid (show (v2.alloc (.cells #[.bool t2, .slice none 0 0, .slice none 0 0, .int .i64 0, .int .i64 0, .int .i64 0, .int .i64 0, .string ⟨#[]⟩, .string ⟨#[]⟩, .string ⟨#[]⟩, .slice none 0 0, .slice none 0 0] 47)).heap.size = V + 1 by rw [World.size_alloc, hV])
 clear hbv hVv
 have hbg := ba (v2.alloc (.cells #[.bool t2, .slice none 0 0, .slice none 0 0, .int .i64 0, .int .i64 0, .int .i64 0, .int .i64 0, .string ⟨#[]⟩, .string ⟨#[]⟩, .string ⟨#[]⟩, .slice none 0 0, .slice none 0 0] 47)) (.cells #[st [44]] 9)
 have hgg : BxU ((v2.alloc (.cells #[.bool t2, .slice none 0 0, .slice none 0 0, .int .i64 0, .int .i64 0, .int .i64 0, .int .i64 0, .string ⟨#[]⟩, .string ⟨#[]⟩, .string ⟨#[]⟩, .slice none 0 0, .slice none 0 0] 47)).alloc (.cells #[st [44]] 9)) (V + 1) #[st [44]] 9 := by have := (MapKept.heap_alloc (v2.alloc (.cells #[.bool t2, .slice none 0 0, .slice none 0 0, .int .i64 0, .int .i64 0, .int .i64 0, .int .i64 0, .string ⟨#[]⟩, .string ⟨#[]⟩, .string ⟨#[]⟩, .slice none 0 0, .slice none 0 0] 47)) (.cells #[st [44]] 9)).1; rw [HSz3.out] at this; exact this
 have HS4 := Lib.hid (HS3.out.next hbg)
 have HTi := Lib.hid (listI_any (Pa.itemP (Pa.lev F 0)) (fun s hs => Pa.itemP_le (fun s hs => Pa.lev_le F 0 s hs) hs) m N hN5 HIt.out s2 [44] (V + 1) _ HS4.out.rs HN2.out (by have := HmU.out; have := HUV.out; omega) (hgg.cell 0))
 have HSz4 := Lib.hid (show V < ((v2.alloc (.cells #[.bool t2, .slice none 0 0, .slice none 0 0, .int .i64 0, .int .i64 0, .int .i64 0, .int .i64 0, .string ⟨#[]⟩, .string ⟨#[]⟩, .string ⟨#[]⟩, .slice none 0 0, .slice none 0 0] 47)).alloc (.cells #[st [44]] 9)).heap.size by rw [World.size_alloc, HSz3.out]; omega)
 obtain ⟨⟨its, si⟩, hi⟩ : ∃ q, Pa.listP (Pa.itemP (Pa.lev F 0)) [44] [] s2 = q := ⟨_, rfl⟩
 have hli := Pa.listP_le (w := [44]) (ws := []) (fun s hs => Pa.itemP_le (fun s hs => Pa.lev_le F 0 s hs) hs) HRn2.out.fin
 rw [hi] at HTi hli
 have HKi := Lib.hid hi
 simp only at HTi
 have HNi := Lib.hid (show si.ts.length ≤ N from Nat.le_trans (show si.ts.length ≤ _ from hli.len) HN2.out)
 clear hbg hgg hi hli
 go_wp2_with fail
 clear hV
 refine HTi.out.mono ?_
 rintro e v4 ⟨vi, rfl, hO, hR, hM⟩
 obtain ⟨iA, ic, rfl, hS5⟩ := (HS4.out.step HmU.out HUV.out hM hR).items HmU.out HUV.out HwU.out hO HSz4.out
 have HSv := Lib.hid (HS4.out.step HmU.out HUV.out hM hR)
 have d1 := HSv.out.bv.cell 1
 have fd1 := HSv.out.bv.frozen 1
 have d1 : v4.cell? ⟨V, 1, none⟩ = some (.slice none 0 0) := HSv.out.bv.cell 1
 have HS5 := Lib.hid hS5
 clear hO hR hM hS5
 have hlf := Pa.mustW_le Pa.wFROM HSv.out.rs.fin
 obtain ⟨sm, hsm⟩ : ∃ z, Pa.mustW Pa.wFROM si = z := ⟨_, rfl⟩
 have HTm := Lib.hid (must_any m si Pa.wFROM _ HS5.out.rs)
 rw [hsm] at HTm hlf
 have HKm := Lib.hid hsm
 have HNm := Lib.hid (show sm.ts.length ≤ N by have := hlf.len; have := HNi.out; omega)
 clear hsm hlf
 go_wp2_with fail
 generalize v4.setCell ⟨V, 1, none⟩ (.slice iA its.length ic) = W5 at HS5 HTm ⊢
 clear d1 fd1
 refine HTm.out.mono ?_
 rintro e v6 ⟨rfl, hR, hM⟩
 have HS6 := Lib.hid (HS5.out.step HmU.out HUV.out hM hR)
 clear hR hM
 have HTf := Lib.hid (psources_any F m N hN5 HOo.out sm v6 HS6.out.rs HNm.out)
 obtain ⟨⟨frs, sf⟩, hf⟩ : ∃ q, Pa.fromP (Pa.lev F 0) sm = q := ⟨_, rfl⟩
 have hlf := Pa.fromP_le (fun s hs => Pa.lev_le F 0 s hs) HS6.out.rs.fin
 rw [hf] at HTf hlf
 have HKf := Lib.hid hf
 simp only at HTf
 have HNf := Lib.hid (show sf.ts.length ≤ N from Nat.le_trans (show sf.ts.length ≤ _ from hlf.len) HNm.out)
 have HVs6 := Lib.hid (show V < v6.heap.size from HS6.out.bv.lt)
 clear hf hlf
 go_wp2_with fail
 refine HTf.out.mono ?_
 rintro e v7 ⟨vf, rfl, hO, hR, hM⟩
 obtain ⟨fA, fc, rfl, hS8⟩ := (HS6.out.step HmU.out HUV.out hM hR).froms HmU.out HUV.out HwU.out hO HVs6.out
 have HSw := Lib.hid (HS6.out.step HmU.out HUV.out hM hR)
 have d2 : v7.cell? ⟨V, 2, none⟩ = some (.slice none 0 0) := HSw.out.bv.cell 2
 have fd2 := HSw.out.bv.frozen 2
 have HS8 := Lib.hid hS8
 clear hO hR hM hS8
 have HTw := Lib.hid (take_any m sf Pa.wWHERE _ HS8.out.rs)
 have hnow := (Pa.takeW_le Pa.wWHERE HSw.out.rs.fin)
 obtain ⟨tw, ht⟩ : ∃ z, (Pa.takeW Pa.wWHERE sf).1 = z := ⟨_, rfl⟩
 obtain ⟨sw, hs⟩ : ∃ z, (Pa.takeW Pa.wWHERE sf).2 = z := ⟨_, rfl⟩
 rw [ht, hs] at HTw
 rw [ht, hs] at hnow
 have HKw := Lib.hid (show Pa.takeW Pa.wWHERE sf = (tw, sw) by rw [← ht, ← hs])
 have HNw := Lib.hid (show sw.ts.length ≤ N by have := hnow.1.len; have := HNf.out; omega)
 have hno := hnow.2.2
 clear ht hs hnow
 go_wp2_with fail
 generalize v7.setCell ⟨V, 2, none⟩ (.slice fA frs.length fc) = W8 at HS8 HTw ⊢
 clear d2 fd2
 refine HTw.out.mono ?_
 rintro e v9 ⟨rfl, hR, hM⟩
 have HS9 := Lib.hid (HS8.out.step HmU.out HUV.out hM hR)
 clear hR hM
 cases tw with
 | true =>
  clear hno
  have HTo := Lib.hid (HOo.out sw v9 HS9.out.rs HNw.out)
  obtain ⟨⟨wh, so⟩, ho⟩ : ∃ q, Pa.lev F 0 sw = q := ⟨_, rfl⟩
  have hlo := Pa.lev_le F 0 sw HS9.out.rs.fin
  rw [ho] at HTo hlo
  have HKo := Lib.hid ho
  simp only at HTo
  have HNo := Lib.hid (show so.ts.length ≤ N from Nat.le_trans (show so.ts.length ≤ _ from hlo.len) HNw.out)
  have HV9 := Lib.hid (show V < v9.heap.size from HS9.out.bv.lt)
  clear ho hlo
  go_wp2_with fail
  refine HTo.out.mono ?_
  intro e v5 hE
  obtain ⟨hd2, A2, n2, cp2, rfl, hC, hR, hM⟩ := exV hE
  clear hE
  have HSy := Lib.hid (HS9.out.step HmU.out HUV.out hM hR)
  have HSo := Lib.hid (HSy.out.whr (x2 := wh) (hd2 := hd2) (A2 := A2) (n2 := n2) (cp2 := cp2) HmU.out HUV.out HwU.out hC HV9.out)
  clear hC hR hM
  have d3 : v5.cell? ⟨V, 3, none⟩ = some (.int .i64 0) := HSy.out.bv.cell 3
  have d4 : v5.cell? ⟨V, 4, none⟩ = some (.int .i64 0) := HSy.out.bv.cell 4
  have d5 : v5.cell? ⟨V, 5, none⟩ = some (.int .i64 0) := HSy.out.bv.cell 5
  have d6 : v5.cell? ⟨V, 6, none⟩ = some (.int .i64 0) := HSy.out.bv.cell 6
  have d7 : v5.cell? ⟨V, 7, none⟩ = some (.string ⟨#[]⟩) := HSy.out.bv.cell 7
  have d8 : v5.cell? ⟨V, 8, none⟩ = some (.string ⟨#[]⟩) := HSy.out.bv.cell 8
  have d9 : v5.cell? ⟨V, 9, none⟩ = some (.string ⟨#[]⟩) := HSy.out.bv.cell 9
  have d10 : v5.cell? ⟨V, 10, none⟩ = some (.slice none 0 0) := HSy.out.bv.cell 10
  have fd3 := HSy.out.bv.frozen 3
  have fd4 := HSy.out.bv.frozen 4
  have fd5 := HSy.out.bv.frozen 5
  have fd6 := HSy.out.bv.frozen 6
  have fd7 := HSy.out.bv.frozen 7
  have fd8 := HSy.out.bv.frozen 8
  have fd9 := HSy.out.bv.frozen 9
  have fd10 := HSy.out.bv.frozen 10
  go_upto_region 8 with fail
  generalize ((((((((v5.setCell ⟨V, 3, none⟩ (.int .i64 hd2.k)).setCell ⟨V, 4, none⟩ (.int .i64 hd2.n)).setCell ⟨V, 5, none⟩ (.int .i64 hd2.vk)).setCell ⟨V, 6, none⟩ (.int .i64 hd2.vn)).setCell ⟨V, 7, none⟩ (.string hd2.vs)).setCell ⟨V, 8, none⟩ (.string hd2.tab)).setCell ⟨V, 9, none⟩ (.string hd2.col)).setCell ⟨V, 10, none⟩ (.slice A2 n2 cp2)) = W10 at HSo ⊢
  clear d3 fd3 d4 fd4 d5 fd5 d6 fd6 d7 fd7 d8 fd8 d9 fd9 d10 fd10
  have hbo := ba W10 (.cells #[st Pa.wGROUP, st Pa.wBY] 9)
  have hgo : BxU (W10.alloc (.cells #[st Pa.wGROUP, st Pa.wBY] 9)) W10.heap.size #[st Pa.wGROUP, st Pa.wBY] 9 := (MapKept.heap_alloc W10 (.cells #[st Pa.wGROUP, st Pa.wBY] 9)).1
  have HS10 := Lib.hid (HSo.out.next hbo)
  have HTg := Lib.hid (takeAll2_any m so Pa.wGROUP Pa.wBY W10.heap.size _ HS10.out.rs HSo.out.rs.lt (hgo.cell 0) (hgo.cell 1))
  have hng := Pa.takeAll_le Pa.wGROUP [Pa.wBY] HSo.out.rs.fin
  obtain ⟨tg, ht⟩ : ∃ z, (Pa.takeAll Pa.wGROUP [Pa.wBY] so).1 = z := ⟨_, rfl⟩
  obtain ⟨sg, hs⟩ : ∃ z, (Pa.takeAll Pa.wGROUP [Pa.wBY] so).2 = z := ⟨_, rfl⟩
  rw [ht, hs] at HTg
  rw [ht, hs] at hng
  have HKg := Lib.hid (show Pa.takeAll Pa.wGROUP [Pa.wBY] so = (tg, sg) by rw [← ht, ← hs])
  have HNg := Lib.hid (show sg.ts.length ≤ N by have := hng.1.len; have := HNo.out; omega)
  have hno2 := hng.2.2
  clear ht hs hng hbo hgo
  go_wp2_with fail
  refine HTg.out.mono ?_
  rintro e v11 ⟨rfl, hR, hM⟩
  have HS11 := Lib.hid (HS10.out.step HmU.out HUV.out hM hR)
  clear hR hM
  cases tg with
  | true =>
   clear hno2
   have hbg := ba v11 (.cells #[st [44]] 9)
   have hgg : BxU (v11.alloc (.cells #[st [44]] 9)) v11.heap.size #[st [44]] 9 := (MapKept.heap_alloc v11 (.cells #[st [44]] 9)).1
   have HS12 := Lib.hid (HS11.out.next hbg)
   have HTl := Lib.hid (listE_any Pa.colP (fun s hs => Pa.colP_le hs) m N hN5 HCo.out sg [44] v11.heap.size _ HS12.out.rs HNg.out HS11.out.rs.lt (hgg.cell 0))
   obtain ⟨⟨grp, sl⟩, hl⟩ : ∃ q, Pa.listP Pa.colP [44] [] sg = q := ⟨_, rfl⟩
   rw [hl] at HTl
   have HKl := Lib.hid hl
   simp only at HTl
   have HVs := Lib.hid (show V < (v11.alloc (.cells #[st [44]] 9)).heap.size from HS12.out.bv.lt)
   clear hl hbg hgg
   go_wp2_with fail
   refine HTl.out.mono ?_
   rintro e v13 ⟨vg, rfl, hO, hR, hM⟩
   obtain ⟨gA, gc, rfl, hS14⟩ := (HS12.out.step HmU.out HUV.out hM hR).groups HmU.out HUV.out HwU.out hO HVs.out
   have HSx := Lib.hid (HS12.out.step HmU.out HUV.out hM hR)
   have HS14 := Lib.hid hS14
   have hUneV : U ≠ V := Nat.ne_of_lt HUV.out
   have hVneU := hUneV.symm
   clear hO hR hM hS14
   obtain ⟨d0, d1, d2, d3, d4, d5, d6, d7, d8, d9, d10, d11⟩ := cl12 (w := v13) HSx.out.bv
   have fd11 := HSx.out.bv.frozen 11
   have HXe := Lib.hid (show X = (⟨t2, its, frs, wh, grp⟩, sl) by rw [← HX.out]; simp only [Pa.partP, HK1.out, HK2.out, HKi.out, HKm.out, HKf.out, Pa.whereP, HKw.out, if_true, HKo.out, Pa.groupP, HKg.out, if_true, HKl.out])
   obtain ⟨c0, c1, c2, c3, c4, c5, c6, c7, c8, c9, c10, c11⟩ := cl12 (w := ((v13.setCell ⟨V, 11, none⟩ (.slice gA grp.length gc)))) (HS14.out.bu)
   have fc0 := (HS14.out.bu).frozen 0
   have fc1 := (HS14.out.bu).frozen 1
   have fc2 := (HS14.out.bu).frozen 2
   have fc3 := (HS14.out.bu).frozen 3
   have fc4 := (HS14.out.bu).frozen 4
   have fc5 := (HS14.out.bu).frozen 5
   have fc6 := (HS14.out.bu).frozen 6
   have fc7 := (HS14.out.bu).frozen 7
   have fc8 := (HS14.out.bu).frozen 8
   have fc9 := (HS14.out.bu).frozen 9
   have fc10 := (HS14.out.bu).frozen 10
   have fc11 := (HS14.out.bu).frozen 11
   go_wp2_with fail
   exact bodyPost_ret (v := .agg #[.bool t2, .slice iA its.length ic, .slice fA frs.length fc, .int .i64 hd2.k, .int .i64 hd2.n, .int .i64 hd2.vk, .int .i64 hd2.vn, .string hd2.vs, .string hd2.tab, .string hd2.col, .slice A2 n2 cp2, .slice gA grp.length gc]) (by simp [results, Tryz.results42, go_sem, c0, c1, c2, c3, c4, c5, c6, c7, c8, c9, c10, c11]) rfl (by rw [HXe.out]; exact RuE.fin (c := [.bool t2, .slice iA its.length ic, .slice fA frs.length fc, .int .i64 hd2.k, .int .i64 hd2.n, .int .i64 hd2.vk, .int .i64 hd2.vn, .string hd2.vs, .string hd2.tab, .string hd2.col, .slice A2 n2 cp2, .slice gA grp.length gc]) slC_ok HUl.out HmU.out HS14.out.but HS14.out.rs HS14.out.told (OnU.refl _ _).set.set.set.set.set.set.set.set.set.set.set.set)
  | false =>
   obtain rfl := hno2 rfl
   clear hno2
   have hUneV : U ≠ V := Nat.ne_of_lt HUV.out
   have hVneU := hUneV.symm
   obtain ⟨d0, d1, d2, d3, d4, d5, d6, d7, d8, d9, d10, d11⟩ := cl12 (w := v11) HS11.out.bv
   have HXe := Lib.hid (show X = (⟨t2, its, frs, wh, []⟩, sg) by rw [← HX.out]; simp only [Pa.partP, HK1.out, HK2.out, HKi.out, HKm.out, HKf.out, Pa.whereP, HKw.out, if_true, HKo.out, Pa.groupP, HKg.out, Bool.false_eq_true, if_false])
   obtain ⟨c0, c1, c2, c3, c4, c5, c6, c7, c8, c9, c10, c11⟩ := cl12 (w := v11) (HS11.out.bu)
   have fc0 := (HS11.out.bu).frozen 0
   have fc1 := (HS11.out.bu).frozen 1
   have fc2 := (HS11.out.bu).frozen 2
   have fc3 := (HS11.out.bu).frozen 3
   have fc4 := (HS11.out.bu).frozen 4
   have fc5 := (HS11.out.bu).frozen 5
   have fc6 := (HS11.out.bu).frozen 6
   have fc7 := (HS11.out.bu).frozen 7
   have fc8 := (HS11.out.bu).frozen 8
   have fc9 := (HS11.out.bu).frozen 9
   have fc10 := (HS11.out.bu).frozen 10
   have fc11 := (HS11.out.bu).frozen 11
   go_wp2_with fail
   exact bodyPost_ret (v := .agg #[.bool t2, .slice iA its.length ic, .slice fA frs.length fc, .int .i64 hd2.k, .int .i64 hd2.n, .int .i64 hd2.vk, .int .i64 hd2.vn, .string hd2.vs, .string hd2.tab, .string hd2.col, .slice A2 n2 cp2, .slice none 0 0]) (by simp [results, Tryz.results42, go_sem, c0, c1, c2, c3, c4, c5, c6, c7, c8, c9, c10, c11]) rfl (by rw [HXe.out]; exact RuE.fin (c := [.bool t2, .slice iA its.length ic, .slice fA frs.length fc, .int .i64 hd2.k, .int .i64 hd2.n, .int .i64 hd2.vk, .int .i64 hd2.vn, .string hd2.vs, .string hd2.tab, .string hd2.col, .slice A2 n2 cp2, .slice none 0 0]) slC_ok HUl.out HmU.out HS11.out.but HS11.out.rs HS11.out.told (OnU.refl _ _).set.set.set.set.set.set.set.set.set.set.set.set)
 | false =>
  obtain rfl := hno rfl
  clear hno
  go_upto_region 8 with fail
  have hbo := ba v9 (.cells #[st Pa.wGROUP, st Pa.wBY] 9)
  have hgo : BxU (v9.alloc (.cells #[st Pa.wGROUP, st Pa.wBY] 9)) v9.heap.size #[st Pa.wGROUP, st Pa.wBY] 9 := (MapKept.heap_alloc v9 (.cells #[st Pa.wGROUP, st Pa.wBY] 9)).1
  have HS10 := Lib.hid (HS9.out.next hbo)
  have HTg := Lib.hid (takeAll2_any m sw Pa.wGROUP Pa.wBY v9.heap.size _ HS10.out.rs HS9.out.rs.lt (hgo.cell 0) (hgo.cell 1))
  have hng := Pa.takeAll_le Pa.wGROUP [Pa.wBY] HS9.out.rs.fin
  obtain ⟨tg, ht⟩ : ∃ z, (Pa.takeAll Pa.wGROUP [Pa.wBY] sw).1 = z := ⟨_, rfl⟩
  obtain ⟨sg, hs⟩ : ∃ z, (Pa.takeAll Pa.wGROUP [Pa.wBY] sw).2 = z := ⟨_, rfl⟩
  rw [ht, hs] at HTg
  rw [ht, hs] at hng
  have HKg := Lib.hid (show Pa.takeAll Pa.wGROUP [Pa.wBY] sw = (tg, sg) by rw [← ht, ← hs])
  have HNg := Lib.hid (show sg.ts.length ≤ N by have := hng.1.len; have := HNw.out; omega)
  have hno2 := hng.2.2
  clear ht hs hng hbo hgo
  go_wp2_with fail
  refine HTg.out.mono ?_
  rintro e v11 ⟨rfl, hR, hM⟩
  have HS11 := Lib.hid (HS10.out.step HmU.out HUV.out hM hR)
  clear hR hM
  cases tg with
  | true =>
   clear hno2
   have hbg := ba v11 (.cells #[st [44]] 9)
   have hgg : BxU (v11.alloc (.cells #[st [44]] 9)) v11.heap.size #[st [44]] 9 := (MapKept.heap_alloc v11 (.cells #[st [44]] 9)).1
   have HS12 := Lib.hid (HS11.out.next hbg)
   have HTl := Lib.hid (listE_any Pa.colP (fun s hs => Pa.colP_le hs) m N hN5 HCo.out sg [44] v11.heap.size _ HS12.out.rs HNg.out HS11.out.rs.lt (hgg.cell 0))
   obtain ⟨⟨grp, sl⟩, hl⟩ : ∃ q, Pa.listP Pa.colP [44] [] sg = q := ⟨_, rfl⟩
   rw [hl] at HTl
   have HKl := Lib.hid hl
   simp only at HTl
   have HVs := Lib.hid (show V < (v11.alloc (.cells #[st [44]] 9)).heap.size from HS12.out.bv.lt)
   clear hl hbg hgg
   go_wp2_with fail
   refine HTl.out.mono ?_
   rintro e v13 ⟨vg, rfl, hO, hR, hM⟩
   obtain ⟨gA, gc, rfl, hS14⟩ := (HS12.out.step HmU.out HUV.out hM hR).groups HmU.out HUV.out HwU.out hO HVs.out
   have HSx := Lib.hid (HS12.out.step HmU.out HUV.out hM hR)
   have HS14 := Lib.hid hS14
   have hUneV : U ≠ V := Nat.ne_of_lt HUV.out
   have hVneU := hUneV.symm
   clear hO hR hM hS14
   obtain ⟨d0, d1, d2, d3, d4, d5, d6, d7, d8, d9, d10, d11⟩ := cl12 (w := v13) HSx.out.bv
   have fd11 := HSx.out.bv.frozen 11
   have HXe := Lib.hid (show X = (⟨t2, its, frs, Pa.exZ, grp⟩, sl) by rw [← HX.out]; simp only [Pa.partP, HK1.out, HK2.out, HKi.out, HKm.out, HKf.out, Pa.whereP, HKw.out, Bool.false_eq_true, if_false, Pa.groupP, HKg.out, if_true, HKl.out])
   obtain ⟨c0, c1, c2, c3, c4, c5, c6, c7, c8, c9, c10, c11⟩ := cl12 (w := ((v13.setCell ⟨V, 11, none⟩ (.slice gA grp.length gc)))) (HS14.out.bu)
   have fc0 := (HS14.out.bu).frozen 0
   have fc1 := (HS14.out.bu).frozen 1
   have fc2 := (HS14.out.bu).frozen 2
   have fc3 := (HS14.out.bu).frozen 3
   have fc4 := (HS14.out.bu).frozen 4
   have fc5 := (HS14.out.bu).frozen 5
   have fc6 := (HS14.out.bu).frozen 6
   have fc7 := (HS14.out.bu).frozen 7
   have fc8 := (HS14.out.bu).frozen 8
   have fc9 := (HS14.out.bu).frozen 9
   have fc10 := (HS14.out.bu).frozen 10
   have fc11 := (HS14.out.bu).frozen 11
   go_wp2_with fail
   exact bodyPost_ret (v := .agg #[.bool t2, .slice iA its.length ic, .slice fA frs.length fc, .int .i64 (⟨0, 0, 0, 0, ⟨#[]⟩, ⟨#[]⟩, ⟨#[]⟩⟩ : Hd).k, .int .i64 (⟨0, 0, 0, 0, ⟨#[]⟩, ⟨#[]⟩, ⟨#[]⟩⟩ : Hd).n, .int .i64 (⟨0, 0, 0, 0, ⟨#[]⟩, ⟨#[]⟩, ⟨#[]⟩⟩ : Hd).vk, .int .i64 (⟨0, 0, 0, 0, ⟨#[]⟩, ⟨#[]⟩, ⟨#[]⟩⟩ : Hd).vn, .string (⟨0, 0, 0, 0, ⟨#[]⟩, ⟨#[]⟩, ⟨#[]⟩⟩ : Hd).vs, .string (⟨0, 0, 0, 0, ⟨#[]⟩, ⟨#[]⟩, ⟨#[]⟩⟩ : Hd).tab, .string (⟨0, 0, 0, 0, ⟨#[]⟩, ⟨#[]⟩, ⟨#[]⟩⟩ : Hd).col, .slice none 0 0, .slice gA grp.length gc]) (by simp [results, Tryz.results42, go_sem, c0, c1, c2, c3, c4, c5, c6, c7, c8, c9, c10, c11]) rfl (by rw [HXe.out]; exact RuE.fin (c := [.bool t2, .slice iA its.length ic, .slice fA frs.length fc, .int .i64 (⟨0, 0, 0, 0, ⟨#[]⟩, ⟨#[]⟩, ⟨#[]⟩⟩ : Hd).k, .int .i64 (⟨0, 0, 0, 0, ⟨#[]⟩, ⟨#[]⟩, ⟨#[]⟩⟩ : Hd).n, .int .i64 (⟨0, 0, 0, 0, ⟨#[]⟩, ⟨#[]⟩, ⟨#[]⟩⟩ : Hd).vk, .int .i64 (⟨0, 0, 0, 0, ⟨#[]⟩, ⟨#[]⟩, ⟨#[]⟩⟩ : Hd).vn, .string (⟨0, 0, 0, 0, ⟨#[]⟩, ⟨#[]⟩, ⟨#[]⟩⟩ : Hd).vs, .string (⟨0, 0, 0, 0, ⟨#[]⟩, ⟨#[]⟩, ⟨#[]⟩⟩ : Hd).tab, .string (⟨0, 0, 0, 0, ⟨#[]⟩, ⟨#[]⟩, ⟨#[]⟩⟩ : Hd).col, .slice none 0 0, .slice gA grp.length gc]) slC_ok HUl.out HmU.out HS14.out.but HS14.out.rs HS14.out.told (OnU.refl _ _).set.set.set.set.set.set.set.set.set.set.set.set)
  | false =>
   obtain rfl := hno2 rfl
   clear hno2
   have hUneV : U ≠ V := Nat.ne_of_lt HUV.out
   have hVneU := hUneV.symm
   obtain ⟨d0, d1, d2, d3, d4, d5, d6, d7, d8, d9, d10, d11⟩ := cl12 (w := v11) HS11.out.bv
   have HXe := Lib.hid (show X = (⟨t2, its, frs, Pa.exZ, []⟩, sg) by rw [← HX.out]; simp only [Pa.partP, HK1.out, HK2.out, HKi.out, HKm.out, HKf.out, Pa.whereP, HKw.out, Pa.groupP, HKg.out, Bool.false_eq_true, if_false])
   obtain ⟨c0, c1, c2, c3, c4, c5, c6, c7, c8, c9, c10, c11⟩ := cl12 (w := v11) (HS11.out.bu)
   have fc0 := (HS11.out.bu).frozen 0
   have fc1 := (HS11.out.bu).frozen 1
   have fc2 := (HS11.out.bu).frozen 2
   have fc3 := (HS11.out.bu).frozen 3
   have fc4 := (HS11.out.bu).frozen 4
   have fc5 := (HS11.out.bu).frozen 5
   have fc6 := (HS11.out.bu).frozen 6
   have fc7 := (HS11.out.bu).frozen 7
   have fc8 := (HS11.out.bu).frozen 8
   have fc9 := (HS11.out.bu).frozen 9
   have fc10 := (HS11.out.bu).frozen 10
   have fc11 := (HS11.out.bu).frozen 11
   go_wp2_with fail
   exact bodyPost_ret (v := .agg #[.bool t2, .slice iA its.length ic, .slice fA frs.length fc, .int .i64 (⟨0, 0, 0, 0, ⟨#[]⟩, ⟨#[]⟩, ⟨#[]⟩⟩ : Hd).k, .int .i64 (⟨0, 0, 0, 0, ⟨#[]⟩, ⟨#[]⟩, ⟨#[]⟩⟩ : Hd).n, .int .i64 (⟨0, 0, 0, 0, ⟨#[]⟩, ⟨#[]⟩, ⟨#[]⟩⟩ : Hd).vk, .int .i64 (⟨0, 0, 0, 0, ⟨#[]⟩, ⟨#[]⟩, ⟨#[]⟩⟩ : Hd).vn, .string (⟨0, 0, 0, 0, ⟨#[]⟩, ⟨#[]⟩, ⟨#[]⟩⟩ : Hd).vs, .string (⟨0, 0, 0, 0, ⟨#[]⟩, ⟨#[]⟩, ⟨#[]⟩⟩ : Hd).tab, .string (⟨0, 0, 0, 0, ⟨#[]⟩, ⟨#[]⟩, ⟨#[]⟩⟩ : Hd).col, .slice none 0 0, .slice none 0 0]) (by simp [results, Tryz.results42, go_sem, c0, c1, c2, c3, c4, c5, c6, c7, c8, c9, c10, c11]) rfl (by rw [HXe.out]; exact RuE.fin (c := [.bool t2, .slice iA its.length ic, .slice fA frs.length fc, .int .i64 (⟨0, 0, 0, 0, ⟨#[]⟩, ⟨#[]⟩, ⟨#[]⟩⟩ : Hd).k, .int .i64 (⟨0, 0, 0, 0, ⟨#[]⟩, ⟨#[]⟩, ⟨#[]⟩⟩ : Hd).n, .int .i64 (⟨0, 0, 0, 0, ⟨#[]⟩, ⟨#[]⟩, ⟨#[]⟩⟩ : Hd).vk, .int .i64 (⟨0, 0, 0, 0, ⟨#[]⟩, ⟨#[]⟩, ⟨#[]⟩⟩ : Hd).vn, .string (⟨0, 0, 0, 0, ⟨#[]⟩, ⟨#[]⟩, ⟨#[]⟩⟩ : Hd).vs, .string (⟨0, 0, 0, 0, ⟨#[]⟩, ⟨#[]⟩, ⟨#[]⟩⟩ : Hd).tab, .string (⟨0, 0, 0, 0, ⟨#[]⟩, ⟨#[]⟩, ⟨#[]⟩⟩ : Hd).col, .slice none 0 0, .slice none 0 0]) slC_ok HUl.out HmU.out HS11.out.but HS11.out.rs HS11.out.told (OnU.refl _ _).set.set.set.set.set.set.set.set.set.set.set.set)
end Go.Proofs.YtfjimoccliejdaaGreatDoor
end
