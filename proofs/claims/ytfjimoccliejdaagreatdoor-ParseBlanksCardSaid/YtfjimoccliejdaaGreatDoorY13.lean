/-
  Rules of queries: a part.
Rules of queries: the whole query.
The document's Depth and Safe.
All.
  What must come of every program: expr's lives.
The document's one, walk, Check, Size.
Texts of expressions are those of one expression alone, but for columns' places.
The document's Check, Size, SameList.
The document's Large.
  The document's contracts, of values that hold expressions; what they come to.
Which expressions may be in a query.
Which pieces of queries may be: lists, items, sources, keys.
-/
import Derived.Test.YtfjimoccliejdaaGreatDoorY12
import Derived.Deep.RegionHeld3
import Derived.Deep.RegionWith
section
namespace Go.Proofs.YtfjimoccliejdaaGreatDoor
open Go.RowKit Go.Shelf

set_option maxRecDepth 100000 in
set_option maxHeartbeats 4000000 in
theorem ppart_any (F m N : Nat) (hN5 : N ≤ 5000) (HO : Ok 29 (Pa.lev F 0) m N) : OkP slC 42 (Pa.partP (Pa.lev F 0)) m N := by
  intro s w h hN
  have HOo := Lib.hid HO
  have HIt := Lib.hid (pitem_any F m N HO)
  have HCo := Lib.hid (show OkP exC 81 Pa.colP m N from fun s w h _ => pcol_any m s w h)
  clear HO
  have HB := Lib.hid (ba w (.cells #[.bool false, .slice none 0 0, .slice none 0 0, .int .i64 0, .int .i64 0, .int .i64 0, .int .i64 0, .string ⟨#[]⟩, .string ⟨#[]⟩, .string ⟨#[]⟩, .slice none 0 0, .slice none 0 0] 47))
  have HU := Lib.hid (show BxU _ _ #[.bool false, .slice none 0 0, .slice none 0 0, .int .i64 0, .int .i64 0, .int .i64 0, .int .i64 0, .string ⟨#[]⟩, .string ⟨#[]⟩, .string ⟨#[]⟩, .slice none 0 0, .slice none 0 0] 47 from (MapKept.heap_alloc w (.cells #[.bool false, .slice none 0 0, .slice none 0 0, .int .i64 0, .int .i64 0, .int .i64 0, .int .i64 0, .string ⟨#[]⟩, .string ⟨#[]⟩, .string ⟨#[]⟩, .slice none 0 0, .slice none 0 0] 47)).1)
  have H1 := Lib.hid (h.next HB.out)
  have hmU := h.lt
  have HFin := Lib.hid h.fin
  obtain ⟨U, hU⟩ : ∃ U, w.heap.size = U := ⟨_, rfl⟩
  have HUl := Lib.hid hU
  have HSz := Lib.hid (show (w.alloc (.cells #[.bool false, .slice none 0 0, .slice none 0 0, .int .i64 0, .int .i64 0, .int .i64 0, .int .i64 0, .string ⟨#[]⟩, .string ⟨#[]⟩, .string ⟨#[]⟩, .slice none 0 0, .slice none 0 0] 47)).heap.size = U + 1 by rw [World.size_alloc, hU])
  rw [hU] at HU hmU
  have HmU := Lib.hid hmU
  obtain ⟨X, hX⟩ : ∃ X, Pa.partP (Pa.lev F 0) s = X := ⟨_, rfl⟩
  rw [hX]
  have HX := Lib.hid hX
  clear h hX hmU
  go_enter Tryz.func42, Tryz.ntmps42
  go_wp2_with fail
  generalize w.alloc (.cells #[.bool false, .slice none 0 0, .slice none 0 0, .int .i64 0, .int .i64 0, .int .i64 0, .int .i64 0, .string ⟨#[]⟩, .string ⟨#[]⟩, .string ⟨#[]⟩, .slice none 0 0, .slice none 0 0] 47) = W1 at HB HU H1 HSz ⊢
  clear hU
  have HM1 := Lib.hid (show ButM m w W1 from ButM.of HB.out)
  have hl1 := (Pa.mustW_le Pa.wSELECT HFin.out)
  have HT1 := Lib.hid (must_any m s Pa.wSELECT W1 H1.out)
  obtain ⟨s1, hs1⟩ : ∃ z, Pa.mustW Pa.wSELECT s = z := ⟨_, rfl⟩
  rw [hs1] at HT1
  have HK1 := Lib.hid hs1
  clear hs1
  go_wp2_with fail
  refine HT1.out.mono ?_
  rintro e v1 ⟨rfl, hR, hM⟩
  have HMn1 := Lib.hid (HM1.out.trans hM)
  have HUn1 := Lib.hid (HU.out.but HmU.out hM)
  have HRn1 := Lib.hid hR
  clear hR hM
  rw [HK1.out] at hl1
  have HT2 := Lib.hid (take_any m s1 Pa.wDISTINCT v1 HRn1.out)
  obtain ⟨t2, ht⟩ : ∃ z, (Pa.takeW Pa.wDISTINCT s1).1 = z := ⟨_, rfl⟩
  obtain ⟨s2, hs⟩ : ∃ z, (Pa.takeW Pa.wDISTINCT s1).2 = z := ⟨_, rfl⟩
  have hno2 := (Pa.takeW_le Pa.wDISTINCT HRn1.out.fin).2.2
  rw [ht, hs] at HT2 hno2
  have HK2 := Lib.hid (show Pa.takeW Pa.wDISTINCT s1 = (t2, s2) by rw [← ht, ← hs])
  clear ht hs
  have hl2 := (Pa.takeW_le Pa.wDISTINCT HRn1.out.fin).1
  rw [HK2.out] at hl2
  have HN2 := Lib.hid (show s2.ts.length ≤ N by have := hl1.len; have := hl2.len; (try simp only at this); omega)
  clear hno2 hl1 hl2 hN
  go_wp2_with fail
  refine HT2.out.mono ?_
  rintro e v2 ⟨rfl, hR, hM⟩
  have HMn2 := Lib.hid (HMn1.out.trans hM)
  have HUn2 := Lib.hid (HUn1.out.but HmU.out hM)
  have HRn2 := Lib.hid hR
  clear hR hM
  have hbv := ba v2 (.cells #[.bool t2, .slice none 0 0, .slice none 0 0, .int .i64 0, .int .i64 0, .int .i64 0, .int .i64 0, .string ⟨#[]⟩, .string ⟨#[]⟩, .string ⟨#[]⟩, .slice none 0 0, .slice none 0 0] 47)
  have hVv := (MapKept.heap_alloc v2 (.cells #[.bool t2, .slice none 0 0, .slice none 0 0, .int .i64 0, .int .i64 0, .int .i64 0, .int .i64 0, .string ⟨#[]⟩, .string ⟨#[]⟩, .string ⟨#[]⟩, .slice none 0 0, .slice none 0 0] 47)).1
  obtain ⟨V, hV⟩ : ∃ V, v2.heap.size = V := ⟨_, rfl⟩
  rw [hV] at hVv
  have HVl := Lib.hid hV
  have HUV := Lib.hid (show U < V by rw [← hV]; exact HUn2.out.lt)
  have HwU := Lib.hid (show w.heap.size ≤ U by rw [HUl.out]; exact Nat.le_refl _)
  have HS3 := Lib.hid (show PtS m U V w t2 [] none 0 [] none 0 Pa.exZ ⟨0, 0, 0, 0, ⟨#[]⟩, ⟨#[]⟩, ⟨#[]⟩⟩ none 0 0 [] none 0 s2 (v2.alloc (.cells #[.bool t2, .slice none 0 0, .slice none 0 0, .int .i64 0, .int .i64 0, .int .i64 0, .int .i64 0, .string ⟨#[]⟩, .string ⟨#[]⟩, .string ⟨#[]⟩, .slice none 0 0, .slice none 0 0] 47)) from ⟨HRn2.out.next hbv, HMn2.out.trans (ButM.of hbv), HUn2.out.next hbv, hVv, ⟨Nat.le_refl _, Ls.nil _ _ _ _⟩, ⟨Nat.le_refl _, Ls.nil _ _ _ _⟩, exZ_at _ _, ⟨Nat.le_refl _, by rw [XsB]; trivial⟩⟩)
  have HSz3 := Lib.hid (show (v2.alloc (.cells #[.bool t2, .slice none 0 0, .slice none 0 0, .int .i64 0, .int .i64 0, .int .i64 0, .int .i64 0, .string ⟨#[]⟩, .string ⟨#[]⟩, .string ⟨#[]⟩, .slice none 0 0, .slice none 0 0] 47)).heap.size = V + 1 by rw [World.size_alloc, hV])
  clear hbv hVv
  have hbg := ba (v2.alloc (.cells #[.bool t2, .slice none 0 0, .slice none 0 0, .int .i64 0, .int .i64 0, .int .i64 0, .int .i64 0, .string ⟨#[]⟩, .string ⟨#[]⟩, .string ⟨#[]⟩, .slice none 0 0, .slice none 0 0] 47)) (.cells #[st [44]] 9)
  have hgg : BxU ((v2.alloc (.cells #[.bool t2, .slice none 0 0, .slice none 0 0, .int .i64 0, .int .i64 0, .int .i64 0, .int .i64 0, .string ⟨#[]⟩, .string ⟨#[]⟩, .string ⟨#[]⟩, .slice none 0 0, .slice none 0 0] 47)).alloc (.cells #[st [44]] 9)) (V + 1) #[st [44]] 9 := by have := (MapKept.heap_alloc (v2.alloc (.cells #[.bool t2, .slice none 0 0, .slice none 0 0, .int .i64 0, .int .i64 0, .int .i64 0, .int .i64 0, .string ⟨#[]⟩, .string ⟨#[]⟩, .string ⟨#[]⟩, .slice none 0 0, .slice none 0 0] 47)) (.cells #[st [44]] 9)).1; rw [HSz3.out] at this; exact this
  have HS4 := Lib.hid (HS3.out.next hbg)
  have HTi := Lib.hid (listI_any (Pa.itemP (Pa.lev F 0)) (fun s hs => Pa.itemP_le (fun s hs => Pa.lev_le F 0 s hs) hs) m N hN5 HIt.out s2 [44] (V + 1) _ HS4.out.rs HN2.out (by have := HmU.out; have := HUV.out; omega) (hgg.cell 0))
  have HSz4 := Lib.hid (show V < ((v2.alloc (.cells #[.bool t2, .slice none 0 0, .slice none 0 0, .int .i64 0, .int .i64 0, .int .i64 0, .int .i64 0, .string ⟨#[]⟩, .string ⟨#[]⟩, .string ⟨#[]⟩, .slice none 0 0, .slice none 0 0] 47)).alloc (.cells #[st [44]] 9)).heap.size by rw [World.size_alloc, HSz3.out]; omega)
  obtain ⟨⟨its, si⟩, hi⟩ : ∃ q, Pa.listP (Pa.itemP (Pa.lev F 0)) [44] [] s2 = q := ⟨_, rfl⟩
  have hli := Pa.listP_le (w := [44]) (ws := []) (fun s hs => Pa.itemP_le (fun s hs => Pa.lev_le F 0 s hs) hs) HRn2.out.fin
  rw [hi] at HTi hli
  have HKi := Lib.hid hi
  simp only at HTi
  have HNi := Lib.hid (show si.ts.length ≤ N from Nat.le_trans (show si.ts.length ≤ _ from hli.len) HN2.out)
  clear hbg hgg hi hli
  go_wp2_with fail
  clear hV
  refine HTi.out.mono ?_
  rintro e v4 ⟨vi, rfl, hO, hR, hM⟩
  obtain ⟨iA, ic, rfl, hS5⟩ := (HS4.out.step HmU.out HUV.out hM hR).items HmU.out HUV.out HwU.out hO HSz4.out
  have HSv := Lib.hid (HS4.out.step HmU.out HUV.out hM hR)
  have d1 := HSv.out.bv.cell 1
  have fd1 := HSv.out.bv.frozen 1
  have d1 : v4.cell? ⟨V, 1, none⟩ = some (.slice none 0 0) := HSv.out.bv.cell 1
  have HS5 := Lib.hid hS5
  clear hO hR hM hS5
  have hlf := Pa.mustW_le Pa.wFROM HSv.out.rs.fin
  obtain ⟨sm, hsm⟩ : ∃ z, Pa.mustW Pa.wFROM si = z := ⟨_, rfl⟩
  have HTm := Lib.hid (must_any m si Pa.wFROM _ HS5.out.rs)
  rw [hsm] at HTm hlf
  have HKm := Lib.hid hsm
  have HNm := Lib.hid (show sm.ts.length ≤ N by have := hlf.len; have := HNi.out; omega)
  clear hsm hlf
  go_wp2_with fail
  generalize v4.setCell ⟨V, 1, none⟩ (.slice iA its.length ic) = W5 at HS5 HTm ⊢
  clear d1 fd1
  refine HTm.out.mono ?_
  rintro e v6 ⟨rfl, hR, hM⟩
  have HS6 := Lib.hid (HS5.out.step HmU.out HUV.out hM hR)
  clear hR hM
  have HTf := Lib.hid (psources_any F m N hN5 HOo.out sm v6 HS6.out.rs HNm.out)
  obtain ⟨⟨frs, sf⟩, hf⟩ : ∃ q, Pa.fromP (Pa.lev F 0) sm = q := ⟨_, rfl⟩
  have hlf := Pa.fromP_le (fun s hs => Pa.lev_le F 0 s hs) HS6.out.rs.fin
  rw [hf] at HTf hlf
  have HKf := Lib.hid hf
  simp only at HTf
  have HNf := Lib.hid (show sf.ts.length ≤ N from Nat.le_trans (show sf.ts.length ≤ _ from hlf.len) HNm.out)
  have HVs6 := Lib.hid (show V < v6.heap.size from HS6.out.bv.lt)
  clear hf hlf
  go_wp2_with fail
  refine HTf.out.mono ?_
  rintro e v7 ⟨vf, rfl, hO, hR, hM⟩
  obtain ⟨fA, fc, rfl, hS8⟩ := (HS6.out.step HmU.out HUV.out hM hR).froms HmU.out HUV.out HwU.out hO HVs6.out
  have HSw := Lib.hid (HS6.out.step HmU.out HUV.out hM hR)
  have d2 : v7.cell? ⟨V, 2, none⟩ = some (.slice none 0 0) := HSw.out.bv.cell 2
  have fd2 := HSw.out.bv.frozen 2
  have HS8 := Lib.hid hS8
  clear hO hR hM hS8
  have HTw := Lib.hid (take_any m sf Pa.wWHERE _ HS8.out.rs)
  have hnow := (Pa.takeW_le Pa.wWHERE HSw.out.rs.fin)
  obtain ⟨tw, ht⟩ : ∃ z, (Pa.takeW Pa.wWHERE sf).1 = z := ⟨_, rfl⟩
  obtain ⟨sw, hs⟩ : ∃ z, (Pa.takeW Pa.wWHERE sf).2 = z := ⟨_, rfl⟩
  rw [ht, hs] at HTw
  rw [ht, hs] at hnow
  have HKw := Lib.hid (show Pa.takeW Pa.wWHERE sf = (tw, sw) by rw [← ht, ← hs])
  have HNw := Lib.hid (show sw.ts.length ≤ N by have := hnow.1.len; have := HNf.out; omega)
  have hno := hnow.2.2
  clear ht hs hnow
  go_wp2_with fail
  generalize v7.setCell ⟨V, 2, none⟩ (.slice fA frs.length fc) = W8 at HS8 HTw ⊢
  clear d2 fd2
  refine HTw.out.mono ?_
  rintro e v9 ⟨rfl, hR, hM⟩
  have HS9 := Lib.hid (HS8.out.step HmU.out HUV.out hM hR)
  clear hR hM
  cases tw with
  | true =>
    clear hno
    have HTo := Lib.hid (HOo.out sw v9 HS9.out.rs HNw.out)
    obtain ⟨⟨wh, so⟩, ho⟩ : ∃ q, Pa.lev F 0 sw = q := ⟨_, rfl⟩
    have hlo := Pa.lev_le F 0 sw HS9.out.rs.fin
    rw [ho] at HTo hlo
    have HKo := Lib.hid ho
    simp only at HTo
    have HNo := Lib.hid (show so.ts.length ≤ N from Nat.le_trans (show so.ts.length ≤ _ from hlo.len) HNw.out)
    have HV9 := Lib.hid (show V < v9.heap.size from HS9.out.bv.lt)
    clear ho hlo
    go_wp2_with fail
    refine HTo.out.mono ?_
    intro e v5 hE
    obtain ⟨hd2, A2, n2, cp2, rfl, hC, hR, hM⟩ := exV hE
    clear hE
    have HSy := Lib.hid (HS9.out.step HmU.out HUV.out hM hR)
    have HSo := Lib.hid (HSy.out.whr (x2 := wh) (hd2 := hd2) (A2 := A2) (n2 := n2) (cp2 := cp2) HmU.out HUV.out HwU.out hC HV9.out)
    clear hC hR hM
    have d3 : v5.cell? ⟨V, 3, none⟩ = some (.int .i64 0) := HSy.out.bv.cell 3
    have d4 : v5.cell? ⟨V, 4, none⟩ = some (.int .i64 0) := HSy.out.bv.cell 4
    have d5 : v5.cell? ⟨V, 5, none⟩ = some (.int .i64 0) := HSy.out.bv.cell 5
    have d6 : v5.cell? ⟨V, 6, none⟩ = some (.int .i64 0) := HSy.out.bv.cell 6
    have d7 : v5.cell? ⟨V, 7, none⟩ = some (.string ⟨#[]⟩) := HSy.out.bv.cell 7
    have d8 : v5.cell? ⟨V, 8, none⟩ = some (.string ⟨#[]⟩) := HSy.out.bv.cell 8
    have d9 : v5.cell? ⟨V, 9, none⟩ = some (.string ⟨#[]⟩) := HSy.out.bv.cell 9
    have d10 : v5.cell? ⟨V, 10, none⟩ = some (.slice none 0 0) := HSy.out.bv.cell 10
    have fd3 := HSy.out.bv.frozen 3
    have fd4 := HSy.out.bv.frozen 4
    have fd5 := HSy.out.bv.frozen 5
    have fd6 := HSy.out.bv.frozen 6
    have fd7 := HSy.out.bv.frozen 7
    have fd8 := HSy.out.bv.frozen 8
    have fd9 := HSy.out.bv.frozen 9
    have fd10 := HSy.out.bv.frozen 10
    go_upto_region 8 with fail
    generalize ((((((((v5.setCell ⟨V, 3, none⟩ (.int .i64 hd2.k)).setCell ⟨V, 4, none⟩ (.int .i64 hd2.n)).setCell ⟨V, 5, none⟩ (.int .i64 hd2.vk)).setCell ⟨V, 6, none⟩ (.int .i64 hd2.vn)).setCell ⟨V, 7, none⟩ (.string hd2.vs)).setCell ⟨V, 8, none⟩ (.string hd2.tab)).setCell ⟨V, 9, none⟩ (.string hd2.col)).setCell ⟨V, 10, none⟩ (.slice A2 n2 cp2)) = W10 at HSo ⊢
    clear d3 fd3 d4 fd4 d5 fd5 d6 fd6 d7 fd7 d8 fd8 d9 fd9 d10 fd10
    have hbo := ba W10 (.cells #[st Pa.wGROUP, st Pa.wBY] 9)
    have hgo : BxU (W10.alloc (.cells #[st Pa.wGROUP, st Pa.wBY] 9)) W10.heap.size #[st Pa.wGROUP, st Pa.wBY] 9 := (MapKept.heap_alloc W10 (.cells #[st Pa.wGROUP, st Pa.wBY] 9)).1
    have HS10 := Lib.hid (HSo.out.next hbo)
    have HTg := Lib.hid (takeAll2_any m so Pa.wGROUP Pa.wBY W10.heap.size _ HS10.out.rs HSo.out.rs.lt (hgo.cell 0) (hgo.cell 1))
    have hng := Pa.takeAll_le Pa.wGROUP [Pa.wBY] HSo.out.rs.fin
    obtain ⟨tg, ht⟩ : ∃ z, (Pa.takeAll Pa.wGROUP [Pa.wBY] so).1 = z := ⟨_, rfl⟩
    obtain ⟨sg, hs⟩ : ∃ z, (Pa.takeAll Pa.wGROUP [Pa.wBY] so).2 = z := ⟨_, rfl⟩
    rw [ht, hs] at HTg
    rw [ht, hs] at hng
    have HKg := Lib.hid (show Pa.takeAll Pa.wGROUP [Pa.wBY] so = (tg, sg) by rw [← ht, ← hs])
    have HNg := Lib.hid (show sg.ts.length ≤ N by have := hng.1.len; have := HNo.out; omega)
    have hno2 := hng.2.2
    clear ht hs hng hbo hgo
    go_wp2_with fail
    refine HTg.out.mono ?_
    rintro e v11 ⟨rfl, hR, hM⟩
    have HS11 := Lib.hid (HS10.out.step HmU.out HUV.out hM hR)
    clear hR hM
    cases tg with
    | true =>
      clear hno2
      have hbg := ba v11 (.cells #[st [44]] 9)
      have hgg : BxU (v11.alloc (.cells #[st [44]] 9)) v11.heap.size #[st [44]] 9 := (MapKept.heap_alloc v11 (.cells #[st [44]] 9)).1
      have HS12 := Lib.hid (HS11.out.next hbg)
      have HTl := Lib.hid (listE_any Pa.colP (fun s hs => Pa.colP_le hs) m N hN5 HCo.out sg [44] v11.heap.size _ HS12.out.rs HNg.out HS11.out.rs.lt (hgg.cell 0))
      obtain ⟨⟨grp, sl⟩, hl⟩ : ∃ q, Pa.listP Pa.colP [44] [] sg = q := ⟨_, rfl⟩
      rw [hl] at HTl
      have HKl := Lib.hid hl
      simp only at HTl
      have HVs := Lib.hid (show V < (v11.alloc (.cells #[st [44]] 9)).heap.size from HS12.out.bv.lt)
      clear hl hbg hgg
      go_wp2_with fail
      refine HTl.out.mono ?_
      rintro e v13 ⟨vg, rfl, hO, hR, hM⟩
      obtain ⟨gA, gc, rfl, hS14⟩ := (HS12.out.step HmU.out HUV.out hM hR).groups HmU.out HUV.out HwU.out hO HVs.out
      have HSx := Lib.hid (HS12.out.step HmU.out HUV.out hM hR)
      have HS14 := Lib.hid hS14
      have hUneV : U ≠ V := Nat.ne_of_lt HUV.out
      have hVneU := hUneV.symm
      clear hO hR hM hS14
      have d0 : v13.cell? ⟨V, 0, none⟩ = some (.bool t2) := HSx.out.bv.cell 0
      have d1 : v13.cell? ⟨V, 1, none⟩ = some (.slice iA its.length ic) := HSx.out.bv.cell 1
      have d2 : v13.cell? ⟨V, 2, none⟩ = some (.slice fA frs.length fc) := HSx.out.bv.cell 2
      have d3 : v13.cell? ⟨V, 3, none⟩ = some (.int .i64 hd2.k) := HSx.out.bv.cell 3
      have d4 : v13.cell? ⟨V, 4, none⟩ = some (.int .i64 hd2.n) := HSx.out.bv.cell 4
      have d5 : v13.cell? ⟨V, 5, none⟩ = some (.int .i64 hd2.vk) := HSx.out.bv.cell 5
      have d6 : v13.cell? ⟨V, 6, none⟩ = some (.int .i64 hd2.vn) := HSx.out.bv.cell 6
      have d7 : v13.cell? ⟨V, 7, none⟩ = some (.string hd2.vs) := HSx.out.bv.cell 7
      have d8 : v13.cell? ⟨V, 8, none⟩ = some (.string hd2.tab) := HSx.out.bv.cell 8
      have d9 : v13.cell? ⟨V, 9, none⟩ = some (.string hd2.col) := HSx.out.bv.cell 9
      have d10 : v13.cell? ⟨V, 10, none⟩ = some (.slice A2 n2 cp2) := HSx.out.bv.cell 10
      have d11 : v13.cell? ⟨V, 11, none⟩ = some (.slice none 0 0) := HSx.out.bv.cell 11
      have fd11 := HSx.out.bv.frozen 11
      have HXe := Lib.hid (show X = (⟨t2, its, frs, wh, grp⟩, sl) by rw [← HX.out]; simp only [Pa.partP, HK1.out, HK2.out, HKi.out, HKm.out, HKf.out, Pa.whereP, HKw.out, if_true, HKo.out, Pa.groupP, HKg.out, if_true, HKl.out])
      have c0 : ((v13.setCell ⟨V, 11, none⟩ (.slice gA grp.length gc))).cell? ⟨U, 0, none⟩ = some (.bool false) := (HS14.out.bu).cell 0
      have c1 : ((v13.setCell ⟨V, 11, none⟩ (.slice gA grp.length gc))).cell? ⟨U, 1, none⟩ = some (.slice none 0 0) := (HS14.out.bu).cell 1
      have c2 : ((v13.setCell ⟨V, 11, none⟩ (.slice gA grp.length gc))).cell? ⟨U, 2, none⟩ = some (.slice none 0 0) := (HS14.out.bu).cell 2
      have c3 : ((v13.setCell ⟨V, 11, none⟩ (.slice gA grp.length gc))).cell? ⟨U, 3, none⟩ = some (.int .i64 0) := (HS14.out.bu).cell 3
      have c4 : ((v13.setCell ⟨V, 11, none⟩ (.slice gA grp.length gc))).cell? ⟨U, 4, none⟩ = some (.int .i64 0) := (HS14.out.bu).cell 4
      have c5 : ((v13.setCell ⟨V, 11, none⟩ (.slice gA grp.length gc))).cell? ⟨U, 5, none⟩ = some (.int .i64 0) := (HS14.out.bu).cell 5
      have c6 : ((v13.setCell ⟨V, 11, none⟩ (.slice gA grp.length gc))).cell? ⟨U, 6, none⟩ = some (.int .i64 0) := (HS14.out.bu).cell 6
      have c7 : ((v13.setCell ⟨V, 11, none⟩ (.slice gA grp.length gc))).cell? ⟨U, 7, none⟩ = some (.string ⟨#[]⟩) := (HS14.out.bu).cell 7
      have c8 : ((v13.setCell ⟨V, 11, none⟩ (.slice gA grp.length gc))).cell? ⟨U, 8, none⟩ = some (.string ⟨#[]⟩) := (HS14.out.bu).cell 8
      have c9 : ((v13.setCell ⟨V, 11, none⟩ (.slice gA grp.length gc))).cell? ⟨U, 9, none⟩ = some (.string ⟨#[]⟩) := (HS14.out.bu).cell 9
      have c10 : ((v13.setCell ⟨V, 11, none⟩ (.slice gA grp.length gc))).cell? ⟨U, 10, none⟩ = some (.slice none 0 0) := (HS14.out.bu).cell 10
      have c11 : ((v13.setCell ⟨V, 11, none⟩ (.slice gA grp.length gc))).cell? ⟨U, 11, none⟩ = some (.slice none 0 0) := (HS14.out.bu).cell 11
      have fc0 := (HS14.out.bu).frozen 0
      have fc1 := (HS14.out.bu).frozen 1
      have fc2 := (HS14.out.bu).frozen 2
      have fc3 := (HS14.out.bu).frozen 3
      have fc4 := (HS14.out.bu).frozen 4
      have fc5 := (HS14.out.bu).frozen 5
      have fc6 := (HS14.out.bu).frozen 6
      have fc7 := (HS14.out.bu).frozen 7
      have fc8 := (HS14.out.bu).frozen 8
      have fc9 := (HS14.out.bu).frozen 9
      have fc10 := (HS14.out.bu).frozen 10
      have fc11 := (HS14.out.bu).frozen 11
      go_wp2_with fail
      exact bodyPost_ret (v := .agg #[.bool t2, .slice iA its.length ic, .slice fA frs.length fc, .int .i64 hd2.k, .int .i64 hd2.n, .int .i64 hd2.vk, .int .i64 hd2.vn, .string hd2.vs, .string hd2.tab, .string hd2.col, .slice A2 n2 cp2, .slice gA grp.length gc]) (by simp [results, Tryz.results42, go_sem, c0, c1, c2, c3, c4, c5, c6, c7, c8, c9, c10, c11]) rfl (by rw [HXe.out]; exact RuE.fin (c := [.bool t2, .slice iA its.length ic, .slice fA frs.length fc, .int .i64 hd2.k, .int .i64 hd2.n, .int .i64 hd2.vk, .int .i64 hd2.vn, .string hd2.vs, .string hd2.tab, .string hd2.col, .slice A2 n2 cp2, .slice gA grp.length gc]) slC_ok HUl.out HmU.out HS14.out.but HS14.out.rs HS14.out.told (OnU.refl _ _).set.set.set.set.set.set.set.set.set.set.set.set)
    | false =>
      obtain rfl := hno2 rfl
      clear hno2
      have hUneV : U ≠ V := Nat.ne_of_lt HUV.out
      have hVneU := hUneV.symm
      have d0 : v11.cell? ⟨V, 0, none⟩ = some (.bool t2) := HS11.out.bv.cell 0
      have d1 : v11.cell? ⟨V, 1, none⟩ = some (.slice iA its.length ic) := HS11.out.bv.cell 1
      have d2 : v11.cell? ⟨V, 2, none⟩ = some (.slice fA frs.length fc) := HS11.out.bv.cell 2
      have d3 : v11.cell? ⟨V, 3, none⟩ = some (.int .i64 hd2.k) := HS11.out.bv.cell 3
      have d4 : v11.cell? ⟨V, 4, none⟩ = some (.int .i64 hd2.n) := HS11.out.bv.cell 4
      have d5 : v11.cell? ⟨V, 5, none⟩ = some (.int .i64 hd2.vk) := HS11.out.bv.cell 5
      have d6 : v11.cell? ⟨V, 6, none⟩ = some (.int .i64 hd2.vn) := HS11.out.bv.cell 6
      have d7 : v11.cell? ⟨V, 7, none⟩ = some (.string hd2.vs) := HS11.out.bv.cell 7
      have d8 : v11.cell? ⟨V, 8, none⟩ = some (.string hd2.tab) := HS11.out.bv.cell 8
      have d9 : v11.cell? ⟨V, 9, none⟩ = some (.string hd2.col) := HS11.out.bv.cell 9
      have d10 : v11.cell? ⟨V, 10, none⟩ = some (.slice A2 n2 cp2) := HS11.out.bv.cell 10
      have d11 : v11.cell? ⟨V, 11, none⟩ = some (.slice none 0 0) := HS11.out.bv.cell 11
      have HXe := Lib.hid (show X = (⟨t2, its, frs, wh, []⟩, sg) by rw [← HX.out]; simp only [Pa.partP, HK1.out, HK2.out, HKi.out, HKm.out, HKf.out, Pa.whereP, HKw.out, if_true, HKo.out, Pa.groupP, HKg.out, Bool.false_eq_true, if_false])
      have c0 : (v11).cell? ⟨U, 0, none⟩ = some (.bool false) := (HS11.out.bu).cell 0
      have c1 : (v11).cell? ⟨U, 1, none⟩ = some (.slice none 0 0) := (HS11.out.bu).cell 1
      have c2 : (v11).cell? ⟨U, 2, none⟩ = some (.slice none 0 0) := (HS11.out.bu).cell 2
      have c3 : (v11).cell? ⟨U, 3, none⟩ = some (.int .i64 0) := (HS11.out.bu).cell 3
      have c4 : (v11).cell? ⟨U, 4, none⟩ = some (.int .i64 0) := (HS11.out.bu).cell 4
      have c5 : (v11).cell? ⟨U, 5, none⟩ = some (.int .i64 0) := (HS11.out.bu).cell 5
      have c6 : (v11).cell? ⟨U, 6, none⟩ = some (.int .i64 0) := (HS11.out.bu).cell 6
      have c7 : (v11).cell? ⟨U, 7, none⟩ = some (.string ⟨#[]⟩) := (HS11.out.bu).cell 7
      have c8 : (v11).cell? ⟨U, 8, none⟩ = some (.string ⟨#[]⟩) := (HS11.out.bu).cell 8
      have c9 : (v11).cell? ⟨U, 9, none⟩ = some (.string ⟨#[]⟩) := (HS11.out.bu).cell 9
      have c10 : (v11).cell? ⟨U, 10, none⟩ = some (.slice none 0 0) := (HS11.out.bu).cell 10
      have c11 : (v11).cell? ⟨U, 11, none⟩ = some (.slice none 0 0) := (HS11.out.bu).cell 11
      have fc0 := (HS11.out.bu).frozen 0
      have fc1 := (HS11.out.bu).frozen 1
      have fc2 := (HS11.out.bu).frozen 2
      have fc3 := (HS11.out.bu).frozen 3
      have fc4 := (HS11.out.bu).frozen 4
      have fc5 := (HS11.out.bu).frozen 5
      have fc6 := (HS11.out.bu).frozen 6
      have fc7 := (HS11.out.bu).frozen 7
      have fc8 := (HS11.out.bu).frozen 8
      have fc9 := (HS11.out.bu).frozen 9
      have fc10 := (HS11.out.bu).frozen 10
      have fc11 := (HS11.out.bu).frozen 11
      go_wp2_with fail
      exact bodyPost_ret (v := .agg #[.bool t2, .slice iA its.length ic, .slice fA frs.length fc, .int .i64 hd2.k, .int .i64 hd2.n, .int .i64 hd2.vk, .int .i64 hd2.vn, .string hd2.vs, .string hd2.tab, .string hd2.col, .slice A2 n2 cp2, .slice none 0 0]) (by simp [results, Tryz.results42, go_sem, c0, c1, c2, c3, c4, c5, c6, c7, c8, c9, c10, c11]) rfl (by rw [HXe.out]; exact RuE.fin (c := [.bool t2, .slice iA its.length ic, .slice fA frs.length fc, .int .i64 hd2.k, .int .i64 hd2.n, .int .i64 hd2.vk, .int .i64 hd2.vn, .string hd2.vs, .string hd2.tab, .string hd2.col, .slice A2 n2 cp2, .slice none 0 0]) slC_ok HUl.out HmU.out HS11.out.but HS11.out.rs HS11.out.told (OnU.refl _ _).set.set.set.set.set.set.set.set.set.set.set.set)
  | false =>
    obtain rfl := hno rfl
    clear hno
    go_upto_region 8 with fail
    have hbo := ba v9 (.cells #[st Pa.wGROUP, st Pa.wBY] 9)
    have hgo : BxU (v9.alloc (.cells #[st Pa.wGROUP, st Pa.wBY] 9)) v9.heap.size #[st Pa.wGROUP, st Pa.wBY] 9 := (MapKept.heap_alloc v9 (.cells #[st Pa.wGROUP, st Pa.wBY] 9)).1
    have HS10 := Lib.hid (HS9.out.next hbo)
    have HTg := Lib.hid (takeAll2_any m sw Pa.wGROUP Pa.wBY v9.heap.size _ HS10.out.rs HS9.out.rs.lt (hgo.cell 0) (hgo.cell 1))
    have hng := Pa.takeAll_le Pa.wGROUP [Pa.wBY] HS9.out.rs.fin
    obtain ⟨tg, ht⟩ : ∃ z, (Pa.takeAll Pa.wGROUP [Pa.wBY] sw).1 = z := ⟨_, rfl⟩
    obtain ⟨sg, hs⟩ : ∃ z, (Pa.takeAll Pa.wGROUP [Pa.wBY] sw).2 = z := ⟨_, rfl⟩
    rw [ht, hs] at HTg
    rw [ht, hs] at hng
    have HKg := Lib.hid (show Pa.takeAll Pa.wGROUP [Pa.wBY] sw = (tg, sg) by rw [← ht, ← hs])
    have HNg := Lib.hid (show sg.ts.length ≤ N by have := hng.1.len; have := HNw.out; omega)
    have hno2 := hng.2.2
    clear ht hs hng hbo hgo
    go_wp2_with fail
    refine HTg.out.mono ?_
    rintro e v11 ⟨rfl, hR, hM⟩
    have HS11 := Lib.hid (HS10.out.step HmU.out HUV.out hM hR)
    clear hR hM
    cases tg with
    | true =>
      clear hno2
      have hbg := ba v11 (.cells #[st [44]] 9)
      have hgg : BxU (v11.alloc (.cells #[st [44]] 9)) v11.heap.size #[st [44]] 9 := (MapKept.heap_alloc v11 (.cells #[st [44]] 9)).1
      have HS12 := Lib.hid (HS11.out.next hbg)
      have HTl := Lib.hid (listE_any Pa.colP (fun s hs => Pa.colP_le hs) m N hN5 HCo.out sg [44] v11.heap.size _ HS12.out.rs HNg.out HS11.out.rs.lt (hgg.cell 0))
      obtain ⟨⟨grp, sl⟩, hl⟩ : ∃ q, Pa.listP Pa.colP [44] [] sg = q := ⟨_, rfl⟩
      rw [hl] at HTl
      have HKl := Lib.hid hl
      simp only at HTl
      have HVs := Lib.hid (show V < (v11.alloc (.cells #[st [44]] 9)).heap.size from HS12.out.bv.lt)
      clear hl hbg hgg
      go_wp2_with fail
      refine HTl.out.mono ?_
      rintro e v13 ⟨vg, rfl, hO, hR, hM⟩
      obtain ⟨gA, gc, rfl, hS14⟩ := (HS12.out.step HmU.out HUV.out hM hR).groups HmU.out HUV.out HwU.out hO HVs.out
      have HSx := Lib.hid (HS12.out.step HmU.out HUV.out hM hR)
      have HS14 := Lib.hid hS14
      have hUneV : U ≠ V := Nat.ne_of_lt HUV.out
      have hVneU := hUneV.symm
      clear hO hR hM hS14
      have d0 : v13.cell? ⟨V, 0, none⟩ = some (.bool t2) := HSx.out.bv.cell 0
      have d1 : v13.cell? ⟨V, 1, none⟩ = some (.slice iA its.length ic) := HSx.out.bv.cell 1
      have d2 : v13.cell? ⟨V, 2, none⟩ = some (.slice fA frs.length fc) := HSx.out.bv.cell 2
      have d3 : v13.cell? ⟨V, 3, none⟩ = some (.int .i64 (⟨0, 0, 0, 0, ⟨#[]⟩, ⟨#[]⟩, ⟨#[]⟩⟩ : Hd).k) := HSx.out.bv.cell 3
      have d4 : v13.cell? ⟨V, 4, none⟩ = some (.int .i64 (⟨0, 0, 0, 0, ⟨#[]⟩, ⟨#[]⟩, ⟨#[]⟩⟩ : Hd).n) := HSx.out.bv.cell 4
      have d5 : v13.cell? ⟨V, 5, none⟩ = some (.int .i64 (⟨0, 0, 0, 0, ⟨#[]⟩, ⟨#[]⟩, ⟨#[]⟩⟩ : Hd).vk) := HSx.out.bv.cell 5
      have d6 : v13.cell? ⟨V, 6, none⟩ = some (.int .i64 (⟨0, 0, 0, 0, ⟨#[]⟩, ⟨#[]⟩, ⟨#[]⟩⟩ : Hd).vn) := HSx.out.bv.cell 6
      have d7 : v13.cell? ⟨V, 7, none⟩ = some (.string (⟨0, 0, 0, 0, ⟨#[]⟩, ⟨#[]⟩, ⟨#[]⟩⟩ : Hd).vs) := HSx.out.bv.cell 7
      have d8 : v13.cell? ⟨V, 8, none⟩ = some (.string (⟨0, 0, 0, 0, ⟨#[]⟩, ⟨#[]⟩, ⟨#[]⟩⟩ : Hd).tab) := HSx.out.bv.cell 8
      have d9 : v13.cell? ⟨V, 9, none⟩ = some (.string (⟨0, 0, 0, 0, ⟨#[]⟩, ⟨#[]⟩, ⟨#[]⟩⟩ : Hd).col) := HSx.out.bv.cell 9
      have d10 : v13.cell? ⟨V, 10, none⟩ = some (.slice none 0 0) := HSx.out.bv.cell 10
      have d11 : v13.cell? ⟨V, 11, none⟩ = some (.slice none 0 0) := HSx.out.bv.cell 11
      have fd11 := HSx.out.bv.frozen 11
      have HXe := Lib.hid (show X = (⟨t2, its, frs, Pa.exZ, grp⟩, sl) by rw [← HX.out]; simp only [Pa.partP, HK1.out, HK2.out, HKi.out, HKm.out, HKf.out, Pa.whereP, HKw.out, Bool.false_eq_true, if_false, Pa.groupP, HKg.out, if_true, HKl.out])
      have c0 : ((v13.setCell ⟨V, 11, none⟩ (.slice gA grp.length gc))).cell? ⟨U, 0, none⟩ = some (.bool false) := (HS14.out.bu).cell 0
      have c1 : ((v13.setCell ⟨V, 11, none⟩ (.slice gA grp.length gc))).cell? ⟨U, 1, none⟩ = some (.slice none 0 0) := (HS14.out.bu).cell 1
      have c2 : ((v13.setCell ⟨V, 11, none⟩ (.slice gA grp.length gc))).cell? ⟨U, 2, none⟩ = some (.slice none 0 0) := (HS14.out.bu).cell 2
      have c3 : ((v13.setCell ⟨V, 11, none⟩ (.slice gA grp.length gc))).cell? ⟨U, 3, none⟩ = some (.int .i64 0) := (HS14.out.bu).cell 3
      have c4 : ((v13.setCell ⟨V, 11, none⟩ (.slice gA grp.length gc))).cell? ⟨U, 4, none⟩ = some (.int .i64 0) := (HS14.out.bu).cell 4
      have c5 : ((v13.setCell ⟨V, 11, none⟩ (.slice gA grp.length gc))).cell? ⟨U, 5, none⟩ = some (.int .i64 0) := (HS14.out.bu).cell 5
      have c6 : ((v13.setCell ⟨V, 11, none⟩ (.slice gA grp.length gc))).cell? ⟨U, 6, none⟩ = some (.int .i64 0) := (HS14.out.bu).cell 6
      have c7 : ((v13.setCell ⟨V, 11, none⟩ (.slice gA grp.length gc))).cell? ⟨U, 7, none⟩ = some (.string ⟨#[]⟩) := (HS14.out.bu).cell 7
      have c8 : ((v13.setCell ⟨V, 11, none⟩ (.slice gA grp.length gc))).cell? ⟨U, 8, none⟩ = some (.string ⟨#[]⟩) := (HS14.out.bu).cell 8
      have c9 : ((v13.setCell ⟨V, 11, none⟩ (.slice gA grp.length gc))).cell? ⟨U, 9, none⟩ = some (.string ⟨#[]⟩) := (HS14.out.bu).cell 9
      have c10 : ((v13.setCell ⟨V, 11, none⟩ (.slice gA grp.length gc))).cell? ⟨U, 10, none⟩ = some (.slice none 0 0) := (HS14.out.bu).cell 10
      have c11 : ((v13.setCell ⟨V, 11, none⟩ (.slice gA grp.length gc))).cell? ⟨U, 11, none⟩ = some (.slice none 0 0) := (HS14.out.bu).cell 11
      have fc0 := (HS14.out.bu).frozen 0
      have fc1 := (HS14.out.bu).frozen 1
      have fc2 := (HS14.out.bu).frozen 2
      have fc3 := (HS14.out.bu).frozen 3
      have fc4 := (HS14.out.bu).frozen 4
      have fc5 := (HS14.out.bu).frozen 5
      have fc6 := (HS14.out.bu).frozen 6
      have fc7 := (HS14.out.bu).frozen 7
      have fc8 := (HS14.out.bu).frozen 8
      have fc9 := (HS14.out.bu).frozen 9
      have fc10 := (HS14.out.bu).frozen 10
      have fc11 := (HS14.out.bu).frozen 11
      go_wp2_with fail
      exact bodyPost_ret (v := .agg #[.bool t2, .slice iA its.length ic, .slice fA frs.length fc, .int .i64 (⟨0, 0, 0, 0, ⟨#[]⟩, ⟨#[]⟩, ⟨#[]⟩⟩ : Hd).k, .int .i64 (⟨0, 0, 0, 0, ⟨#[]⟩, ⟨#[]⟩, ⟨#[]⟩⟩ : Hd).n, .int .i64 (⟨0, 0, 0, 0, ⟨#[]⟩, ⟨#[]⟩, ⟨#[]⟩⟩ : Hd).vk, .int .i64 (⟨0, 0, 0, 0, ⟨#[]⟩, ⟨#[]⟩, ⟨#[]⟩⟩ : Hd).vn, .string (⟨0, 0, 0, 0, ⟨#[]⟩, ⟨#[]⟩, ⟨#[]⟩⟩ : Hd).vs, .string (⟨0, 0, 0, 0, ⟨#[]⟩, ⟨#[]⟩, ⟨#[]⟩⟩ : Hd).tab, .string (⟨0, 0, 0, 0, ⟨#[]⟩, ⟨#[]⟩, ⟨#[]⟩⟩ : Hd).col, .slice none 0 0, .slice gA grp.length gc]) (by simp [results, Tryz.results42, go_sem, c0, c1, c2, c3, c4, c5, c6, c7, c8, c9, c10, c11]) rfl (by rw [HXe.out]; exact RuE.fin (c := [.bool t2, .slice iA its.length ic, .slice fA frs.length fc, .int .i64 (⟨0, 0, 0, 0, ⟨#[]⟩, ⟨#[]⟩, ⟨#[]⟩⟩ : Hd).k, .int .i64 (⟨0, 0, 0, 0, ⟨#[]⟩, ⟨#[]⟩, ⟨#[]⟩⟩ : Hd).n, .int .i64 (⟨0, 0, 0, 0, ⟨#[]⟩, ⟨#[]⟩, ⟨#[]⟩⟩ : Hd).vk, .int .i64 (⟨0, 0, 0, 0, ⟨#[]⟩, ⟨#[]⟩, ⟨#[]⟩⟩ : Hd).vn, .string (⟨0, 0, 0, 0, ⟨#[]⟩, ⟨#[]⟩, ⟨#[]⟩⟩ : Hd).vs, .string (⟨0, 0, 0, 0, ⟨#[]⟩, ⟨#[]⟩, ⟨#[]⟩⟩ : Hd).tab, .string (⟨0, 0, 0, 0, ⟨#[]⟩, ⟨#[]⟩, ⟨#[]⟩⟩ : Hd).col, .slice none 0 0, .slice gA grp.length gc]) slC_ok HUl.out HmU.out HS14.out.but HS14.out.rs HS14.out.told (OnU.refl _ _).set.set.set.set.set.set.set.set.set.set.set.set)
    | false =>
      obtain rfl := hno2 rfl
      clear hno2
      have hUneV : U ≠ V := Nat.ne_of_lt HUV.out
      have hVneU := hUneV.symm
      have d0 : v11.cell? ⟨V, 0, none⟩ = some (.bool t2) := HS11.out.bv.cell 0
      have d1 : v11.cell? ⟨V, 1, none⟩ = some (.slice iA its.length ic) := HS11.out.bv.cell 1
      have d2 : v11.cell? ⟨V, 2, none⟩ = some (.slice fA frs.length fc) := HS11.out.bv.cell 2
      have d3 : v11.cell? ⟨V, 3, none⟩ = some (.int .i64 (⟨0, 0, 0, 0, ⟨#[]⟩, ⟨#[]⟩, ⟨#[]⟩⟩ : Hd).k) := HS11.out.bv.cell 3
      have d4 : v11.cell? ⟨V, 4, none⟩ = some (.int .i64 (⟨0, 0, 0, 0, ⟨#[]⟩, ⟨#[]⟩, ⟨#[]⟩⟩ : Hd).n) := HS11.out.bv.cell 4
      have d5 : v11.cell? ⟨V, 5, none⟩ = some (.int .i64 (⟨0, 0, 0, 0, ⟨#[]⟩, ⟨#[]⟩, ⟨#[]⟩⟩ : Hd).vk) := HS11.out.bv.cell 5
      have d6 : v11.cell? ⟨V, 6, none⟩ = some (.int .i64 (⟨0, 0, 0, 0, ⟨#[]⟩, ⟨#[]⟩, ⟨#[]⟩⟩ : Hd).vn) := HS11.out.bv.cell 6
      have d7 : v11.cell? ⟨V, 7, none⟩ = some (.string (⟨0, 0, 0, 0, ⟨#[]⟩, ⟨#[]⟩, ⟨#[]⟩⟩ : Hd).vs) := HS11.out.bv.cell 7
      have d8 : v11.cell? ⟨V, 8, none⟩ = some (.string (⟨0, 0, 0, 0, ⟨#[]⟩, ⟨#[]⟩, ⟨#[]⟩⟩ : Hd).tab) := HS11.out.bv.cell 8
      have d9 : v11.cell? ⟨V, 9, none⟩ = some (.string (⟨0, 0, 0, 0, ⟨#[]⟩, ⟨#[]⟩, ⟨#[]⟩⟩ : Hd).col) := HS11.out.bv.cell 9
      have d10 : v11.cell? ⟨V, 10, none⟩ = some (.slice none 0 0) := HS11.out.bv.cell 10
      have d11 : v11.cell? ⟨V, 11, none⟩ = some (.slice none 0 0) := HS11.out.bv.cell 11
      have HXe := Lib.hid (show X = (⟨t2, its, frs, Pa.exZ, []⟩, sg) by rw [← HX.out]; simp only [Pa.partP, HK1.out, HK2.out, HKi.out, HKm.out, HKf.out, Pa.whereP, HKw.out, Pa.groupP, HKg.out, Bool.false_eq_true, if_false])
      have c0 : (v11).cell? ⟨U, 0, none⟩ = some (.bool false) := (HS11.out.bu).cell 0
      have c1 : (v11).cell? ⟨U, 1, none⟩ = some (.slice none 0 0) := (HS11.out.bu).cell 1
      have c2 : (v11).cell? ⟨U, 2, none⟩ = some (.slice none 0 0) := (HS11.out.bu).cell 2
      have c3 : (v11).cell? ⟨U, 3, none⟩ = some (.int .i64 0) := (HS11.out.bu).cell 3
      have c4 : (v11).cell? ⟨U, 4, none⟩ = some (.int .i64 0) := (HS11.out.bu).cell 4
      have c5 : (v11).cell? ⟨U, 5, none⟩ = some (.int .i64 0) := (HS11.out.bu).cell 5
      have c6 : (v11).cell? ⟨U, 6, none⟩ = some (.int .i64 0) := (HS11.out.bu).cell 6
      have c7 : (v11).cell? ⟨U, 7, none⟩ = some (.string ⟨#[]⟩) := (HS11.out.bu).cell 7
      have c8 : (v11).cell? ⟨U, 8, none⟩ = some (.string ⟨#[]⟩) := (HS11.out.bu).cell 8
      have c9 : (v11).cell? ⟨U, 9, none⟩ = some (.string ⟨#[]⟩) := (HS11.out.bu).cell 9
      have c10 : (v11).cell? ⟨U, 10, none⟩ = some (.slice none 0 0) := (HS11.out.bu).cell 10
      have c11 : (v11).cell? ⟨U, 11, none⟩ = some (.slice none 0 0) := (HS11.out.bu).cell 11
      have fc0 := (HS11.out.bu).frozen 0
      have fc1 := (HS11.out.bu).frozen 1
      have fc2 := (HS11.out.bu).frozen 2
      have fc3 := (HS11.out.bu).frozen 3
      have fc4 := (HS11.out.bu).frozen 4
      have fc5 := (HS11.out.bu).frozen 5
      have fc6 := (HS11.out.bu).frozen 6
      have fc7 := (HS11.out.bu).frozen 7
      have fc8 := (HS11.out.bu).frozen 8
      have fc9 := (HS11.out.bu).frozen 9
      have fc10 := (HS11.out.bu).frozen 10
      have fc11 := (HS11.out.bu).frozen 11
      go_wp2_with fail
      exact bodyPost_ret (v := .agg #[.bool t2, .slice iA its.length ic, .slice fA frs.length fc, .int .i64 (⟨0, 0, 0, 0, ⟨#[]⟩, ⟨#[]⟩, ⟨#[]⟩⟩ : Hd).k, .int .i64 (⟨0, 0, 0, 0, ⟨#[]⟩, ⟨#[]⟩, ⟨#[]⟩⟩ : Hd).n, .int .i64 (⟨0, 0, 0, 0, ⟨#[]⟩, ⟨#[]⟩, ⟨#[]⟩⟩ : Hd).vk, .int .i64 (⟨0, 0, 0, 0, ⟨#[]⟩, ⟨#[]⟩, ⟨#[]⟩⟩ : Hd).vn, .string (⟨0, 0, 0, 0, ⟨#[]⟩, ⟨#[]⟩, ⟨#[]⟩⟩ : Hd).vs, .string (⟨0, 0, 0, 0, ⟨#[]⟩, ⟨#[]⟩, ⟨#[]⟩⟩ : Hd).tab, .string (⟨0, 0, 0, 0, ⟨#[]⟩, ⟨#[]⟩, ⟨#[]⟩⟩ : Hd).col, .slice none 0 0, .slice none 0 0]) (by simp [results, Tryz.results42, go_sem, c0, c1, c2, c3, c4, c5, c6, c7, c8, c9, c10, c11]) rfl (by rw [HXe.out]; exact RuE.fin (c := [.bool t2, .slice iA its.length ic, .slice fA frs.length fc, .int .i64 (⟨0, 0, 0, 0, ⟨#[]⟩, ⟨#[]⟩, ⟨#[]⟩⟩ : Hd).k, .int .i64 (⟨0, 0, 0, 0, ⟨#[]⟩, ⟨#[]⟩, ⟨#[]⟩⟩ : Hd).n, .int .i64 (⟨0, 0, 0, 0, ⟨#[]⟩, ⟨#[]⟩, ⟨#[]⟩⟩ : Hd).vk, .int .i64 (⟨0, 0, 0, 0, ⟨#[]⟩, ⟨#[]⟩, ⟨#[]⟩⟩ : Hd).vn, .string (⟨0, 0, 0, 0, ⟨#[]⟩, ⟨#[]⟩, ⟨#[]⟩⟩ : Hd).vs, .string (⟨0, 0, 0, 0, ⟨#[]⟩, ⟨#[]⟩, ⟨#[]⟩⟩ : Hd).tab, .string (⟨0, 0, 0, 0, ⟨#[]⟩, ⟨#[]⟩, ⟨#[]⟩⟩ : Hd).col, .slice none 0 0, .slice none 0 0]) slC_ok HUl.out HmU.out HS11.out.but HS11.out.rs HS11.out.told (OnU.refl _ _).set.set.set.set.set.set.set.set.set.set.set.set)
end Go.Proofs.YtfjimoccliejdaaGreatDoor
end
section
namespace Go.Proofs.YtfjimoccliejdaaGreatDoor
open Go.RowKit Go.Shelf

abbrev cs3 : Array Value := #[.slice none 0 0, .slice none 0 0, .int .i64 0]
/-- A query that is being read. -/
structure QuS (m U V : Nat) (w : World) (parts : List Pa.Sel) (pA : Option Addr) (pc : Nat) (order : List Pa.Ky) (oA : Option Addr) (oc : Nat) (lim : Int) (s1 : Pa.Ps) (W : World) : Prop where
  rs : RS m W s1
  but : ButM m w W
  bu : BxU W U cs3 26
  bv : BxU W V #[.slice pA parts.length pc, .slice oA order.length oc, .int .i64 lim] 26
  lp : parts.length ≤ pc ∧ Ls slC (Bv U V W.heap.size) W parts pA
  lo : order.length ≤ oc ∧ Ls kyC (Bv U V W.heap.size) W order oA
theorem QuS.go {m U V : Nat} {w : World} {parts : List Pa.Sel} {pA : Option Addr} {pc : Nat} {order : List Pa.Ky} {oA : Option Addr} {oc : Nat} {lim : Int} {s1 : Pa.Ps} {W W' : World} {s2 : Pa.Ps} (h : QuS m U V w parts pA pc order oA oc lim s1 W) (hR : RS m W' s2) (hM : ButM m w W') (hU : BxU W' U cs3 26) (hV : BxU W' V #[.slice pA parts.length pc, .slice oA order.length oc, .int .i64 lim] 26) (hk : ∀ k, Bv U V W.heap.size k → W'.heap[k]? = W.heap[k]?) (hs : W.heap.size ≤ W'.heap.size) : QuS m U V w parts pA pc order oA oc lim s2 W' := by
  have hB : ∀ k, Bv U V W.heap.size k → Bv U V W'.heap.size k := fun k hk => ⟨hk.1, Nat.lt_of_lt_of_le hk.2.1 hs, hk.2.2⟩
  exact ⟨hR, hM, hU, hV, ⟨h.lp.1, h.lp.2.go slC_ok hk hB⟩, ⟨h.lo.1, h.lo.2.go kyC_ok hk hB⟩⟩
theorem QuS.next {m U V : Nat} {w : World} {parts : List Pa.Sel} {pA : Option Addr} {pc : Nat} {order : List Pa.Ky} {oA : Option Addr} {oc : Nat} {lim : Int} {s1 : Pa.Ps} {W W' : World} (h : QuS m U V w parts pA pc order oA oc lim s1 W) (hb : Below W.heap.size W W') : QuS m U V w parts pA pc order oA oc lim s1 W' :=
  h.go (h.rs.next hb) (h.but.trans (ButM.of hb)) (h.bu.next hb) (h.bv.next hb) (fun k hk => hb.block k hk.2.1) hb.size
theorem QuS.step {m U V : Nat} {w : World} {parts : List Pa.Sel} {pA : Option Addr} {pc : Nat} {order : List Pa.Ky} {oA : Option Addr} {oc : Nat} {lim : Int} {s1 : Pa.Ps} {W W' : World} {s2 : Pa.Ps} (h : QuS m U V w parts pA pc order oA oc lim s1 W) (hm : m < U) (hUV : U < V) (hM : ButM m W W') (hR : RS m W' s2) : QuS m U V w parts pA pc order oA oc lim s2 W' :=
  h.go hR (h.but.trans hM) (h.bu.but hm hM) (h.bv.but (by omega) hM) (fun k hk => hM.block k hk.2.1 (by have := hk.1; omega)) hM.size
theorem QuS.keys {m U V : Nat} {w : World} {parts : List Pa.Sel} {pA : Option Addr} {pc : Nat} {order : List Pa.Ky} {oA : Option Addr} {oc : Nat} {lim : Int} {s1 : Pa.Ps} {W : World} (h : QuS m U V w parts pA pc order oA oc lim s1 W) (hm : m < U) (hUV : U < V) (hw : w.heap.size ≤ U) {v : Value} {l : List Pa.Ky} {b : Nat} (ho : Ow kyC 54 2 b W v l) (hb : V < b) :
    ∃ A9 c9, v = .slice A9 l.length c9 ∧ QuS m U V w parts pA pc l A9 c9 lim s1 (W.setCell ⟨V, 1, none⟩ (.slice A9 l.length c9)) := by
  obtain ⟨A9, c9, rfl, hl9, hL⟩ := ho.read kyC_ok
  have hO : OnU V W (W.setCell ⟨V, 1, none⟩ (.slice A9 l.length c9)) := (OnU.refl V W).set
  have hk : ∀ k, Bv U V W.heap.size k → (W.setCell ⟨V, 1, none⟩ (.slice A9 l.length c9)).heap[k]? = W.heap[k]? := fun k hk => hO.block k hk.2.2
  have hB : ∀ k, Bv U V W.heap.size k → Bv U V (W.setCell ⟨V, 1, none⟩ (.slice A9 l.length c9)).heap.size k := fun k hk => ⟨hk.1, by rw [hO.size]; exact hk.2.1, hk.2.2⟩
  have hB9 : ∀ k, Bn b W k → Bv U V (W.setCell ⟨V, 1, none⟩ (.slice A9 l.length c9)).heap.size k := fun k hk => ⟨by have := hk.1; omega, by rw [hO.size]; exact hk.2, by have := hk.1; omega⟩
  exact ⟨A9, c9, rfl, hO.rs (by omega) h.rs, hO.but (by omega) h.but, h.bu.off (Nat.ne_of_lt hUV) hO, h.bv.set1 1 _, ⟨h.lp.1, h.lp.2.go slC_ok hk hB⟩, ⟨hl9, hL.go kyC_ok (fun k hk => hO.block k (hB9 k hk).2.2) hB9⟩⟩
theorem QuS.limit {m U V : Nat} {w : World} {parts : List Pa.Sel} {pA : Option Addr} {pc : Nat} {order : List Pa.Ky} {oA : Option Addr} {oc : Nat} {lim : Int} {s1 : Pa.Ps} {W : World} (h : QuS m U V w parts pA pc order oA oc lim s1 W) (hm : m < U) (hUV : U < V) (hw : w.heap.size ≤ U) (n : Int) : QuS m U V w parts pA pc order oA oc n s1 (W.setCell ⟨V, 2, none⟩ (.int .i64 n)) := by
  have hO : OnU V W (W.setCell ⟨V, 2, none⟩ (.int .i64 n)) := (OnU.refl V W).set
  have hk : ∀ k, Bv U V W.heap.size k → (W.setCell ⟨V, 2, none⟩ (.int .i64 n)).heap[k]? = W.heap[k]? := fun k hk => hO.block k hk.2.2
  have hB : ∀ k, Bv U V W.heap.size k → Bv U V (W.setCell ⟨V, 2, none⟩ (.int .i64 n)).heap.size k := fun k hk => ⟨hk.1, by rw [hO.size]; exact hk.2.1, hk.2.2⟩
  exact ⟨hO.rs (by omega) h.rs, hO.but (by omega) h.but, h.bu.off (Nat.ne_of_lt hUV) hO, h.bv.set1 2 _, ⟨h.lp.1, h.lp.2.go slC_ok hk hB⟩, ⟨h.lo.1, h.lo.2.go kyC_ok hk hB⟩⟩
theorem QuS.told {m U V : Nat} {w : World} {parts : List Pa.Sel} {pA : Option Addr} {pc : Nat} {order : List Pa.Ky} {oA : Option Addr} {oc : Nat} {lim : Int} {s1 : Pa.Ps} {W : World} (h : QuS m U V w parts pA pc order oA oc lim s1 W) : quC (Bt (U + 1) W.heap.size) W (⟨parts, order, lim⟩ : Pa.Qu) [.slice pA parts.length pc, .slice oA order.length oc, .int .i64 lim] := by
  have hB : ∀ k, Bv U V W.heap.size k → Bt (U + 1) W.heap.size k := fun k hk => ⟨hk.1, hk.2.1⟩
  exact ⟨pA, oA, pc, oc, rfl, ⟨h.lp.1, h.lo.1⟩, h.lp.2.go slC_ok (fun _ _ => rfl) hB, h.lo.2.go kyC_ok (fun _ _ => rfl) hB⟩
theorem quC_ok : LayOk quC 3 :=
  ⟨fun hb hB h => quC_go hb hB h, fun ⟨_, _, _, _, hc, _⟩ => by rw [hc]; rfl, fun ⟨_, _, _, _, hc, _⟩ => by
    rw [hc]
    intro u hu
    simp at hu
    rcases hu with rfl | rfl | rfl <;> rfl⟩
set_option maxRecDepth 100000 in
set_option maxHeartbeats 4000000 in
theorem pquery_any (F m N : Nat) (hN5 : N ≤ 5000) (HO : Ok 29 (Pa.lev F 0) m N) : OkP quC 19 (Pa.queryP (Pa.lev F 0)) m N := by
  intro s w h hN
  have HPa := Lib.hid (ppart_any F m N hN5 HO)
  have HKe := Lib.hid (show OkP kyC 45 Pa.keyP m N from fun s w h _ => pkey_any m s w h)
  clear HO
  have HB := Lib.hid (ba w (.cells #[.slice none 0 0, .slice none 0 0, .int .i64 0] 26))
  have HU := Lib.hid (show BxU _ _ #[.slice none 0 0, .slice none 0 0, .int .i64 0] 26 from (MapKept.heap_alloc w (.cells #[.slice none 0 0, .slice none 0 0, .int .i64 0] 26)).1)
  have H1 := Lib.hid (h.next HB.out)
  have hmU := h.lt
  have HFin := Lib.hid h.fin
  obtain ⟨U, hU⟩ : ∃ U, w.heap.size = U := ⟨_, rfl⟩
  have HUl := Lib.hid hU
  have HSz := Lib.hid (show (w.alloc (.cells #[.slice none 0 0, .slice none 0 0, .int .i64 0] 26)).heap.size = U + 1 by rw [World.size_alloc, hU])
  rw [hU] at HU hmU
  have HmU := Lib.hid hmU
  obtain ⟨X, hX⟩ : ∃ X, Pa.queryP (Pa.lev F 0) s = X := ⟨_, rfl⟩
  rw [hX]
  have HX := Lib.hid hX
  clear h hX hmU
  go_enter Tryz.func19, Tryz.ntmps19
  go_wp2_with fail
  generalize w.alloc (.cells #[.slice none 0 0, .slice none 0 0, .int .i64 0] 26) = W1 at HB HU H1 HSz ⊢
  clear hU
  have HM1 := Lib.hid (show ButM m w W1 from ButM.of HB.out)
  have hbg := ba W1 (.cells #[st Pa.wUNION, st Pa.wALL] 9)
  have hgg : BxU (W1.alloc (.cells #[st Pa.wUNION, st Pa.wALL] 9)) (U + 1) #[st Pa.wUNION, st Pa.wALL] 9 := by have := (MapKept.heap_alloc W1 (.cells #[st Pa.wUNION, st Pa.wALL] 9)).1; rw [HSz.out] at this; exact this
  have hp := fun (s : Pa.Ps) (hs : Pa.Fin s.ts) => Pa.partP_le (fun s hs => Pa.lev_le F 0 s hs) hs
  have HTl := Lib.hid (listL_any (Pa.partP (Pa.lev F 0)) hp m N hN5 HPa.out s Pa.wUNION Pa.wALL (U + 1) _ (H1.out.next hbg) hN (by have := HmU.out; omega) (hgg.cell 0) (hgg.cell 1))
  obtain ⟨⟨parts, sp⟩, hl⟩ : ∃ q, Pa.listP (Pa.partP (Pa.lev F 0)) Pa.wUNION [Pa.wALL] s = q := ⟨_, rfl⟩
  have hll := Pa.listP_le (w := Pa.wUNION) (ws := [Pa.wALL]) hp HFin.out
  rw [hl] at HTl hll
  have HKl := Lib.hid hl
  simp only at HTl
  have HNp := Lib.hid (show sp.ts.length ≤ N from Nat.le_trans (show sp.ts.length ≤ _ from hll.len) hN)
  have HSg := Lib.hid (show U < (W1.alloc (.cells #[st Pa.wUNION, st Pa.wALL] 9)).heap.size by rw [World.size_alloc, HSz.out]; omega)
  have HMg := Lib.hid (HM1.out.trans (ButM.of hbg))
  have HUg := Lib.hid (HU.out.next hbg)
  have HwU := Lib.hid (show w.heap.size ≤ U by rw [HUl.out]; exact Nat.le_refl _)
  clear hbg hgg hp hl hll hN
  go_wp2_with fail
  refine HTl.out.mono ?_
  rintro e v2 ⟨vp, rfl, hO, hR, hM⟩
  obtain ⟨pA, pc, rfl, hpc, hL⟩ := hO.read slC_ok
  have hbv := ba v2 (.cells #[.slice pA parts.length pc, .slice none 0 0, .int .i64 (-1)] 26)
  have hVv := (MapKept.heap_alloc v2 (.cells #[.slice pA parts.length pc, .slice none 0 0, .int .i64 (-1)] 26)).1
  obtain ⟨V, hV⟩ : ∃ V, v2.heap.size = V := ⟨_, rfl⟩
  rw [hV] at hVv
  have HUV := Lib.hid (show U < V by rw [← hV]; exact (HUg.out.but HmU.out hM).lt)
  have HS3 := Lib.hid (show QuS m U V w parts pA pc [] none 0 (-1) sp (v2.alloc (.cells #[.slice pA parts.length pc, .slice none 0 0, .int .i64 (-1)] 26)) from ⟨hR.next hbv, (HMg.out.trans hM).trans (ButM.of hbv), (HUg.out.but HmU.out hM).next hbv, hVv, ⟨hpc, hL.go slC_ok (fun k hk => hbv.block k hk.2) (fun k hk => ⟨by have := hk.1; have := HSg.out; omega, Nat.lt_of_lt_of_le hk.2 hbv.size, by have := hk.2; omega⟩)⟩, ⟨Nat.le_refl _, Ls.nil _ _ _ _⟩⟩)
  have HmV3 := Lib.hid hR.lt
  clear hO hR hM hL hbv hVv
  have HSz3 := Lib.hid (show (v2.alloc (.cells #[.slice pA parts.length pc, .slice none 0 0, .int .i64 (-1)] 26)).heap.size = V + 1 by rw [World.size_alloc, hV])
  have hbo := ba (v2.alloc (.cells #[.slice pA parts.length pc, .slice none 0 0, .int .i64 (-1)] 26)) (.cells #[st Pa.wORDER, st Pa.wBY] 9)
  have hgo : BxU ((v2.alloc (.cells #[.slice pA parts.length pc, .slice none 0 0, .int .i64 (-1)] 26)).alloc (.cells #[st Pa.wORDER, st Pa.wBY] 9)) (V + 1) #[st Pa.wORDER, st Pa.wBY] 9 := by have := (MapKept.heap_alloc (v2.alloc (.cells #[.slice pA parts.length pc, .slice none 0 0, .int .i64 (-1)] 26)) (.cells #[st Pa.wORDER, st Pa.wBY] 9)).1; rw [HSz3.out] at this; exact this
  have HS4 := Lib.hid (HS3.out.next hbo)
  have HTo := Lib.hid (takeAll2_any m sp Pa.wORDER Pa.wBY (V + 1) _ HS4.out.rs (by have := HmU.out; have := HUV.out; omega) (hgo.cell 0) (hgo.cell 1))
  have hng := Pa.takeAll_le Pa.wORDER [Pa.wBY] HS3.out.rs.fin
  obtain ⟨to, ht⟩ : ∃ z, (Pa.takeAll Pa.wORDER [Pa.wBY] sp).1 = z := ⟨_, rfl⟩
  obtain ⟨so, hs⟩ : ∃ z, (Pa.takeAll Pa.wORDER [Pa.wBY] sp).2 = z := ⟨_, rfl⟩
  rw [ht, hs] at HTo
  rw [ht, hs] at hng
  have HKo := Lib.hid (show Pa.takeAll Pa.wORDER [Pa.wBY] sp = (to, so) by rw [← ht, ← hs])
  have HNo := Lib.hid (show so.ts.length ≤ N by have := hng.1.len; have := HNp.out; omega)
  have hno := hng.2.2
  clear ht hs hng hbo hgo
  go_wp2_with fail
  clear hV
  refine HTo.out.mono ?_
  rintro e v4 ⟨rfl, hR, hM⟩
  have HS5 := Lib.hid (HS4.out.step HmU.out HUV.out hM hR)
  clear hR hM
  cases to with
  | true =>
    clear hno
    have hbg := ba v4 (.cells #[st [44]] 9)
    have hgg : BxU (v4.alloc (.cells #[st [44]] 9)) v4.heap.size #[st [44]] 9 := (MapKept.heap_alloc v4 (.cells #[st [44]] 9)).1
    have HS6 := Lib.hid (HS5.out.next hbg)
    have HTk := Lib.hid (listK_any Pa.keyP (fun s hs => Pa.keyP_le hs) m N hN5 HKe.out so [44] v4.heap.size _ HS6.out.rs HNo.out HS5.out.rs.lt (hgg.cell 0))
    obtain ⟨⟨order, sk⟩, hk⟩ : ∃ q, Pa.listP Pa.keyP [44] [] so = q := ⟨_, rfl⟩
    rw [hk] at HTk
    have HKk0 := Lib.hid hk
    simp only at HTk
    have HVs := Lib.hid (show V < (v4.alloc (.cells #[st [44]] 9)).heap.size from HS6.out.bv.lt)
    clear hk hbg hgg
    go_wp2_with fail
    refine HTk.out.mono ?_
    rintro e v5 ⟨vk, rfl, hO, hR, hM⟩
    obtain ⟨oA, oc, rfl, hS9⟩ := (HS6.out.step HmU.out HUV.out hM hR).keys HmU.out HUV.out HwU.out hO HVs.out
    have HSx := Lib.hid (HS6.out.step HmU.out HUV.out hM hR)
    have d1 : v5.cell? ⟨V, 1, none⟩ = some (.slice none 0 0) := HSx.out.bv.cell 1
    have fd1 := HSx.out.bv.frozen 1
    have HS9k := Lib.hid hS9
    clear hO hR hM hS9
    go_wp2_with fail
    generalize v5.setCell ⟨V, 1, none⟩ (.slice oA order.length oc) = W6 at HS9k ⊢
    clear d1 fd1
    have HTm := Lib.hid (take_any m sk Pa.wLIMIT W6 HS9k.out.rs)
    have hnl := Pa.takeW_le Pa.wLIMIT HS9k.out.rs.fin
    obtain ⟨tl, ht⟩ : ∃ z, (Pa.takeW Pa.wLIMIT sk).1 = z := ⟨_, rfl⟩
    obtain ⟨sl, hs⟩ : ∃ z, (Pa.takeW Pa.wLIMIT sk).2 = z := ⟨_, rfl⟩
    rw [ht, hs] at HTm
    rw [ht, hs] at hnl
    have HKm := Lib.hid (show Pa.takeW Pa.wLIMIT sk = (tl, sl) by rw [← ht, ← hs])
    have hno2 := hnl.2.2
    clear ht hs hnl
    skip
    refine HTm.out.mono ?_
    rintro e v7 ⟨rfl, hR, hM⟩
    have HS7 := Lib.hid (HS9k.out.step HmU.out HUV.out hM hR)
    clear hR hM
    cases tl with
    | true =>
      clear hno2
      have HTk := Lib.hid (mustK_any m sl 3 (by decide) v7 HS7.out.rs)
      obtain ⟨⟨tk, sk⟩, hk⟩ : ∃ q, Pa.mustK 3 sl = q := ⟨_, rfl⟩
      rw [hk] at HTk
      have HKk := Lib.hid hk
      simp only at HTk
      clear hk
      go_wp2_with fail
      refine HTk.out.mono ?_
      rintro e v8 ⟨⟨y8, rfl, hy⟩, hR, hM⟩
      have HS8 := Lib.hid (HS7.out.step HmU.out HUV.out hM hR)
      have hfd := field_tokN y8.1.k ⟨y8.1.s.toArray⟩ y8.1.n y8.2 v8
      have HY := Lib.hid hy
      clear hR hM hy
      have HS9 := Lib.hid (HS8.out.limit HmU.out HUV.out HwU.out (y8.1.n : Int))
      have hUneV : U ≠ V := Nat.ne_of_lt HUV.out
      have hVneU := hUneV.symm
      have d0 : v8.cell? ⟨V, 0, none⟩ = some (.slice pA parts.length pc) := HS8.out.bv.cell 0
      have d1 : v8.cell? ⟨V, 1, none⟩ = some (.slice oA order.length oc) := HS8.out.bv.cell 1
      have d2 : v8.cell? ⟨V, 2, none⟩ = some (.int .i64 (-1)) := HS8.out.bv.cell 2
      have fd2 := HS8.out.bv.frozen 2
      have HXe := Lib.hid (show X = (⟨parts, order, (y8.1.n : Int)⟩, sk) by rw [← HX.out]; simp only [Pa.queryP, HKl.out, Pa.orderP, HKo.out, if_true, HKk0.out, Pa.limitP, HKm.out, if_true, HKk.out, HY.out])
      have c0 : ((v8.setCell ⟨V, 2, none⟩ (.int .i64 (y8.1.n : Int)))).cell? ⟨U, 0, none⟩ = some (.slice none 0 0) := (HS9.out.bu).cell 0
      have c1 : ((v8.setCell ⟨V, 2, none⟩ (.int .i64 (y8.1.n : Int)))).cell? ⟨U, 1, none⟩ = some (.slice none 0 0) := (HS9.out.bu).cell 1
      have c2 : ((v8.setCell ⟨V, 2, none⟩ (.int .i64 (y8.1.n : Int)))).cell? ⟨U, 2, none⟩ = some (.int .i64 0) := (HS9.out.bu).cell 2
      have fc0 := (HS9.out.bu).frozen 0
      have fc1 := (HS9.out.bu).frozen 1
      have fc2 := (HS9.out.bu).frozen 2
      go_wp2_with fail
      exact bodyPost_ret (v := .agg #[.slice pA parts.length pc, .slice oA order.length oc, .int .i64 (y8.1.n : Int)]) (by simp [results, Tryz.results19, go_sem, c0, c1, c2]) rfl (by rw [HXe.out]; exact RuE.fin (c := [.slice pA parts.length pc, .slice oA order.length oc, .int .i64 (y8.1.n : Int)]) quC_ok HUl.out HmU.out HS9.out.but HS9.out.rs HS9.out.told (OnU.refl _ _).set.set.set)
    | false =>
      obtain rfl := hno2 rfl
      clear hno2
      have hUneV : U ≠ V := Nat.ne_of_lt HUV.out
      have hVneU := hUneV.symm
      have d0 : v7.cell? ⟨V, 0, none⟩ = some (.slice pA parts.length pc) := HS7.out.bv.cell 0
      have d1 : v7.cell? ⟨V, 1, none⟩ = some (.slice oA order.length oc) := HS7.out.bv.cell 1
      have d2 : v7.cell? ⟨V, 2, none⟩ = some (.int .i64 (-1)) := HS7.out.bv.cell 2
      have HXe := Lib.hid (show X = (⟨parts, order, -1⟩, sl) by rw [← HX.out]; simp only [Pa.queryP, HKl.out, Pa.orderP, HKo.out, if_true, HKk0.out, Pa.limitP, HKm.out, Bool.false_eq_true, if_false])
      have c0 : (v7).cell? ⟨U, 0, none⟩ = some (.slice none 0 0) := (HS7.out.bu).cell 0
      have c1 : (v7).cell? ⟨U, 1, none⟩ = some (.slice none 0 0) := (HS7.out.bu).cell 1
      have c2 : (v7).cell? ⟨U, 2, none⟩ = some (.int .i64 0) := (HS7.out.bu).cell 2
      have fc0 := (HS7.out.bu).frozen 0
      have fc1 := (HS7.out.bu).frozen 1
      have fc2 := (HS7.out.bu).frozen 2
      go_wp2_with fail
      exact bodyPost_ret (v := .agg #[.slice pA parts.length pc, .slice oA order.length oc, .int .i64 (-1)]) (by simp [results, Tryz.results19, go_sem, c0, c1, c2]) rfl (by rw [HXe.out]; exact RuE.fin (c := [.slice pA parts.length pc, .slice oA order.length oc, .int .i64 (-1)]) quC_ok HUl.out HmU.out HS7.out.but HS7.out.rs HS7.out.told (OnU.refl _ _).set.set.set)
  | false =>
    obtain rfl := hno rfl
    clear hno
    have HTm := Lib.hid (take_any m so Pa.wLIMIT v4 HS5.out.rs)
    have hnl := Pa.takeW_le Pa.wLIMIT HS5.out.rs.fin
    obtain ⟨tl, ht⟩ : ∃ z, (Pa.takeW Pa.wLIMIT so).1 = z := ⟨_, rfl⟩
    obtain ⟨sl, hs⟩ : ∃ z, (Pa.takeW Pa.wLIMIT so).2 = z := ⟨_, rfl⟩
    rw [ht, hs] at HTm
    rw [ht, hs] at hnl
    have HKm := Lib.hid (show Pa.takeW Pa.wLIMIT so = (tl, sl) by rw [← ht, ← hs])
    have hno2 := hnl.2.2
    clear ht hs hnl
    go_wp2_with fail
    refine HTm.out.mono ?_
    rintro e v7 ⟨rfl, hR, hM⟩
    have HS7 := Lib.hid (HS5.out.step HmU.out HUV.out hM hR)
    clear hR hM
    cases tl with
    | true =>
      clear hno2
      have HTk := Lib.hid (mustK_any m sl 3 (by decide) v7 HS7.out.rs)
      obtain ⟨⟨tk, sk⟩, hk⟩ : ∃ q, Pa.mustK 3 sl = q := ⟨_, rfl⟩
      rw [hk] at HTk
      have HKk := Lib.hid hk
      simp only at HTk
      clear hk
      go_wp2_with fail
      refine HTk.out.mono ?_
      rintro e v8 ⟨⟨y8, rfl, hy⟩, hR, hM⟩
      have HS8 := Lib.hid (HS7.out.step HmU.out HUV.out hM hR)
      have hfd := field_tokN y8.1.k ⟨y8.1.s.toArray⟩ y8.1.n y8.2 v8
      have HY := Lib.hid hy
      clear hR hM hy
      have HS9 := Lib.hid (HS8.out.limit HmU.out HUV.out HwU.out (y8.1.n : Int))
      have hUneV : U ≠ V := Nat.ne_of_lt HUV.out
      have hVneU := hUneV.symm
      have d0 : v8.cell? ⟨V, 0, none⟩ = some (.slice pA parts.length pc) := HS8.out.bv.cell 0
      have d1 : v8.cell? ⟨V, 1, none⟩ = some (.slice none ([] : List Pa.Ky).length 0) := HS8.out.bv.cell 1
      have d2 : v8.cell? ⟨V, 2, none⟩ = some (.int .i64 (-1)) := HS8.out.bv.cell 2
      have fd2 := HS8.out.bv.frozen 2
      have HXe := Lib.hid (show X = (⟨parts, ([] : List Pa.Ky), (y8.1.n : Int)⟩, sk) by rw [← HX.out]; simp only [Pa.queryP, HKl.out, Pa.orderP, HKo.out, Bool.false_eq_true, if_false, Pa.limitP, HKm.out, if_true, HKk.out, HY.out])
      have c0 : ((v8.setCell ⟨V, 2, none⟩ (.int .i64 (y8.1.n : Int)))).cell? ⟨U, 0, none⟩ = some (.slice none 0 0) := (HS9.out.bu).cell 0
      have c1 : ((v8.setCell ⟨V, 2, none⟩ (.int .i64 (y8.1.n : Int)))).cell? ⟨U, 1, none⟩ = some (.slice none 0 0) := (HS9.out.bu).cell 1
      have c2 : ((v8.setCell ⟨V, 2, none⟩ (.int .i64 (y8.1.n : Int)))).cell? ⟨U, 2, none⟩ = some (.int .i64 0) := (HS9.out.bu).cell 2
      have fc0 := (HS9.out.bu).frozen 0
      have fc1 := (HS9.out.bu).frozen 1
      have fc2 := (HS9.out.bu).frozen 2
      go_wp2_with fail
      exact bodyPost_ret (v := .agg #[.slice pA parts.length pc, .slice none ([] : List Pa.Ky).length 0, .int .i64 (y8.1.n : Int)]) (by simp [results, Tryz.results19, go_sem, c0, c1, c2]) rfl (by rw [HXe.out]; exact RuE.fin (c := [.slice pA parts.length pc, .slice none ([] : List Pa.Ky).length 0, .int .i64 (y8.1.n : Int)]) quC_ok HUl.out HmU.out HS9.out.but HS9.out.rs HS9.out.told (OnU.refl _ _).set.set.set)
    | false =>
      obtain rfl := hno2 rfl
      clear hno2
      have hUneV : U ≠ V := Nat.ne_of_lt HUV.out
      have hVneU := hUneV.symm
      have d0 : v7.cell? ⟨V, 0, none⟩ = some (.slice pA parts.length pc) := HS7.out.bv.cell 0
      have d1 : v7.cell? ⟨V, 1, none⟩ = some (.slice none ([] : List Pa.Ky).length 0) := HS7.out.bv.cell 1
      have d2 : v7.cell? ⟨V, 2, none⟩ = some (.int .i64 (-1)) := HS7.out.bv.cell 2
      have HXe := Lib.hid (show X = (⟨parts, ([] : List Pa.Ky), -1⟩, sl) by rw [← HX.out]; simp only [Pa.queryP, HKl.out, Pa.orderP, HKo.out, Bool.false_eq_true, if_false, Pa.limitP, HKm.out])
      have c0 : (v7).cell? ⟨U, 0, none⟩ = some (.slice none 0 0) := (HS7.out.bu).cell 0
      have c1 : (v7).cell? ⟨U, 1, none⟩ = some (.slice none 0 0) := (HS7.out.bu).cell 1
      have c2 : (v7).cell? ⟨U, 2, none⟩ = some (.int .i64 0) := (HS7.out.bu).cell 2
      have fc0 := (HS7.out.bu).frozen 0
      have fc1 := (HS7.out.bu).frozen 1
      have fc2 := (HS7.out.bu).frozen 2
      go_wp2_with fail
      exact bodyPost_ret (v := .agg #[.slice pA parts.length pc, .slice none ([] : List Pa.Ky).length 0, .int .i64 (-1)]) (by simp [results, Tryz.results19, go_sem, c0, c1, c2]) rfl (by rw [HXe.out]; exact RuE.fin (c := [.slice pA parts.length pc, .slice none ([] : List Pa.Ky).length 0, .int .i64 (-1)]) quC_ok HUl.out HmU.out HS7.out.but HS7.out.rs HS7.out.told (OnU.refl _ _).set.set.set)
end Go.Proofs.YtfjimoccliejdaaGreatDoor
end
section
namespace Go.Proofs.YtfjimoccliejdaaGreatDoor
open Go.RowKit Go.Shelf

/-- A part of an expression, in memory, found again. -/
theorem kid_at {W : World} {w : World} {l : List Ex} {A : Option Addr} {j : Nat} (hX : XsAt w.heap.size w l A) (hb : Below w.heap.size w W) (hj : j < l.length) :
    ∃ h' l' g o A' cap', l[j]? = some (.mk h' l') ∧ A = some ⟨g, o, none⟩ ∧ g < W.heap.size ∧ XC W g (o + j * 8) h' A' l'.length cap' ∧ l'.length ≤ cap' ∧ XsAt W.heap.size W l' A' := by
  obtain ⟨x, hx⟩ : ∃ x, l[j]? = some x := ⟨_, List.getElem?_eq_getElem hj⟩
  obtain ⟨h', l'⟩ := x
  obtain ⟨g, o, A', cap', e, hg, hc, hl, hx2⟩ := hX.at hx
  exact ⟨h', l', g, o, A', cap', hx, e, Nat.lt_of_lt_of_le hg hb.size, hc.of (hb.block g hg), hl, XsAt.next hx2 hb⟩
end Go.Proofs.YtfjimoccliejdaaGreatDoor
end
section
namespace Go.Proofs.YtfjimoccliejdaaGreatDoor
section
open Go.RowKit Go.Shelf
attribute [local go_sem] Oper.semAt_some

/-- Where the parts of what is put together lie: in blocks of the call's own, none of its two boxes. -/
abbrev Apt (n u2 u3 : Nat) (W : World) (k : Nat) : Prop := n ≤ k ∧ k < W.heap.size ∧ k ≠ u2 ∧ k ≠ u3
theorem Apt.next {n u2 u3 : Nat} {W W' : World} {l : List Ex} {A : Option Addr} (hb : Bel W W') (h : XsB (Apt n u2 u3 W) W l A) : XsB (Apt n u2 u3 W') W' l A :=
  XsB.go (fun k hk => hb.block k hk.2.1) (fun _ hk => ⟨hk.1, Nat.lt_of_lt_of_le hk.2.1 hb.size, hk.2.2⟩) _ _ h
end
section
open Go.RowKit Go.Shelf
attribute [local go_sem] Oper.semAt_some

abbrev eA : Ex := .mk (hdC ⟨#[]⟩ ⟨#[97]⟩) []
mutual
def nzX : Ex → Bool
  | .mk h l => h.k != 0 && nzXs l
def nzXs : List Ex → Bool
  | [] => true
  | x :: r => nzX x && nzXs r
end
theorem XsB.off {B : Nat → Prop} {w : World} {u : Nat} (hu : w.heap[u]? = some x0) : ∀ (l : List Ex) (A : Option Addr), nzXs l = true → XsB B w l A → XsB (fun k => B k ∧ k ≠ u) w l A
  | [], _, _, _ => by rw [XsB]; trivial
  | .mk h l :: r, A, hz, H => by
    rw [nzXs, nzX] at hz
    simp only [Bool.and_eq_true, bne_iff_ne] at hz
    rw [XsB] at H ⊢
    obtain ⟨g, o, e, hg, ⟨A', cap, hc, hl, h1⟩, h2⟩ := H
    refine ⟨g, o, e, ⟨hg, fun e2 => ?_⟩, ⟨A', cap, hc, hl, XsB.off hu l A' hz.1.2 h1⟩, XsB.off hu r _ hz.2 h2⟩
    subst e2
    have h0 := hc.c0
    have h7 := hc.c7
    simp only [World.cell?, hu] at h0 h7
    have ho : o = 0 := by
      rcases Nat.eq_zero_or_pos o with h | h
      · exact h
      · rw [Array.getElem?_eq_none (by simp; omega)] at h7; cases h7
    subst ho
    simp at h0
    exact hz.1.1 h0.symm
end
end Go.Proofs.YtfjimoccliejdaaGreatDoor
end
section
namespace Go.Proofs.YtfjimoccliejdaaGreatDoor
open Go.RowKit Go.Shelf

end Go.Proofs.YtfjimoccliejdaaGreatDoor
end
section
namespace Go.Proofs.YtfjimoccliejdaaGreatDoor
open Go.RowKit Go.Shelf


/-! Digits. -/

/-! Literals. -/
theorem ba_eqx {a b : ByteArray} (h : bs a = bs b) : a = b := by
  apply ByteArray.ext
  exact Array.toList_inj.1 h

/-! Columns. -/

/-! Its first token. -/

theorem hd_ext {h h' : Hd} (e1 : h.k = h'.k) (e2 : h.n = h'.n) (e3 : h.vk = h'.vk) (e4 : h.vn = h'.vn) (e5 : h.vs = h'.vs) (e6 : h.tab = h'.tab) (e7 : h.col = h'.col) : h = h' := by
  cases h; cases h'; simp_all
theorem hdEq_iff (h h' : Hd) : hdEq h h' = true ↔ h = h' := by
  constructor
  · intro e
    simp only [hdEq, eqV, Bool.and_eq_true, beq_iff_eq, ByteArray.toList_eq] at e
    obtain ⟨⟨⟨⟨a, b⟩, ⟨c, d⟩, f⟩, g⟩, i⟩ := e
    exact hd_ext a b c d (ba_eqx f) (ba_eqx g) (ba_eqx i)
  · rintro rfl; simp [hdEq, eqV]
mutual
theorem sameX_iff : ∀ x y : Ex, sameX x y = true ↔ x = y
  | .mk h l, .mk h' l' => by
    rw [sameX, Bool.and_eq_true, hdEq_iff, sameXs_iff l l', Ex.mk.injEq]
theorem sameXs_iff : ∀ l l' : List Ex, sameXs l l' = true ↔ l = l'
  | [], [] => by simp [sameXs]
  | [], _ :: _ => by simp [sameXs]
  | _ :: _, [] => by simp [sameXs]
  | x :: r, y :: r' => by rw [sameXs, Bool.and_eq_true, sameX_iff x y, sameXs_iff r r', List.cons.injEq]
end
end Go.Proofs.YtfjimoccliejdaaGreatDoor
end
section
namespace Go.Proofs.YtfjimoccliejdaaGreatDoor
open Go.RowKit Go.Shelf

theorem refSame_any (h h' : Hd) (l l' : List Ex) (w : World) (A : Option Addr) (cap : Nat) (B : Option Addr) (cap' : Nat) (hX : XsAt w.heap.size w l A) (hcap : l.length ≤ cap) (hY : XsAt w.heap.size w l' B) (hcap' : l'.length ≤ cap') (hc : cnt (.mk h l) ≤ 1000000) (hc' : cnt (.mk h' l') ≤ 1000000) :
    Calls Tryz.prog 13 #[XV h A l.length cap, XV h' B l'.length cap'] w fun e w' => e = .returned (.bool (sameX (.mk h l) (.mk h' l'))) ∧ Below w.heap.size w w' :=
  refSame_n _ h h' l l' hc (Nat.le_refl _) hc' w A cap B cap' hX hcap hY hcap'
set_option maxRecDepth 100000 in
set_option maxHeartbeats 8000000 in
/-- Two lists that hold the same. -/
theorem sameList_yes (l : List Ex) (w : World) (A : Option Addr) (cap : Nat) (B : Option Addr) (cap' : Nat) (hX : XsAt w.heap.size w l A) (hY : XsAt w.heap.size w l B) (hc : cntL l ≤ 1000000) :
    Calls Tryz.prog 26 #[.slice A l.length cap, .slice B l.length cap'] w fun e w' => e = .returned (.bool true) ∧ Below w.heap.size w w' := by
  have HX := Lib.hid hX
  have HY := Lib.hid hY
  have hlen := cntL_len l
  clear hX hY
  go_enter Tryz.func26, Tryz.ntmps26
  go_wp2_with fail
  go_loopw [5] (fun i W => ∃ j : Nat, j ≤ l.length ∧ i = .int .i64 j ∧ Hid (Below w.heap.size w W)) (fun i _ => l.length - (intOf i).toNat)
  case atStart => exact ⟨0, Nat.zero_le _, rfl, Lib.hid (Below.refl _ _)⟩
  case round =>
    obtain ⟨j, hj, rfl, HW⟩ := hrel
    by_cases hkl : j < l.length
    · obtain ⟨h', l', g, o, A', c1, hx, rfl, hg, ⟨a0, a1, a2, a3, a4, a5, a6, a7⟩, hle, hx2⟩ := kid_at HX.out HW.out hkl
      obtain ⟨h2, l2, g', o', B', c2, hy, rfl, hg', ⟨d0, d1, d2, d3, d4, d5, d6, d7⟩, hle2, hy2⟩ := kid_at HY.out HW.out hkl
      rw [hx] at hy
      simp only [Option.some.injEq, Ex.mk.injEq] at hy
      obtain ⟨rfl, rfl⟩ := hy
      have hcm := cntL_mem hx
      have HS := Lib.hid ((sameX_iff (.mk h' l') (.mk h' l')).2 rfl)
      have HC := Lib.hid (show ∀ w1, Below wr.heap.size wr w1 → Calls Tryz.prog 13 #[XV h' A' l'.length c1, XV h' B' l'.length c2] w1 fun e w' => e = .returned (.bool true) ∧ Below w1.heap.size w1 w' from fun w1 hb1 => by
        have := refSame_any h' h' l' l' w1 A' c1 B' c2 (XsAt.next hx2 hb1) hle (XsAt.next hy2 hb1) hle2 (by omega) (by omega)
        rwa [HS.out] at this)
      have hBd := Below.drew (Below.refl wr.heap.size wr)
      have hwj : IntKind.i64.wrap (j : Int) = (j : Int) := by rw [IntKind.wrap_i64]; omega
      clear hx hx2 hy2
      go_wp2_with fail
      go_region_held3 (fun w' => Below wr.heap.size wr w' ∧
          w'.cell? ⟨g, o + j * 8, none⟩ = some (.int .i64 h'.k) ∧ w'.cell? ⟨g, o + j * 8 + 1, none⟩ = some (.int .i64 h'.n) ∧ w'.cell? ⟨g, o + j * 8 + 2, none⟩ = some (.int .i64 h'.vk) ∧ w'.cell? ⟨g, o + j * 8 + 3, none⟩ = some (.int .i64 h'.vn) ∧
          w'.cell? ⟨g, o + j * 8 + 4, none⟩ = some (.string h'.vs) ∧ w'.cell? ⟨g, o + j * 8 + 5, none⟩ = some (.string h'.tab) ∧ w'.cell? ⟨g, o + j * 8 + 6, none⟩ = some (.string h'.col) ∧ w'.cell? ⟨g, o + j * 8 + 7, none⟩ = some (.slice A' l'.length c1) ∧
          w'.cell? ⟨g', o' + j * 8, none⟩ = some (.int .i64 h'.k) ∧ w'.cell? ⟨g', o' + j * 8 + 1, none⟩ = some (.int .i64 h'.n) ∧ w'.cell? ⟨g', o' + j * 8 + 2, none⟩ = some (.int .i64 h'.vk) ∧ w'.cell? ⟨g', o' + j * 8 + 3, none⟩ = some (.int .i64 h'.vn) ∧
          w'.cell? ⟨g', o' + j * 8 + 4, none⟩ = some (.string h'.vs) ∧ w'.cell? ⟨g', o' + j * 8 + 5, none⟩ = some (.string h'.tab) ∧ w'.cell? ⟨g', o' + j * 8 + 6, none⟩ = some (.string h'.col) ∧ w'.cell? ⟨g', o' + j * 8 + 7, none⟩ = some (.slice B' l'.length c2))
        (first
          | exact ⟨hBd, a0, a1, a2, a3, a4, a5, a6, a7, d0, d1, d2, d3, d4, d5, d6, d7⟩
          | ((try go_split_ands)
             refine ⟨?_, ?_, ?_, ?_, ?_, ?_, ?_, ?_, ?_, ?_, ?_, ?_, ?_, ?_, ?_, ?_, ?_⟩
             all_goals first | assumption | (exact Below.drew (by assumption)) | (exact bt (by assumption) hb) | (exact cell_kept hb (by assumption)) | go_keep))
        (first
          | (go_at_call 13; refine (HC.out _ (by first | assumption | exact Below.drew (by assumption))).mono ?_; rintro e w' ⟨rfl, hb⟩))
      rename_i hold
      have HHo := Lib.hid (bt HW.out hold.1)
      clear hold
      go_wp2_with fail
      go_roundw
      case rel => first | exact ⟨j + 1, by omega, by go_num, HHo⟩ | ((repeat apply Exists.intro); exact ⟨⟨j + 1, by omega, by go_num, HHo⟩, rfl⟩)
      case measure => simp [intOf]; omega
    · go_wp2_with fail
      go_ret
      exact ⟨rfl, HW.out⟩
end Go.Proofs.YtfjimoccliejdaaGreatDoor
end
section
namespace Go.Proofs.YtfjimoccliejdaaGreatDoor
section
open Go.RowKit Go.Shelf

/-- Is one too much to be looked at, but for its parts? -/
def bigH (h : Hd) : Prop := 200 < h.tab.size ∨ 200 < h.col.size ∨ 500 < h.vs.size
instance (h : Hd) : Decidable (bigH h) := by unfold bigH; exact inferInstance
end
section
open Go.RowKit Go.Shelf

theorem rv_show {x : Ex} {v : Value} {w : World} (h : EV x v w) (hsm : AllSm x) (hc : cnt x ≤ 512) (hf : FitX x) {c : List UInt8} (e : shwX x = c) :
    Calls Tryz.prog 16 #[v] w fun e w' => ∃ u, e = .returned u ∧ Bel w w' ∧ u = .string (bstr c) := by
  obtain ⟨hd, l⟩ := x
  obtain ⟨A, cap, rfl, hl, hx⟩ := h
  refine (refShow_n 512 hd l hc (Nat.le_refl _) hsm hf w A cap hx hl).mono ?_
  rintro _ w' ⟨rfl, hb⟩
  exact ⟨_, rfl, hb, by rw [← e]⟩
theorem rv_same {x y : Ex} {v u : Value} {w : World} (h : EV x v w) (h' : EV y u w) (hc : cnt x ≤ 1000000) (hc' : cnt y ≤ 1000000) {c : Bool} (e : sameX x y = c) :
    Calls Tryz.prog 13 #[v, u] w fun e w' => ∃ u, e = .returned u ∧ Bel w w' ∧ u = .bool c := by
  obtain ⟨hd, l⟩ := x
  obtain ⟨hd', l'⟩ := y
  obtain ⟨A, cap, rfl, hl, hx⟩ := h
  obtain ⟨A', cap', rfl, hl', hx'⟩ := h'
  refine (refSame_any hd hd' l l' w A cap A' cap' hx hl hx' hl' hc hc').mono ?_
  rintro _ w' ⟨rfl, hb⟩
  exact ⟨_, rfl, hb, by rw [e]⟩
theorem rv_list {l : List Ex} {v u : Value} {w : World} (h : LV l v w) (h' : LV l u w) (hc : cntL l ≤ 1000000) :
    Calls Tryz.prog 26 #[v, u] w fun e w' => ∃ u, e = .returned u ∧ Bel w w' ∧ u = .bool true := by
  obtain ⟨A, cap, rfl, hl, hx⟩ := h
  obtain ⟨A', cap', rfl, hl', hx'⟩ := h'
  refine (sameList_yes l w A cap A' cap' hx hx' hc).mono ?_
  rintro _ w' ⟨rfl, hb⟩
  exact ⟨_, rfl, hb, rfl⟩
theorem chk_of {x : Ex} : chkI x = if okX x = true then 0 else 100 := by rw [chkI, meas_some]
theorem same_self (x : Ex) : sameX x x = true := (sameX_iff x x).2 rfl
end
end Go.Proofs.YtfjimoccliejdaaGreatDoor
end
section
namespace Go.Proofs.YtfjimoccliejdaaGreatDoor
open Go.RowKit Go.Shelf

/-- Small enough to be looked at. -/
structure Gd (x : Ex) : Prop where
  sm : AllSm x
  cnt : cnt x ≤ 6000
def placed (y : Ex) : Bool := y.hd.n != 0
def isExB (x : Ex) : Bool := okX x && !(kndX 2 x).any placed
def isNoB (x : Ex) : Bool := sameX x Pa.exZ
def isCoB (x : Ex) : Bool := isExB x && (kndX 4 x).isEmpty
def isGrB (x : Ex) : Bool := (x.hd.k == 2) && isExB x
theorem LV.at {l : List Ex} {A : Option Addr} {w : World} (h : XsAt w.heap.size w l A) {i : Nat} (hi : i < l.length) : ∃ g o A' cp, A = some ⟨g, o, none⟩ ∧ XC w g (o + i * 8) l[i].hd A' l[i].kids.length cp ∧ EV l[i] (XV l[i].hd A' l[i].kids.length cp) w := by
  obtain ⟨h', l', hx⟩ : ∃ h' l', l[i] = .mk h' l' := by cases l[i]; exact ⟨_, _, rfl⟩
  obtain ⟨g, o, A', cp, hA, _, hc, hl, hX⟩ := XsB.at h (i := i) (by rw [List.getElem?_eq_getElem hi, hx])
  rw [hx]
  exact ⟨g, o, A', cp, hA, hc, A', cp, rfl, hl, hX⟩
theorem any_take_x (p : Ex → Bool) (r : List Ex) (j : Nat) (hj : j < r.length) : (r.take (j + 1)).any p = ((r.take j).any p || p r[j]) := by
  rw [List.take_add_one, List.getElem?_eq_getElem hj, List.any_append]
  simp
set_option maxRecDepth 100000 in
theorem placed_any (h : Hd) (A : Option Addr) (n c : Nat) (w : World) :
    Calls Tryz.prog 150 #[XV h A n c] w fun e w' => e = .returned (.bool (h.n != 0)) ∧ Below w.heap.size w w' := by
  go_enter Tryz.func150, Tryz.ntmps150
  go_wp2_with fail
  exact bodyPost_ret (v := .bool (h.n != 0)) (by simp [results, Tryz.results150, go_sem]) rfl ⟨rfl, ba w _⟩
set_option maxRecDepth 100000 in
set_option maxHeartbeats 2000000 in
theorem index_any (r : List Ex) (A : Option Addr) (c : Nat) (w : World) (h : XsAt w.heap.size w r A) (hl : r.length ≤ 1000000) :
    Calls Tryz.prog 158 #[.slice A r.length c, .func (.func 150) #[] #[]] w fun e w' => (∃ i : Int, e = .returned (.int .i64 i) ∧ (decide (0 ≤ i) = r.any placed)) ∧ Below w.heap.size w w' := by
  have H0 := Lib.hid h
  clear h
  go_enter Tryz.func158, Tryz.ntmps158
  go_wp2_with fail
  go_loopw [8] (fun i wr => ∃ j : Nat, j ≤ r.length ∧ i = .int .i64 j ∧ Hid (Below w.heap.size w wr) ∧ Hid ((r.take j).any placed = false)) (fun i _ => r.length - (intOf i).toNat)
  case atStart => exact ⟨0, Nat.zero_le _, rfl, Lib.hid (Below.refl _ _), Lib.hid (by simp)⟩
  case round =>
    obtain ⟨j, hj, rfl, HB, HN⟩ := hrel
    by_cases hlt : j < r.length
    · obtain ⟨g, o, A', cp, rfl, ⟨c0, c1, c2, c3, c4, c5, c6, c7⟩, _⟩ := LV.at (H0.out.next HB.out) hlt
      have HS := Lib.hid (any_take_x placed r j hlt)
      obtain ⟨x, hx⟩ : ∃ x, r[j] = x := ⟨_, rfl⟩
      rw [hx] at c0 c1 c2 c3 c4 c5 c6 c7 HS
      have HXx := Lib.hid hx
      clear hx
      obtain ⟨b, hb⟩ : ∃ b, (x.hd.n != 0) = b := ⟨_, rfl⟩
      have HP := Lib.hid (placed_any x.hd A' x.kids.length cp wr)
      rw [hb] at HP
      have HBb := Lib.hid hb
      clear hb
      cases b
      · have HE := Lib.hid (show (r.take (j + 1)).any placed = false by rw [HS.out, HN.out, Bool.false_or]; exact HBb.out)
        go_wp2_with fail
        refine HP.out.mono ?_
        rintro e w1 ⟨rfl, hb1⟩
        have HB1 := Lib.hid (bt HB.out hb1)
        clear hb1
        go_wp2_with fail
        go_roundw
        case rel => exact ⟨j + 1, by omega, by go_num, HB1, HE⟩
        case measure => simp [intOf]; omega
      · have HE := Lib.hid (show r.any placed = true from List.any_eq_true.2 ⟨x, by rw [← HXx.out]; exact List.getElem_mem hlt, HBb.out⟩)
        go_wp2_with fail
        refine HP.out.mono ?_
        rintro e w1 ⟨rfl, hb1⟩
        have HB1 := Lib.hid (bt HB.out hb1)
        clear hb1
        go_wp2_with fail
        exact bodyPost_ret (v := .int .i64 j) (by simp [results, Tryz.results158, go_sem]) rfl ⟨⟨j, rfl, by rw [HE.out]; simp⟩, HB1.out⟩
    · have HE := Lib.hid (show r.any placed = false by rw [← HN.out, List.take_of_length_le (by omega)])
      go_wp2_with fail
      exact bodyPost_ret (v := .int .i64 (-1)) (by simp [results, Tryz.results158, go_sem]) rfl ⟨⟨-1, rfl, by rw [HE.out]; rfl⟩, HB.out⟩
set_option maxRecDepth 100000 in
theorem contains_any (r : List Ex) (A : Option Addr) (c : Nat) (w : World) (h : XsAt w.heap.size w r A) (hl : r.length ≤ 1000000) {b : Bool} (hb : r.any placed = b) :
    Calls Tryz.prog 151 #[.slice A r.length c, .func (.func 150) #[] #[]] w fun e w' => e = .returned (.bool b) ∧ Below w.heap.size w w' := by
  have HI := Lib.hid (index_any r A c w h hl)
  have HBb := Lib.hid hb
  clear h hb
  go_enter Tryz.func151, Tryz.ntmps151
  go_wp2_with fail
  refine HI.out.mono ?_
  rintro e w1 ⟨⟨i, rfl, hi⟩, hb1⟩
  have HE := Lib.hid (show decide (0 ≤ i) = b by rw [hi, HBb.out])
  have HB1 := Lib.hid hb1
  clear hi hb1
  go_wp2_with fail
  exact bodyPost_ret (v := .bool (decide (0 ≤ i))) (by simp [results, Tryz.results151, go_sem]) rfl ⟨by rw [HE.out], HB1.out⟩
mutual
theorem kndx_len (c : Int) : ∀ x : Ex, (kndX c x).length ≤ cnt x
  | .mk h l => by
    have := kndxs_len c l
    rw [kndX, cnt, List.length_append]
    split <;> simp <;> omega
theorem kndxs_len (c : Int) : ∀ l : List Ex, (kndXs c l).length ≤ cntL l
  | [] => by simp [kndXs]
  | x :: r => by
    have := kndx_len c x
    have := kndxs_len c r
    rw [kndXs, cntL, List.length_append]; omega
end
set_option maxRecDepth 100000 in
set_option maxHeartbeats 2000000 in
theorem isEx_any {x : Ex} {v : Value} {w : World} (h : EV x v w) (hg : Gd x) (hT : Tabs w) {b : Bool} (hbx : isExB x = b) :
    Calls Tryz.prog 136 #[v] w fun e w' => e = .returned (.bool b) ∧ Below w.heap.size w w' := by
  obtain ⟨hd, l⟩ := x
  obtain ⟨A, cp, rfl, hl, hx⟩ := h
  simp only [Ex.hd, Ex.kids] at hl hx ⊢
  have HE := Lib.hid (show EV (.mk hd l) (XV hd A l.length cp) w from ⟨A, cp, rfl, hl, hx⟩)
  have HG := Lib.hid hg
  have HT := Lib.hid hT
  clear hl hx hg hT
  have hb0 := ba w (xbox hd A l.length cp)
  have HB0 := Lib.hid hb0
  have HU0 := Lib.hid (show BxU (w.alloc (xbox hd A l.length cp)) w.heap.size #[.int .i64 hd.k, .int .i64 hd.n, .int .i64 hd.vk, .int .i64 hd.vn, .string hd.vs, .string hd.tab, .string hd.col, .slice A l.length cp] 37 from (MapKept.heap_alloc w (xbox hd A l.length cp)).1)
  clear hb0
  have HX := Lib.hid hbx
  clear hbx
  cases hok : okX (.mk hd l)
  case false =>
    have hck : chkI (.mk hd l) = 100 := by rw [chk_of, hok]; rfl
    have HK := Lib.hid hok
    have HC := Lib.hid (ev_check (HE.out.next HB0.out) HG.out.sm (Nat.le_trans HG.out.cnt (by decide)) (HT.out.kept HB0.out) hck)
    clear hok hck
    go_enter Tryz.func136, Tryz.ntmps136
    go_wp2_with fail
    refine HC.out.mono ?_
    rintro e v1 ⟨u, rfl, hb, rfl⟩
    have HB1 := Lib.hid (bt HB0.out hb)
    clear hb
    go_wp2_with fail
    have HXe := Lib.hid (show b = false by rw [← HX.out, isExB, HK.out]; rfl)
    exact bodyPost_ret (v := .bool false) (by simp [results, Tryz.results136, go_sem]) rfl ⟨by rw [HXe.out], HB1.out⟩
  case true =>
    have hck : chkI (.mk hd l) = 0 := by rw [chk_of, hok]; rfl
    have HK := Lib.hid hok
    have HC := Lib.hid (ev_check (HE.out.next HB0.out) HG.out.sm (Nat.le_trans HG.out.cnt (by decide)) (HT.out.kept HB0.out) hck)
    clear hok hck
    go_enter Tryz.func136, Tryz.ntmps136
    go_wp2_with fail
    refine HC.out.mono ?_
    rintro e v1 ⟨u, rfl, hb, rfl⟩
    have HB1 := Lib.hid (bt HB0.out hb)
    have HU1 := Lib.hid (HU0.out.next hb)
    have HE1 := Lib.hid ((HE.out.next HB0.out).next hb)
    have HT1 := Lib.hid ((HT.out.kept HB0.out).kept hb)
    clear hb
    have b0 : v1.cell? ⟨w.heap.size, 0, none⟩ = some (.int .i64 hd.k) := HU1.out.cell 0
    have b1 : v1.cell? ⟨w.heap.size, 1, none⟩ = some (.int .i64 hd.n) := HU1.out.cell 1
    have b2 : v1.cell? ⟨w.heap.size, 2, none⟩ = some (.int .i64 hd.vk) := HU1.out.cell 2
    have b3 : v1.cell? ⟨w.heap.size, 3, none⟩ = some (.int .i64 hd.vn) := HU1.out.cell 3
    have b4 : v1.cell? ⟨w.heap.size, 4, none⟩ = some (.string hd.vs) := HU1.out.cell 4
    have b5 : v1.cell? ⟨w.heap.size, 5, none⟩ = some (.string hd.tab) := HU1.out.cell 5
    have b6 : v1.cell? ⟨w.heap.size, 6, none⟩ = some (.string hd.col) := HU1.out.cell 6
    have b7 : v1.cell? ⟨w.heap.size, 7, none⟩ = some (.slice A l.length cp) := HU1.out.cell 7
    go_wp2_with fail
    refine (ev_columns HE1.out HG.out.sm (Nat.le_trans HG.out.cnt (by decide)) HT1.out).mono ?_
    rintro e v2 ⟨u, rfl, hb, A2, cp2, rfl, hl2, hX2⟩
    rw [if_pos HK.out] at hl2 hX2 ⊢
    have HB2 := Lib.hid (bt HB1.out hb)
    obtain ⟨t, ht⟩ : ∃ t, (kndX 2 (.mk hd l)).any placed = t := ⟨_, rfl⟩
    have HCo := Lib.hid (contains_any _ A2 cp2 v2 hX2 (Nat.le_trans (kndx_len 2 _) (Nat.le_trans HG.out.cnt (by decide))) ht)
    have HTt := Lib.hid ht
    clear hb hl2 hX2 ht b0 b1 b2 b3 b4 b5 b6 b7
    obtain ⟨k2, hk2⟩ : ∃ k, (kndX 2 (.mk hd l)).length = k := ⟨_, rfl⟩
    rw [hk2] at HCo ⊢
    clear hk2
    go_wp2_with fail
    refine HCo.out.mono ?_
    rintro e v3 ⟨rfl, hb⟩
    have HB3 := Lib.hid (bt HB2.out hb)
    clear hb
    go_wp2_with fail
    have HXe := Lib.hid (show b = (!t) by rw [← HX.out, isExB, HK.out, HTt.out]; rfl)
    exact bodyPost_ret (v := .bool (!t)) (by simp [results, Tryz.results136, go_sem]) rfl ⟨by rw [HXe.out], HB3.out⟩
set_option maxRecDepth 100000 in
set_option maxHeartbeats 2000000 in
theorem isNo_any {x : Ex} {v : Value} {w : World} (h : EV x v w) (hg : Gd x) {b : Bool} (hbx : isNoB x = b) :
    Calls Tryz.prog 105 #[v] w fun e w' => e = .returned (.bool b) ∧ Below w.heap.size w w' := by
  obtain ⟨hd, l⟩ := x
  obtain ⟨A, cp, rfl, hl, hx⟩ := h
  simp only [Ex.hd, Ex.kids] at hl hx ⊢
  have HE := Lib.hid (show EV (.mk hd l) (XV hd A l.length cp) w from ⟨A, cp, rfl, hl, hx⟩)
  have HG := Lib.hid hg
  clear hl hx hg
  have hb0 := ba w (xbox hd A l.length cp)
  have HB0 := Lib.hid hb0
  have HC := Lib.hid (ev_same (HE.out.next hb0) (EV.leaf ⟨0, 0, 0, 0, ⟨#[]⟩, ⟨#[]⟩, ⟨#[]⟩⟩ _) (Nat.le_trans HG.out.cnt (by decide)) (by decide) (c := b) hbx)
  clear hb0 hbx
  go_enter Tryz.func105, Tryz.ntmps105
  go_wp2_with fail
  refine HC.out.mono ?_
  rintro e v1 ⟨u, rfl, hb, rfl⟩
  have HB1 := Lib.hid (bt HB0.out hb)
  clear hb
  go_wp2_with fail
  exact bodyPost_ret (v := .bool b) (by simp [results, Tryz.results105, go_sem]) rfl ⟨rfl, HB1.out⟩
set_option maxRecDepth 100000 in
set_option maxHeartbeats 2000000 in
theorem isCo_any {x : Ex} {v : Value} {w : World} (h : EV x v w) (hg : Gd x) (hT : Tabs w) {b : Bool} (hbx : isCoB x = b) :
    Calls Tryz.prog 106 #[v] w fun e w' => e = .returned (.bool b) ∧ Below w.heap.size w w' := by
  obtain ⟨hd, l⟩ := x
  obtain ⟨A, cp, rfl, hl, hx⟩ := h
  simp only [Ex.hd, Ex.kids] at hl hx ⊢
  have HE := Lib.hid (show EV (.mk hd l) (XV hd A l.length cp) w from ⟨A, cp, rfl, hl, hx⟩)
  have HG := Lib.hid hg
  have HT := Lib.hid hT
  clear hl hx hg hT
  have hb0 := ba w (xbox hd A l.length cp)
  have HB0 := Lib.hid hb0
  have HU0 := Lib.hid (show BxU (w.alloc (xbox hd A l.length cp)) w.heap.size #[.int .i64 hd.k, .int .i64 hd.n, .int .i64 hd.vk, .int .i64 hd.vn, .string hd.vs, .string hd.tab, .string hd.col, .slice A l.length cp] 37 from (MapKept.heap_alloc w (xbox hd A l.length cp)).1)
  clear hb0
  have HX := Lib.hid hbx
  clear hbx
  obtain ⟨t, ht⟩ : ∃ t, isExB (.mk hd l) = t := ⟨_, rfl⟩
  have HC := Lib.hid (isEx_any (HE.out.next HB0.out) HG.out (HT.out.kept HB0.out) ht)
  have HTt := Lib.hid ht
  clear ht
  cases t
  case false =>
    go_enter Tryz.func106, Tryz.ntmps106
    go_wp2_with fail
    refine HC.out.mono ?_
    rintro e v1 ⟨rfl, hb⟩
    have HB1 := Lib.hid (bt HB0.out hb)
    clear hb
    go_wp2_with fail
    have HXe := Lib.hid (show b = false by rw [← HX.out, isCoB, HTt.out]; rfl)
    exact bodyPost_ret (v := .bool false) (by simp [results, Tryz.results106, go_sem]) rfl ⟨by rw [HXe.out], HB1.out⟩
  case true =>
    have HK := Lib.hid (show okX (.mk hd l) = true by have h := HTt.out; rw [isExB, Bool.and_eq_true] at h; exact h.1)
    go_enter Tryz.func106, Tryz.ntmps106
    go_wp2_with fail
    refine HC.out.mono ?_
    rintro e v1 ⟨rfl, hb⟩
    have HB1 := Lib.hid (bt HB0.out hb)
    have HU1 := Lib.hid (HU0.out.next hb)
    have HE1 := Lib.hid ((HE.out.next HB0.out).next hb)
    have HT1 := Lib.hid ((HT.out.kept HB0.out).kept hb)
    clear hb
    have b0 : v1.cell? ⟨w.heap.size, 0, none⟩ = some (.int .i64 hd.k) := HU1.out.cell 0
    have b1 : v1.cell? ⟨w.heap.size, 1, none⟩ = some (.int .i64 hd.n) := HU1.out.cell 1
    have b2 : v1.cell? ⟨w.heap.size, 2, none⟩ = some (.int .i64 hd.vk) := HU1.out.cell 2
    have b3 : v1.cell? ⟨w.heap.size, 3, none⟩ = some (.int .i64 hd.vn) := HU1.out.cell 3
    have b4 : v1.cell? ⟨w.heap.size, 4, none⟩ = some (.string hd.vs) := HU1.out.cell 4
    have b5 : v1.cell? ⟨w.heap.size, 5, none⟩ = some (.string hd.tab) := HU1.out.cell 5
    have b6 : v1.cell? ⟨w.heap.size, 6, none⟩ = some (.string hd.col) := HU1.out.cell 6
    have b7 : v1.cell? ⟨w.heap.size, 7, none⟩ = some (.slice A l.length cp) := HU1.out.cell 7
    go_wp2_with fail
    refine (ev_aggs HE1.out HG.out.sm (Nat.le_trans HG.out.cnt (by decide)) HT1.out).mono ?_
    rintro e v2 ⟨u, rfl, hb, A2, cp2, rfl, _, _⟩
    rw [if_pos HK.out]
    have HB2 := Lib.hid (bt HB1.out hb)
    obtain ⟨k2, hk2⟩ : ∃ k, (kndX 4 (.mk hd l)).length = k := ⟨_, rfl⟩
    rw [hk2]
    have HXe := Lib.hid (show b = ((k2 : Int) == 0) by
      rw [← HX.out, isCoB, HTt.out, Bool.true_and, ← hk2]
      cases kndX 4 (.mk hd l) with
      | nil => rfl
      | cons a r => simp; omega)
    clear hb hk2 b0 b1 b2 b3 b4 b5 b6 b7
    go_wp2_with fail
    exact bodyPost_ret (v := .bool ((k2 : Int) == 0)) (by simp [results, Tryz.results106, go_sem]) rfl ⟨by rw [HXe.out], HB2.out⟩
set_option maxRecDepth 100000 in
set_option maxHeartbeats 2000000 in
theorem isGr_any {x : Ex} {v : Value} {w : World} (h : EV x v w) (hg : Gd x) (hT : Tabs w) {b : Bool} (hbx : isGrB x = b) :
    Calls Tryz.prog 108 #[v] w fun e w' => e = .returned (.bool b) ∧ Below w.heap.size w w' := by
  obtain ⟨hd, l⟩ := x
  obtain ⟨A, cp, rfl, hl, hx⟩ := h
  simp only [Ex.hd, Ex.kids] at hl hx ⊢
  have HE := Lib.hid (show EV (.mk hd l) (XV hd A l.length cp) w from ⟨A, cp, rfl, hl, hx⟩)
  have HG := Lib.hid hg
  have HT := Lib.hid hT
  clear hl hx hg hT
  have hb0 := ba w (xbox hd A l.length cp)
  have HB0 := Lib.hid hb0
  clear hb0
  have HX := Lib.hid hbx
  clear hbx
  by_cases hk : hd.k = 2
  · have HK := Lib.hid hk
    have hkb : (hd.k == 2) = true := by rw [hk]; rfl
    clear hk
    obtain ⟨t, ht⟩ : ∃ t, isExB (.mk hd l) = t := ⟨_, rfl⟩
    have HC := Lib.hid (isEx_any (HE.out.next HB0.out) HG.out (HT.out.kept HB0.out) ht)
    have HTt := Lib.hid ht
    clear ht
    go_enter Tryz.func108, Tryz.ntmps108
    go_wp2_with fail
    refine HC.out.mono ?_
    rintro e v1 ⟨rfl, hb⟩
    have HB1 := Lib.hid (bt HB0.out hb)
    clear hb
    go_wp2_with fail
    have HXe := Lib.hid (show b = t by rw [← HX.out, isGrB, HTt.out, show (Ex.mk hd l).hd.k = 2 from HK.out]; rfl)
    exact bodyPost_ret (v := .bool t) (by simp [results, Tryz.results108, go_sem]) rfl ⟨by rw [HXe.out], HB1.out⟩
  · have HK := Lib.hid hk
    have hkb : (hd.k == 2) = false := beq_eq_false_iff_ne.2 hk
    clear hk
    go_enter Tryz.func108, Tryz.ntmps108
    go_wp2_with fail
    have HXe := Lib.hid (show b = false by rw [← HX.out, isGrB, beq_eq_false_iff_ne.2 (show (Ex.mk hd l).hd.k ≠ 2 from HK.out)]; rfl)
    exact bodyPost_ret (v := .bool false) (by simp [results, Tryz.results108, go_sem]) rfl ⟨by rw [HXe.out], HB0.out⟩
end Go.Proofs.YtfjimoccliejdaaGreatDoor
end
section
namespace Go.Proofs.YtfjimoccliejdaaGreatDoor
open Go.RowKit Go.Shelf

/-- All blocks that are there. -/
abbrev Ab (w : World) (k : Nat) : Prop := k < w.heap.size
theorem Ls.nxt {α : Type} {P : Lay α} {sz : Nat} (ok : LayOk P sz) {w w' : World} {l : List α} {A : Option Addr} (h : Ls P (Ab w) w l A) (hb : Below w.heap.size w w') : Ls P (Ab w') w' l A :=
  h.go ok (fun k hk => hb.block k hk) (fun _ hk => Nat.lt_of_lt_of_le hk hb.size)
theorem LayOk.ab {α : Type} {P : Lay α} {sz : Nat} (ok : LayOk P sz) {w w' : World} {x : α} {c : List Value} (hb : Below w.heap.size w w') (h : P (Ab w) w x c) : P (Ab w') w' x c :=
  ok.go (fun k hk => hb.block k hk) (fun _ hk => Nat.lt_of_lt_of_le hk hb.size) h
/-- A test's contract. -/
def OkB {α : Type} (P : Lay α) (fn : FuncId) (G : α → Prop) (p : α → Bool) : Prop := ∀ (x : α) (c : List Value) (w : World), P (Ab w) w x c → G x → Tabs w → Calls Tryz.prog fn #[.agg c.toArray] w fun e w' => e = .returned (.bool (p x)) ∧ Below w.heap.size w w'
def lsB {α : Type} (least most : Nat) (p : α → Bool) (l : List α) : Bool := decide (least ≤ l.length) && decide (l.length ≤ most) && l.all p
theorem all_take_s {α : Type} (p : α → Bool) (r : List α) (j : Nat) (hj : j < r.length) : (r.take (j + 1)).all p = ((r.take j).all p && p r[j]) := by
  rw [List.take_add_one, List.getElem?_eq_getElem hj, List.all_append]
  simp
def nmB (b : Lx.B) : Bool := isName ⟨b.toArray⟩
structure GdI (i : Pa.Itm) : Prop where
  e : Gd i.e
  nm : i.nm.length ≤ 1000
structure GdS (s : Pa.Src) : Prop where
  on : Gd s.on
  tb : s.tb.length ≤ 1000
  nm : s.nm.length ≤ 1000
structure GdK (k : Pa.Ky) : Prop where
  nm : k.nm.length ≤ 1000
structure GdL (s : Pa.Sel) : Prop where
  its : ∀ i ∈ s.its, GdI i
  frs : ∀ f ∈ s.frs, GdS f
  wh : Gd s.wh
  grp : ∀ g ∈ s.grp, Gd g
def isItB (i : Pa.Itm) : Bool := if i.star then isNoB i.e && i.nm.isEmpty else isExB i.e && (i.nm.isEmpty || nmB i.nm)
def isSoB (s : Pa.Src) : Bool := nmB s.tb && nmB s.nm
def isFiB (s : Pa.Src) : Bool := (s.join == 0) && isNoB s.on
def isJoB (s : Pa.Src) : Bool := (decide (1 ≤ s.join) && decide (s.join ≤ 4)) && isCoB s.on
def isKyB (k : Pa.Ky) : Bool := nmB k.nm
def isPaB (s : Pa.Sel) : Bool := lsB 1 16 isItB s.its && lsB 1 6 isSoB s.frs && (match s.frs with | f :: r => isFiB f && lsB 0 6 isJoB r | [] => false) && (isNoB s.wh || isCoB s.wh) && lsB 0 8 isGrB s.grp
def isQuB (q : Pa.Qu) : Bool := lsB 1 8 isPaB q.parts && lsB 0 8 isKyB q.order && decide (-1 ≤ q.lim) && decide (q.lim ≤ 9007199254740991)
theorem exC_ev {w : World} {x : Ex} {c : List Value} (h : exC (Ab w) w x c) : EV x (.agg c.toArray) w := by
  obtain ⟨A, cap, rfl, h1, h2⟩ := exC_form h
  exact ⟨A, cap, rfl, h1, h2⟩
theorem exC_of_ev {w : World} {x : Ex} {h : Hd} {A : Option Addr} {n cp : Nat} (hx : exC (Ab w) w x (xcell (h, A, n, cp))) : EV x (XV h A n cp) w := exC_ev hx
theorem itC_ex {B : Nat → Prop} {w : World} {i : Pa.Itm} {c : List Value} (h : itC B w i c) : ∃ hd A n cp, c = .bool i.star :: (xcell (hd, A, n, cp) ++ [st i.nm]) ∧ exC B w i.e (xcell (hd, A, n, cp)) := by
  obtain ⟨⟨hd, A, n, cp⟩, rfl, hx⟩ := h
  exact ⟨hd, A, n, cp, rfl, _, rfl, hx⟩
theorem srC_ex {B : Nat → Prop} {w : World} {s : Pa.Src} {c : List Value} (h : srC B w s c) : ∃ hd A n cp, c = st s.tb :: st s.nm :: .int .i64 s.join :: xcell (hd, A, n, cp) ∧ exC B w s.on (xcell (hd, A, n, cp)) := by
  obtain ⟨⟨hd, A, n, cp⟩, rfl, hx⟩ := h
  exact ⟨hd, A, n, cp, rfl, _, rfl, hx⟩
theorem slC_ex {B : Nat → Prop} {w : World} {s : Pa.Sel} {c : List Value} (h : slC B w s c) : ∃ iA fA gA ic fc gc hd A n cp, c = .bool s.dist :: .slice iA s.its.length ic :: .slice fA s.frs.length fc :: (xcell (hd, A, n, cp) ++ [.slice gA s.grp.length gc]) ∧
    (s.its.length ≤ ic ∧ s.frs.length ≤ fc ∧ s.grp.length ≤ gc) ∧ Ls itC B w s.its iA ∧ Ls srC B w s.frs fA ∧ exC B w s.wh (xcell (hd, A, n, cp)) ∧ XsB B w s.grp gA := by
  obtain ⟨iA, fA, gA, ic, fc, gc, ⟨hd, A, n, cp⟩, rfl, h1, h2, h3, h4, h5⟩ := h
  exact ⟨iA, fA, gA, ic, fc, gc, hd, A, n, cp, rfl, h1, h2, h3, ⟨_, rfl, h4⟩, h5⟩
/-- Expressions as a list of things. -/
theorem xs_ls {B : Nat → Prop} {w : World} : ∀ {l : List Ex} {A : Option Addr}, XsB B w l A → Ls exC B w l A
  | [], A, _ => Ls.nil _ _ _ _
  | .mk h l :: r, A, H => by
    rw [XsB] at H
    obtain ⟨g, o, rfl, hg, ⟨A', cap, hc, hl, h1⟩, h2⟩ := H
    obtain ⟨q, hq, hr⟩ := xs_ls h2
    refine ⟨xcell (h, A', l.length, cap) :: q, .cons ⟨_, rfl, rfl, rfl, hl, h1⟩ hq, .inr ⟨g, o, rfl, hg, fun j u hj => ?_⟩⟩
    rcases Nat.lt_or_ge j 8 with h8 | h8
    · rw [List.flatten_cons, List.getElem?_append_left (by show j < 8; exact h8)] at hj
      have hj8 : j = 0 ∨ j = 1 ∨ j = 2 ∨ j = 3 ∨ j = 4 ∨ j = 5 ∨ j = 6 ∨ j = 7 := by omega
      rcases hj8 with rfl | rfl | rfl | rfl | rfl | rfl | rfl | rfl
      · cases hj; exact hc.c0
      · cases hj; exact hc.c1
      · cases hj; exact hc.c2
      · cases hj; exact hc.c3
      · cases hj; exact hc.c4
      · cases hj; exact hc.c5
      · cases hj; exact hc.c6
      · cases hj; exact hc.c7
    · rw [List.flatten_cons, List.getElem?_append_right (by show 8 ≤ j; exact h8)] at hj
      rcases hr with rfl | ⟨g', o', hA, _, hr⟩
      · cases hq; simp at hj
      · simp only [Option.some.injEq, Addr.mk.injEq] at hA
        obtain ⟨rfl, rfl, _⟩ := hA
        have := hr (j - 8) u hj
        rwa [show o + 8 + (j - 8) = o + j by omega] at this
end Go.Proofs.YtfjimoccliejdaaGreatDoor
end
