/-
  The document's rules of expressions: columns, aggregates.
-/
import Derived.Test.YtfjimoccliejdaaGreatDoorE11
section
namespace Go.Proofs.YtfjimoccliejdaaGreatDoor
open Go.RowKit Go.Shelf

set_option maxRecDepth 100000 in
set_option maxHeartbeats 4000000 in
theorem qrow_prod (part : Pa.Ps → Ex × Pa.Ps) (hle : ∀ s, Pa.Fin s.ts → Pa.Le s (part s).2) (m N : Nat) (HP : OkQ 166 part m N) : OkQ 163 (fun s => Pa.rowP part [12, 13, 14] (part s).2.ts.length (part s).1 (part s).2) m N := by
 intro s w h hN
 have HPp := Lib.hid HP
 have Hle := Lib.hid hle
 clear HP hle
 show Calls _ _ _ _ (RyE exC m w (Pa.rowP part [12, 13, 14] (part s).2.ts.length (part s).1 (part s).2).1 (Pa.rowP part [12, 13, 14] (part s).2.ts.length (part s).1 (part s).2).2)
 have HB := Lib.hid (ba w (.cells #[.int .i64 0, .int .i64 0, .int .i64 0, .int .i64 0, .string ⟨#[]⟩, .string ⟨#[]⟩, .string ⟨#[]⟩, .slice none 0 0] 37))
 have HU := Lib.hid (show BxU _ _ #[.int .i64 0, .int .i64 0, .int .i64 0, .int .i64 0, .string ⟨#[]⟩, .string ⟨#[]⟩, .string ⟨#[]⟩, .slice none 0 0] 37 from (MapKept.heap_alloc w (.cells #[.int .i64 0, .int .i64 0, .int .i64 0, .int .i64 0, .string ⟨#[]⟩, .string ⟨#[]⟩, .string ⟨#[]⟩, .slice none 0 0] 37)).1)
 have H1 := Lib.hid (h.next HB.out)
 have hmU := h.lt
 have HFin := Lib.hid h.fin
 obtain ⟨U, hU⟩ : ∃ U, w.heap.size = U := ⟨_, rfl⟩
 have HUl := Lib.hid hU
 have HSz := Lib.hid (show (w.alloc (.cells #[.int .i64 0, .int .i64 0, .int .i64 0, .int .i64 0, .string ⟨#[]⟩, .string ⟨#[]⟩, .string ⟨#[]⟩, .slice none 0 0] 37)).heap.size = U + 1 by rw [World.size_alloc, hU])
 rw [hU] at HU hmU
 have HmU := Lib.hid hmU
 obtain ⟨X, hX⟩ : ∃ X, Pa.rowP part [12, 13, 14] (part s).2.ts.length (part s).1 (part s).2 = X := ⟨_, rfl⟩
 rw [hX]
 have HX := Lib.hid hX
 clear h hX hmU
 go_enter Tryz.func163, Tryz.ntmps163
 go_wp2_with fail
 generalize w.alloc (.cells #[.int .i64 0, .int .i64 0, .int .i64 0, .int .i64 0, .string ⟨#[]⟩, .string ⟨#[]⟩, .string ⟨#[]⟩, .slice none 0 0] 37) = W1 at HB HU H1 HSz ⊢
 clear hU
 have HM1 := Lib.hid (show ButM m w W1 from ButM.of HB.out)
 have HT1 := Lib.hid (HPp.out s W1 H1.out hN)
 obtain ⟨⟨x1, s1⟩, hs1⟩ : ∃ q, part s = q := ⟨_, rfl⟩
 rw [hs1] at HT1
 have HK1 := Lib.hid hs1
 clear hs1
 simp only at HT1
 go_wp2_with fail
 refine HT1.out.mono ?_
 intro e v1 hE
 obtain ⟨y1, A1, cap1, rfl, hC, hy1, hR, hM⟩ := RyE.ev hE
 clear hE
 have hs1 : s1.ts.length ≤ N := by have := (Hle.out s HFin.out).len; rw [HK1.out] at this; simp only at this; omega
 have HX1 := Lib.hid (show Pa.rowP part [12, 13, 14] s1.ts.length x1 s1 = X by rw [← HX.out, HK1.out])
 obtain ⟨hd1, l1⟩ := y1
 simp only [Ex.hd, Ex.kids] at hC ⊢
 have hbv := ba v1 (xbox hd1 A1 l1.length cap1)
 have hVn := (MapKept.heap_alloc v1 (xbox hd1 A1 l1.length cap1)).1
 obtain ⟨V, hV⟩ : ∃ V, v1.heap.size = V := ⟨_, rfl⟩
 rw [hV] at hVn
 have hUW := HU.out.lt
 have hUV : U < V := by have := hM.size; omega
 have HS1 := Lib.hid (show RowQ part [12, 13, 14] m N U V w X x1 (.mk hd1 l1) s1 s1.ts.length A1 cap1 (v1.alloc (xbox hd1 A1 l1.length cap1)) from ⟨Nat.le_refl _, hs1, hR.next hbv, (HM1.out.trans hM).trans (ButM.of hbv), (HU.out.but HmU.out hM).next hbv, hVn, exC_ok.go (fun k hk => hbv.block k hk.2) (fun k hk => ⟨by have := hk.1; omega, by have := hk.2; have := hbv.size; omega, by have := hk.2; omega⟩) hC, hy1, HX1.out⟩)
 have HV := Lib.hid hV
 have HUV := Lib.hid hUV
 clear hR hM hC hN hbv hVn hUW hs1 hUV hy1
 go_wp2_with fail
 clear hV
 go_loopw [] (fun W => ∃ (x y : Ex) (s1 : Pa.Ps) (nn : Nat) (A : Option Addr) (cap : Nat), Hid (RowQ part [12, 13, 14] m N U V w X x y s1 nn A cap W)) (fun W => lenQ m W)
 case atStart => exact ⟨_, _, _, _, _, _, HS1⟩
 case round =>
  obtain ⟨x, y, s2, nn, A, cap, HS⟩ := hrel
  obtain ⟨hd, l⟩ := y
  obtain ⟨x0, g0, off0, c00, n0, k0, e0, e1, e2, _⟩ := HS.out.rs.head
  clear e0 e1
  obtain ⟨bd, hbd⟩ : ∃ b, s2.bad = b := ⟨_, rfl⟩
  rw [hbd] at e2
  have HBd := Lib.hid hbd
  clear hbd
  cases bd with
  | true =>
   have HZ := Lib.hid (oper_bad (ops := [12, 13, 14]) HS.out.rs.fin HBd.out (by decide))
   have HR0 := Lib.hid HS.out.rs
   have HB0 := Lib.hid HS.out.but
   have HU0 := Lib.hid HS.out.bu
   have HV0 := Lib.hid HS.out.bv
   have HE0 := Lib.hid HS.out.ex
   have HXe := Lib.hid (show X = (x, s2) by rw [← HS.out.eq, Pa.rowP_stop HZ.out])
   have HOk := Lib.hid (show s2.bad = false → .mk hd l = x from HS.out.ok)
   have d0 : (wr).cell? ⟨V, 0, none⟩ = some (.int .i64 hd.k) := (HV0.out).cell 0
   have d1 : (wr).cell? ⟨V, 1, none⟩ = some (.int .i64 hd.n) := (HV0.out).cell 1
   have d2 : (wr).cell? ⟨V, 2, none⟩ = some (.int .i64 hd.vk) := (HV0.out).cell 2
   have d3 : (wr).cell? ⟨V, 3, none⟩ = some (.int .i64 hd.vn) := (HV0.out).cell 3
   have d4 : (wr).cell? ⟨V, 4, none⟩ = some (.string hd.vs) := (HV0.out).cell 4
   have d5 : (wr).cell? ⟨V, 5, none⟩ = some (.string hd.tab) := (HV0.out).cell 5
   have d6 : (wr).cell? ⟨V, 6, none⟩ = some (.string hd.col) := (HV0.out).cell 6
   have d7 : (wr).cell? ⟨V, 7, none⟩ = some (.slice A l.length cap) := (HV0.out).cell 7
   have fd0 := (HV0.out).frozen 0
   have fd1 := (HV0.out).frozen 1
   have fd2 := (HV0.out).frozen 2
   have fd3 := (HV0.out).frozen 3
   have fd4 := (HV0.out).frozen 4
   have fd5 := (HV0.out).frozen 5
   have fd6 := (HV0.out).frozen 6
   have fd7 := (HV0.out).frozen 7
   obtain ⟨c0, c1, c2, c3, c4, c5, c6, c7⟩ := cl8 (w := wr) (HU0.out)
   have fc0 := (HU0.out).frozen 0
   have fc1 := (HU0.out).frozen 1
   have fc2 := (HU0.out).frozen 2
   have fc3 := (HU0.out).frozen 3
   have fc4 := (HU0.out).frozen 4
   have fc5 := (HU0.out).frozen 5
   have fc6 := (HU0.out).frozen 6
   have fc7 := (HU0.out).frozen 7
   have hUneV : U ≠ V := Nat.ne_of_lt HUV.out
   have hVneU : V ≠ U := Nat.ne_of_gt HUV.out
   go_wp2_with fail
   exact bodyPost_ret (v := XV hd A l.length cap) (by simp [results, Tryz.results163, go_sem, c0, c1, c2, c3, c4, c5, c6, c7]) rfl (by rw [HXe.out]; exact RyE.fin (c := xcell (hd, A, l.length, cap)) exC_ok HUl.out HmU.out HB0.out HR0.out (exC_ok.go (fun _ _ => rfl) (fun k hk => ⟨hk.1, hk.2.1⟩) HE0.out) HOk.out ((OnU.refl _ _).set.set.set.set.set.set.set.set))
  | false =>
   have HOk0 := Lib.hid (show Ex.mk hd l = x from HS.out.ok HBd.out)
   have hb1 := ba wr (.cells #[.string ⟨(Pa.begins 12).toArray⟩, .string ⟨(Pa.begins 13).toArray⟩, .string ⟨(Pa.begins 14).toArray⟩] 9)
   have hb2 := ba (wr.alloc (.cells #[.string ⟨(Pa.begins 12).toArray⟩, .string ⟨(Pa.begins 13).toArray⟩, .string ⟨(Pa.begins 14).toArray⟩] 9)) (.cells #[.int .i64 12, .int .i64 13, .int .i64 14] 3)
   have hg1 := (hb2.block wr.heap.size (by rw [World.size_alloc]; omega)).trans (MapKept.heap_alloc wr (.cells #[.string ⟨(Pa.begins 12).toArray⟩, .string ⟨(Pa.begins 13).toArray⟩, .string ⟨(Pa.begins 14).toArray⟩] 9)).1
   have hg2 := (MapKept.heap_alloc (wr.alloc (.cells #[.string ⟨(Pa.begins 12).toArray⟩, .string ⟨(Pa.begins 13).toArray⟩, .string ⟨(Pa.begins 14).toArray⟩] 9)) (.cells #[.int .i64 12, .int .i64 13, .int .i64 14] 3)).1
   rw [World.size_alloc] at hg2
   have hmw := HS.out.rs.lt
   have HT := Lib.hid (qwhich_any m s2 [(Pa.begins 12, 12), (Pa.begins 13, 13), (Pa.begins 14, 14)] wr.heap.size (wr.heap.size + 1) 3 3 _ ((HS.out.rs.next hb1).next hb2) (by decide) hmw (by omega) (fun j x hj => by
    rw [World.cell?, World.cell?, hg1, hg2]
    match j, hj with
    | 0, hj => simp at hj; subst hj; exact ⟨rfl, rfl⟩
    | 1, hj => simp at hj; subst hj; exact ⟨rfl, rfl⟩
    | 2, hj => simp at hj; subst hj; exact ⟨rfl, rfl⟩
    | j + 3, hj => simp at hj))
   have hWE := which_oper [12, 13, 14] s2 (by decide)
   obtain ⟨⟨o, s3⟩, ho⟩ : ∃ z, whichP [(Pa.begins 12, 12), (Pa.begins 13, 13), (Pa.begins 14, 14)] s2 = z := ⟨_, rfl⟩
   have HK := Lib.hid (show Pa.operP [12, 13, 14] s2 = (o, s3) from hWE.trans ho)
   obtain ⟨_, hyes, hno⟩ := Pa.operP_le [12, 13, 14] HS.out.rs.fin (by decide)
   have hlt := operP_lt [12, 13, 14] s2 (by decide)
   rw [HK.out] at hyes hno hlt
   rw [ho] at HT
   have HMb := Lib.hid (ButM.of (m := m) (bt hb1 hb2))
   have Hyes := Lib.hid hyes
   have Hno := Lib.hid hno
   have Hlt := Lib.hid hlt
   simp only at HT
   clear hWE ho hyes hno hlt hb1 hb2 hg1 hg2 hmw
   go_wp2_with fail
   refine HT.out.mono ?_
   rintro e w1 ⟨rfl, hR, hM0⟩
   have hM := HMb.out.trans hM0
   clear hM0
   have HR1 := Lib.hid hR
   have HB1 := Lib.hid (HS.out.but.trans hM)
   have HU1 := Lib.hid (HS.out.bu.but HmU.out hM)
   have HV1 := Lib.hid (HS.out.bv.but (Nat.lt_trans HmU.out HUV.out) hM)
   have HE1 := Lib.hid (show exC (Bv U V w1.heap.size) w1 (.mk hd l) (xcell (hd, A, l.length, cap)) from exC_ok.go (fun k hk => hM.block k hk.2.1 (by have := hk.1; have := HmU.out; omega)) (fun k hk => ⟨hk.1, Nat.lt_of_lt_of_le hk.2.1 hM.size, hk.2.2⟩) HS.out.ex)
   clear hR hM
   by_cases hz : o = 0
   ·subst hz
    obtain rfl := Hno.out rfl
    have HXe := Lib.hid (show X = (x, s3) by rw [← HS.out.eq, Pa.rowP_stop (by rw [HK.out])])
    have HOk := Lib.hid (show s3.bad = false → .mk hd l = x from HS.out.ok)
    have d0 : (w1).cell? ⟨V, 0, none⟩ = some (.int .i64 hd.k) := (HV1.out).cell 0
    have d1 : (w1).cell? ⟨V, 1, none⟩ = some (.int .i64 hd.n) := (HV1.out).cell 1
    have d2 : (w1).cell? ⟨V, 2, none⟩ = some (.int .i64 hd.vk) := (HV1.out).cell 2
    have d3 : (w1).cell? ⟨V, 3, none⟩ = some (.int .i64 hd.vn) := (HV1.out).cell 3
    have d4 : (w1).cell? ⟨V, 4, none⟩ = some (.string hd.vs) := (HV1.out).cell 4
    have d5 : (w1).cell? ⟨V, 5, none⟩ = some (.string hd.tab) := (HV1.out).cell 5
    have d6 : (w1).cell? ⟨V, 6, none⟩ = some (.string hd.col) := (HV1.out).cell 6
    have d7 : (w1).cell? ⟨V, 7, none⟩ = some (.slice A l.length cap) := (HV1.out).cell 7
    have fd0 := (HV1.out).frozen 0
    have fd1 := (HV1.out).frozen 1
    have fd2 := (HV1.out).frozen 2
    have fd3 := (HV1.out).frozen 3
    have fd4 := (HV1.out).frozen 4
    have fd5 := (HV1.out).frozen 5
    have fd6 := (HV1.out).frozen 6
    have fd7 := (HV1.out).frozen 7
    obtain ⟨c0, c1, c2, c3, c4, c5, c6, c7⟩ := cl8 (w := w1) (HU1.out)
    have fc0 := (HU1.out).frozen 0
    have fc1 := (HU1.out).frozen 1
    have fc2 := (HU1.out).frozen 2
    have fc3 := (HU1.out).frozen 3
    have fc4 := (HU1.out).frozen 4
    have fc5 := (HU1.out).frozen 5
    have fc6 := (HU1.out).frozen 6
    have fc7 := (HU1.out).frozen 7
    have hUneV : U ≠ V := Nat.ne_of_lt HUV.out
    have hVneU : V ≠ U := Nat.ne_of_gt HUV.out
    go_wp2_with fail
    exact bodyPost_ret (v := XV hd A l.length cap) (by simp [results, Tryz.results163, go_sem, c0, c1, c2, c3, c4, c5, c6, c7]) rfl (by rw [HXe.out]; exact RyE.fin (c := xcell (hd, A, l.length, cap)) exC_ok HUl.out HmU.out HB1.out HR1.out (exC_ok.go (fun _ _ => rfl) (fun k hk => ⟨hk.1, hk.2.1⟩) HE1.out) HOk.out ((OnU.refl _ _).set.set.set.set.set.set.set.set))
   ·have hzI : ((o : Int) == 0) = false := by rw [beq_eq_false_iff_ne]; omega
    have HZ := Lib.hid hz
    have HOne := Lib.hid (show Pa.isOne o = false from by
     have h : ∀ (ops : List Nat) (s : Pa.Ps), (∀ p ∈ ops, p ≠ 16 ∧ Pa.isOne p = false) → (Pa.operP ops s).1 ≠ 0 → Pa.isOne (Pa.operP ops s).1 = false := fun ops s h => opers_two ops s h
     have := h [12, 13, 14] s2 (by decide) (by rw [HK.out]; exact hz)
     rwa [HK.out] at this)
    clear hz
    have HLs := Lib.hid (show s3.ts.length + 1 ≤ s2.ts.length from (Hyes.out HZ.out).2)
    obtain ⟨nn, rfl⟩ : ∃ k, nn = k + 1 := ⟨nn - 1, by have := HLs.out; have := HS.out.len; omega⟩
    have hs3N : s3.ts.length ≤ N := by have := HLs.out; have := HS.out.most; omega
    obtain ⟨⟨z, s4⟩, hy⟩ : ∃ q, part s3 = q := ⟨_, rfl⟩
    have HY := Lib.hid hy
    have HX2 := Lib.hid (show Pa.rowP part [12, 13, 14] nn (Pa.mkOp o [.mk hd l, z]) s4 = X by rw [← HS.out.eq, ← HOk0.out]; rw [rowP_two (by rw [HK.out]; exact HZ.out) (by rw [HK.out]; exact HOne.out), HK.out, HY.out])
    have HLe4 := Lib.hid (show s4.ts.length ≤ s3.ts.length by have := (Hle.out s3 HR1.out.fin).len; rw [HY.out] at this; exact this)
    have HPx := Lib.hid (show ∀ W, Below w1.heap.size w1 W → Calls Tryz.prog 166 #[.pointer (some ⟨m, 0, none⟩)] W (fun e w4 => ∃ (y4 : Ex) (A4 : Option Addr) (cap4 : Nat), e = .returned (XV y4.hd A4 y4.kids.length cap4) ∧ Hid (PartQ m N U V w (.mk hd l) hd A l.length cap y4 z s4 A4 cap4 w4) ∧ V8 w4 V hd A l.length cap) from fun W hW => (HPp.out s3 W (HR1.out.next hW) hs3N).mono (fun e w4 hE => by
     rw [HY.out] at hE
     obtain ⟨y4, A4, cap4, rfl, hC, hy4, hR, hM⟩ := RyE.ev hE
     have hV := (HV1.out.next hW).but (Nat.lt_trans HmU.out HUV.out) hM
     exact ⟨y4, A4, cap4, rfl, Lib.hid ⟨hR, (HB1.out.trans (ButM.of hW)).trans hM, (HU1.out.next hW).but HmU.out hM, hV, exC_ok.go (fun k hk => (hM.block k (Nat.lt_of_lt_of_le hk.2.1 hW.size) (by have := hk.1; have := HmU.out; omega)).trans (hW.block k hk.2.1)) (fun k hk => ⟨hk.1, by have := hk.2.1; have := hW.size; have := hM.size; omega, hk.2.2⟩) HE1.out, exC_ok.go (fun _ _ => rfl) (fun k hk => ⟨by have := hk.1; have := hW.size; have := HU1.out.lt; omega, hk.2, by have := hk.1; have := hW.size; have := HV1.out.lt; omega⟩) hC, hy4⟩, v8_of hV⟩))
    have HMd := Lib.hid (show ∀ (y4 : Ex) (A4 : Option Addr) (cap4 : Nat) (w4 W : World) (_ : Hid (PartQ m N U V w (.mk hd l) hd A l.length cap y4 z s4 A4 cap4 w4)) (_ : W.heap = (w4.alloc (.cells (xcell (hd, A, l.length, cap) ++ xcell (y4.hd, A4, y4.kids.length, cap4)).toArray 37)).heap) (_ : Below w4.heap.size w4 W),
      Calls Tryz.prog 64 #[.int .i64 o, .slice (some ⟨w4.heap.size, 0, none⟩) 2 2] W (fun e w5 => e = .returned (XV (hdO (o : Nat)) (some ⟨w4.heap.size, 0, none⟩) 2 2) ∧ Hid (MadeQ m U V w (Pa.mkOp o [.mk hd l, y4]) (hdO (o : Nat)) s4 (some ⟨w4.heap.size, 0, none⟩) 2 2 hd A l.length cap w5) ∧ V8 w5 V hd A l.length cap) from fun y4 A4 cap4 w4 W hP hW hb => (refOp_any o (some ⟨w4.heap.size, 0, none⟩) 2 2 W).mono (fun e w5 hE => by
     obtain ⟨rfl, hb5⟩ := hE
     exact ⟨rfl, madeq_two hP.out hW hb hb5⟩))
    clear hs3N hy
    have d0 : (w1).cell? ⟨V, 0, none⟩ = some (.int .i64 hd.k) := (HV1.out).cell 0
    have d1 : (w1).cell? ⟨V, 1, none⟩ = some (.int .i64 hd.n) := (HV1.out).cell 1
    have d2 : (w1).cell? ⟨V, 2, none⟩ = some (.int .i64 hd.vk) := (HV1.out).cell 2
    have d3 : (w1).cell? ⟨V, 3, none⟩ = some (.int .i64 hd.vn) := (HV1.out).cell 3
    have d4 : (w1).cell? ⟨V, 4, none⟩ = some (.string hd.vs) := (HV1.out).cell 4
    have d5 : (w1).cell? ⟨V, 5, none⟩ = some (.string hd.tab) := (HV1.out).cell 5
    have d6 : (w1).cell? ⟨V, 6, none⟩ = some (.string hd.col) := (HV1.out).cell 6
    have d7 : (w1).cell? ⟨V, 7, none⟩ = some (.slice A l.length cap) := (HV1.out).cell 7
    have fd0 := (HV1.out).frozen 0
    have fd1 := (HV1.out).frozen 1
    have fd2 := (HV1.out).frozen 2
    have fd3 := (HV1.out).frozen 3
    have fd4 := (HV1.out).frozen 4
    have fd5 := (HV1.out).frozen 5
    have fd6 := (HV1.out).frozen 6
    have fd7 := (HV1.out).frozen 7
    have hUneV : U ≠ V := Nat.ne_of_lt HUV.out
    have hVneU : V ≠ U := Nat.ne_of_gt HUV.out
    go_wp2_with fail
    go_region_with (first
     | (refine (HPx.out _ (by repeat (first | exact Below.refl _ _ | refine Below.drew ?_))).mono ?_; rintro e w4 ⟨y4, A4, cap4, rfl, HP4, d0, d1, d2, d3, d4, d5, d6, d7, fd0, fd1, fd2, fd3, fd4, fd5, fd6, fd7⟩)
     | (refine (HMd.out _ _ _ _ _ HP4 rfl (by repeat (first | exact Below.refl _ _ | refine Below.drew ?_ | refine Below.alloc ?_ (Nat.le_refl _) _))).mono ?_; rintro e w5 ⟨rfl, HP5, d0, d1, d2, d3, d4, d5, d6, d7, fd0, fd1, fd2, fd3, fd4, fd5, fd6, fd7⟩))
    all_goals
     have HSn := Lib.hid (RowQ.step (part := part) (ops := [12, 13, 14]) (N := N) (nn := nn) (n := 2) (x := Pa.mkOp o [.mk hd l, z]) rfl (by have := HLs.out; have := HS.out.len; have := HLe4.out; omega) (by have := HLs.out; have := HS.out.most; have := HLe4.out; omega) HmU.out HUV.out (Nat.le_of_eq HUl.out) HP5.out.rs HP5.out.but HP5.out.bu HP5.out.ez (fun hb => by rw [HP4.out.ok hb]; rfl) HX2.out ((OnU.refl V w5).set.set.set.set.set.set.set.set) (box8_set HP5.out.bv _ _ _ _ _ _ _ _))
     go_wp2_with fail
     go_roundw
     case rel => exact ⟨_, _, _, _, _, _, HSn⟩
     case measure => refine Nat.lt_of_le_of_lt (Nat.le_of_eq HSn.out.rs.len) ?_; rw [HS.out.rs.len]; have := HLs.out; have := HLe4.out; omega
end Go.Proofs.YtfjimoccliejdaaGreatDoor
end
section
namespace Go.Proofs.YtfjimoccliejdaaGreatDoor
open Go.RowKit Go.Shelf

theorem qOr_any (F m N : Nat) (HP : OkQ 63 (Pa.lev F 1) m N) : OkQ 31 (Pa.lev (F + 1) 0) m N := by
 have h := qrow_Or (Pa.lev F 1) (fun s hs => Pa.lev_le F 1 s hs) m N HP
 have e : Pa.lev (F + 1) 0 = _ := funext (lev_or F)
 rw [e]
 exact h
theorem qand_any (F m N : Nat) (HP : OkQ 116 (Pa.lev F 2) m N) : OkQ 63 (Pa.lev (F + 1) 1) m N := by
 have h := qrow_and (Pa.lev F 2) (fun s hs => Pa.lev_le F 2 s hs) m N HP
 have e : Pa.lev (F + 1) 1 = _ := funext (lev_and F)
 rw [e]
 exact h
theorem qcmp_any (F m N : Nat) (HP : OkQ 157 (Pa.lev F 4) m N) : OkQ 145 (Pa.lev (F + 1) 3) m N := by
 have h := qrow_cmp (Pa.lev F 4) (fun s hs => Pa.lev_le F 4 s hs) m N HP
 have e : Pa.lev (F + 1) 3 = _ := funext (lev_cmp F)
 rw [e]
 exact h
theorem qsum_any (F m N : Nat) (HP : OkQ 163 (Pa.lev F 5) m N) : OkQ 157 (Pa.lev (F + 1) 4) m N := by
 have h := qrow_sum (Pa.lev F 5) (fun s hs => Pa.lev_le F 5 s hs) m N HP
 have e : Pa.lev (F + 1) 4 = _ := funext (lev_sum F)
 rw [e]
 exact h
theorem qprod_any (F m N : Nat) (HP : OkQ 166 (Pa.lev F 6) m N) : OkQ 163 (Pa.lev (F + 1) 5) m N := by
 have h := qrow_prod (Pa.lev F 6) (fun s hs => Pa.lev_le F 6 s hs) m N HP
 have e : Pa.lev (F + 1) 5 = _ := funext (lev_prod F)
 rw [e]
 exact h
set_option maxRecDepth 100000 in
set_option maxHeartbeats 4000000 in
theorem qnot_any (F m N : Nat) (HN : OkQ 116 (Pa.lev F 2) m (N - 1)) (HP : OkQ 145 (Pa.lev F 3) m N) : OkQ 116 (Pa.lev (F + 1) 2) m N := by
 intro s w h hN
 have HPp := Lib.hid HP
 have HNn := Lib.hid HN
 clear HP HN
 have HB := Lib.hid (ba w (.cells #[.int .i64 0, .int .i64 0, .int .i64 0, .int .i64 0, .string ⟨#[]⟩, .string ⟨#[]⟩, .string ⟨#[]⟩, .slice none 0 0] 37))
 have HU := Lib.hid (show BxU _ _ #[.int .i64 0, .int .i64 0, .int .i64 0, .int .i64 0, .string ⟨#[]⟩, .string ⟨#[]⟩, .string ⟨#[]⟩, .slice none 0 0] 37 from (MapKept.heap_alloc w (.cells #[.int .i64 0, .int .i64 0, .int .i64 0, .int .i64 0, .string ⟨#[]⟩, .string ⟨#[]⟩, .string ⟨#[]⟩, .slice none 0 0] 37)).1)
 have H1 := Lib.hid (h.next HB.out)
 have hmU := h.lt
 have HFin := Lib.hid h.fin
 obtain ⟨U, hU⟩ : ∃ U, w.heap.size = U := ⟨_, rfl⟩
 have HUl := Lib.hid hU
 have HSz := Lib.hid (show (w.alloc (.cells #[.int .i64 0, .int .i64 0, .int .i64 0, .int .i64 0, .string ⟨#[]⟩, .string ⟨#[]⟩, .string ⟨#[]⟩, .slice none 0 0] 37)).heap.size = U + 1 by rw [World.size_alloc, hU])
 rw [hU] at HU hmU
 have HmU := Lib.hid hmU
 obtain ⟨X, hX⟩ : ∃ X, Pa.lev (F + 1) 2 s = X := ⟨_, rfl⟩
 rw [hX]
 have HX := Lib.hid hX
 clear h hX hmU
 go_enter Tryz.func116, Tryz.ntmps116
 go_wp2_with fail
 generalize w.alloc (.cells #[.int .i64 0, .int .i64 0, .int .i64 0, .int .i64 0, .string ⟨#[]⟩, .string ⟨#[]⟩, .string ⟨#[]⟩, .slice none 0 0] 37) = W1 at HB HU H1 HSz ⊢
 clear hU
 have HM1 := Lib.hid (show ButM m w W1 from ButM.of HB.out)
 have HT1 := Lib.hid (qtake_any m s Pa.wNOT W1 H1.out)
 obtain ⟨t1, ht⟩ : ∃ z, (Pa.takeW Pa.wNOT s).1 = z := ⟨_, rfl⟩
 obtain ⟨s1, hs⟩ : ∃ z, (Pa.takeW Pa.wNOT s).2 = z := ⟨_, rfl⟩
 have hno1 := (Pa.takeW_le Pa.wNOT H1.out.fin).2.2
 rw [ht, hs] at HT1 hno1
 have HK1 := Lib.hid (show Pa.takeW Pa.wNOT s = (t1, s1) by rw [← ht, ← hs])
 clear ht hs
 have hlen1 := (Pa.takeW_le Pa.wNOT H1.out.fin).2.1
 rw [HK1.out] at hlen1
 cases t1 with
 | true =>
  have HLn := Lib.hid (show s1.ts.length ≤ N - 1 by have := (hlen1 rfl).2.2; simp only at this; omega)
  clear hlen1 hN
  clear hno1
  go_wp2_with fail
  refine HT1.out.mono ?_
  rintro e v1 ⟨rfl, hR, hM⟩
  have HMn1 := Lib.hid (HM1.out.trans hM)
  have HUn1 := Lib.hid (HU.out.but HmU.out hM)
  have HRn1 := Lib.hid hR
  clear hR hM
  have HT2 := Lib.hid (HNn.out s1 v1 HRn1.out HLn.out)
  obtain ⟨⟨x2, s2⟩, hs2⟩ : ∃ q, Pa.lev F 2 s1 = q := ⟨_, rfl⟩
  rw [hs2] at HT2
  have HK2 := Lib.hid hs2
  clear hs2
  simp only at HT2
  go_wp2_with fail
  refine HT2.out.mono ?_
  intro e v2 hE
  obtain ⟨z2, A2, cap2, rfl, hC, hz2, hR, hM⟩ := RyE.ev hE
  clear hE
  have HUs := Lib.hid (show U + 1 ≤ v1.heap.size from HUn1.out.lt)
  have HZ := Lib.hid hz2
  have HMn2 := Lib.hid (HMn1.out.trans hM)
  have HUn2 := Lib.hid (HUn1.out.but HmU.out hM)
  have HRn2 := Lib.hid hR
  have HC := Lib.hid (exC_ok.wide (a' := U + 1) (b' := v2.heap.size) HUs.out (Nat.le_refl _) hC)
  clear hC hR hM hz2
  obtain ⟨hd2, l2⟩ := z2
  simp only [Ex.hd, Ex.kids] at HC ⊢
  go_wp2_with fail
  have hbx := ba v2 (xbox hd2 A2 l2.length cap2)
  have HCm := Lib.hid (exC_one (B' := Bt (U + 1) (v2.heap.size + 1)) (hdO 3) HC.out (fun k hk => ⟨hk.2, hk.1, Nat.lt_succ_of_lt hk.2⟩) ⟨HUn2.out.lt, Nat.lt_succ_self _⟩ 37)
  have HMx := Lib.hid (HMn2.out.trans (ButM.of hbx))
  have HRx := Lib.hid (HRn2.out.next hbx)
  have HUx := Lib.hid (HUn2.out.next hbx)
  clear hbx
  refine (refOp_any 3 (some ⟨v2.heap.size, 0, none⟩) 1 1 _).mono ?_
  rintro e v9 ⟨rfl, hb⟩
  have HM9 := Lib.hid (HMx.out.trans (ButM.of hb))
  have HU9 := Lib.hid (HUx.out.next hb)
  have HR9 := Lib.hid (HRx.out.next hb)
  have HC9 := Lib.hid (show exC (Bt (U + 1) v9.heap.size) v9 (Pa.mkOp 3 [.mk hd2 l2]) (xcell (hdO 3, some ⟨v2.heap.size, 0, none⟩, 1, 1)) from exC_ok.wide (Nat.le_refl _) (by have := hb.size; rw [World.size_alloc] at this; omega) (exC_ok.keep hb (by rw [World.size_alloc]; exact Nat.le_refl _) HCm.out))
  have HXe := Lib.hid (show X = (Pa.mkOp 3 [x2], s2) by rw [← HX.out, lev_not, HK1.out, if_pos rfl, HK2.out])
  clear hb
  obtain ⟨c0, c1, c2, c3, c4, c5, c6, c7⟩ := cl8 (w := v9) (HU9.out)
  have fc0 := (HU9.out).frozen 0
  have fc1 := (HU9.out).frozen 1
  have fc2 := (HU9.out).frozen 2
  have fc3 := (HU9.out).frozen 3
  have fc4 := (HU9.out).frozen 4
  have fc5 := (HU9.out).frozen 5
  have fc6 := (HU9.out).frozen 6
  have fc7 := (HU9.out).frozen 7
  go_wp2_with fail
  exact bodyPost_ret (v := XV (hdO 3) (some ⟨v2.heap.size, 0, none⟩) 1 1) (by simp [results, Tryz.results116, go_sem, c0, c1, c2, c3, c4, c5, c6, c7]) rfl (by rw [HXe.out]; exact RyE.fin (c := xcell ((hdO 3), (some ⟨v2.heap.size, 0, none⟩), 1, 1)) exC_ok HUl.out HmU.out HM9.out HR9.out HC9.out (fun hb => by rw [HZ.out hb]) (OnU.refl _ _).set.set.set.set.set.set.set.set)
 | false =>
  have HXe := Lib.hid (show Pa.lev F 3 s1 = X by rw [← HX.out, lev_not, HK1.out, if_neg (by simp), hno1 rfl])
  clear hlen1
  obtain rfl := hno1 rfl
  clear hno1
  go_wp2_with fail
  refine HT1.out.mono ?_
  rintro e v1 ⟨rfl, hR, hM⟩
  have HMn1 := Lib.hid (HM1.out.trans hM)
  have HUn1 := Lib.hid (HU.out.but HmU.out hM)
  have HRn1 := Lib.hid hR
  clear hR hM
  have HT := Lib.hid (HPp.out s1 v1 HRn1.out hN)
  rw [HXe.out] at HT
  have HUs := Lib.hid (show U + 1 ≤ v1.heap.size from HUn1.out.lt)
  clear hN
  go_wp2_with fail
  refine (HT.out).mono ?_
  intro e v9 hE
  obtain ⟨y9, A9, cap9, rfl, hC, hy9, hR, hM⟩ := RyE.ev hE
  clear hE
  have HM9 := Lib.hid (HMn1.out.trans hM)
  have HU9 := Lib.hid (HUn1.out.but HmU.out hM)
  have HR9 := Lib.hid hR
  have HY9 := Lib.hid hy9
  have HC9 := Lib.hid (exC_ok.wide (a' := U + 1) (b' := v9.heap.size) HUs.out (Nat.le_refl _) hC)
  clear hC hR hM hy9
  obtain ⟨c0, c1, c2, c3, c4, c5, c6, c7⟩ := cl8 (w := v9) (HU9.out)
  have fc0 := (HU9.out).frozen 0
  have fc1 := (HU9.out).frozen 1
  have fc2 := (HU9.out).frozen 2
  have fc3 := (HU9.out).frozen 3
  have fc4 := (HU9.out).frozen 4
  have fc5 := (HU9.out).frozen 5
  have fc6 := (HU9.out).frozen 6
  have fc7 := (HU9.out).frozen 7
  go_wp2_with fail
  exact bodyPost_ret (v := XV y9.hd A9 y9.kids.length cap9) (by simp [results, Tryz.results116, go_sem, c0, c1, c2, c3, c4, c5, c6, c7]) rfl (RyE.fin (c := xcell (y9.hd, A9, y9.kids.length, cap9)) exC_ok HUl.out HmU.out HM9.out HR9.out HC9.out HY9.out (OnU.refl _ _).set.set.set.set.set.set.set.set)
set_option maxRecDepth 100000 in
set_option maxHeartbeats 4000000 in
theorem qunary_any (F m N : Nat) (HN : OkQ 166 (Pa.lev F 6) m (N - 1)) (HP : OkQ 168 (Pa.lev F 7) m N) : OkQ 166 (Pa.lev (F + 1) 6) m N := by
 intro s w h hN
 have HPp := Lib.hid HP
 have HNn := Lib.hid HN
 clear HP HN
 have HB := Lib.hid (ba w (.cells #[.int .i64 0, .int .i64 0, .int .i64 0, .int .i64 0, .string ⟨#[]⟩, .string ⟨#[]⟩, .string ⟨#[]⟩, .slice none 0 0] 37))
 have HU := Lib.hid (show BxU _ _ #[.int .i64 0, .int .i64 0, .int .i64 0, .int .i64 0, .string ⟨#[]⟩, .string ⟨#[]⟩, .string ⟨#[]⟩, .slice none 0 0] 37 from (MapKept.heap_alloc w (.cells #[.int .i64 0, .int .i64 0, .int .i64 0, .int .i64 0, .string ⟨#[]⟩, .string ⟨#[]⟩, .string ⟨#[]⟩, .slice none 0 0] 37)).1)
 have H1 := Lib.hid (h.next HB.out)
 have hmU := h.lt
 have HFin := Lib.hid h.fin
 obtain ⟨U, hU⟩ : ∃ U, w.heap.size = U := ⟨_, rfl⟩
 have HUl := Lib.hid hU
 have HSz := Lib.hid (show (w.alloc (.cells #[.int .i64 0, .int .i64 0, .int .i64 0, .int .i64 0, .string ⟨#[]⟩, .string ⟨#[]⟩, .string ⟨#[]⟩, .slice none 0 0] 37)).heap.size = U + 1 by rw [World.size_alloc, hU])
 rw [hU] at HU hmU
 have HmU := Lib.hid hmU
 obtain ⟨X, hX⟩ : ∃ X, Pa.lev (F + 1) 6 s = X := ⟨_, rfl⟩
 rw [hX]
 have HX := Lib.hid hX
 clear h hX hmU
 go_enter Tryz.func166, Tryz.ntmps166
 go_wp2_with fail
 generalize w.alloc (.cells #[.int .i64 0, .int .i64 0, .int .i64 0, .int .i64 0, .string ⟨#[]⟩, .string ⟨#[]⟩, .string ⟨#[]⟩, .slice none 0 0] 37) = W1 at HB HU H1 HSz ⊢
 clear hU
 have HM1 := Lib.hid (show ButM m w W1 from ButM.of HB.out)
 have HT1 := Lib.hid (qtake_any m s [45] W1 H1.out)
 obtain ⟨t1, ht⟩ : ∃ z, (Pa.takeW [45] s).1 = z := ⟨_, rfl⟩
 obtain ⟨s1, hs⟩ : ∃ z, (Pa.takeW [45] s).2 = z := ⟨_, rfl⟩
 have hno1 := (Pa.takeW_le [45] H1.out.fin).2.2
 rw [ht, hs] at HT1 hno1
 have HK1 := Lib.hid (show Pa.takeW [45] s = (t1, s1) by rw [← ht, ← hs])
 clear ht hs
 have hlen1 := (Pa.takeW_le [45] H1.out.fin).2.1
 rw [HK1.out] at hlen1
 cases t1 with
 | true =>
  have HLn := Lib.hid (show s1.ts.length ≤ N - 1 by have := (hlen1 rfl).2.2; simp only at this; omega)
  clear hlen1 hN
  clear hno1
  go_wp2_with fail
  refine HT1.out.mono ?_
  rintro e v1 ⟨rfl, hR, hM⟩
  have HMn1 := Lib.hid (HM1.out.trans hM)
  have HUn1 := Lib.hid (HU.out.but HmU.out hM)
  have HRn1 := Lib.hid hR
  clear hR hM
  have HT2 := Lib.hid (HNn.out s1 v1 HRn1.out HLn.out)
  obtain ⟨⟨x2, s2⟩, hs2⟩ : ∃ q, Pa.lev F 6 s1 = q := ⟨_, rfl⟩
  rw [hs2] at HT2
  have HK2 := Lib.hid hs2
  clear hs2
  simp only at HT2
  go_wp2_with fail
  refine HT2.out.mono ?_
  intro e v2 hE
  obtain ⟨z2, A2, cap2, rfl, hC, hz2, hR, hM⟩ := RyE.ev hE
  clear hE
  have HUs := Lib.hid (show U + 1 ≤ v1.heap.size from HUn1.out.lt)
  have HZ := Lib.hid hz2
  have HMn2 := Lib.hid (HMn1.out.trans hM)
  have HUn2 := Lib.hid (HUn1.out.but HmU.out hM)
  have HRn2 := Lib.hid hR
  have HC := Lib.hid (exC_ok.wide (a' := U + 1) (b' := v2.heap.size) HUs.out (Nat.le_refl _) hC)
  clear hC hR hM hz2
  obtain ⟨hd2, l2⟩ := z2
  simp only [Ex.hd, Ex.kids] at HC ⊢
  go_wp2_with fail
  have hbx := ba v2 (xbox hd2 A2 l2.length cap2)
  have HCm := Lib.hid (exC_one (B' := Bt (U + 1) (v2.heap.size + 1)) (hdO 15) HC.out (fun k hk => ⟨hk.2, hk.1, Nat.lt_succ_of_lt hk.2⟩) ⟨HUn2.out.lt, Nat.lt_succ_self _⟩ 37)
  have HMx := Lib.hid (HMn2.out.trans (ButM.of hbx))
  have HRx := Lib.hid (HRn2.out.next hbx)
  have HUx := Lib.hid (HUn2.out.next hbx)
  clear hbx
  refine (refOp_any 15 (some ⟨v2.heap.size, 0, none⟩) 1 1 _).mono ?_
  rintro e v9 ⟨rfl, hb⟩
  have HM9 := Lib.hid (HMx.out.trans (ButM.of hb))
  have HU9 := Lib.hid (HUx.out.next hb)
  have HR9 := Lib.hid (HRx.out.next hb)
  have HC9 := Lib.hid (show exC (Bt (U + 1) v9.heap.size) v9 (Pa.mkOp 15 [.mk hd2 l2]) (xcell (hdO 15, some ⟨v2.heap.size, 0, none⟩, 1, 1)) from exC_ok.wide (Nat.le_refl _) (by have := hb.size; rw [World.size_alloc] at this; omega) (exC_ok.keep hb (by rw [World.size_alloc]; exact Nat.le_refl _) HCm.out))
  have HXe := Lib.hid (show X = (Pa.mkOp 15 [x2], s2) by rw [← HX.out, lev_unary, HK1.out, if_pos rfl, HK2.out])
  clear hb
  obtain ⟨c0, c1, c2, c3, c4, c5, c6, c7⟩ := cl8 (w := v9) (HU9.out)
  have fc0 := (HU9.out).frozen 0
  have fc1 := (HU9.out).frozen 1
  have fc2 := (HU9.out).frozen 2
  have fc3 := (HU9.out).frozen 3
  have fc4 := (HU9.out).frozen 4
  have fc5 := (HU9.out).frozen 5
  have fc6 := (HU9.out).frozen 6
  have fc7 := (HU9.out).frozen 7
  go_wp2_with fail
  exact bodyPost_ret (v := XV (hdO 15) (some ⟨v2.heap.size, 0, none⟩) 1 1) (by simp [results, Tryz.results166, go_sem, c0, c1, c2, c3, c4, c5, c6, c7]) rfl (by rw [HXe.out]; exact RyE.fin (c := xcell ((hdO 15), (some ⟨v2.heap.size, 0, none⟩), 1, 1)) exC_ok HUl.out HmU.out HM9.out HR9.out HC9.out (fun hb => by rw [HZ.out hb]) (OnU.refl _ _).set.set.set.set.set.set.set.set)
 | false =>
  have HXe := Lib.hid (show Pa.lev F 7 s1 = X by rw [← HX.out, lev_unary, HK1.out, if_neg (by simp), hno1 rfl])
  clear hlen1
  obtain rfl := hno1 rfl
  clear hno1
  go_wp2_with fail
  refine HT1.out.mono ?_
  rintro e v1 ⟨rfl, hR, hM⟩
  have HMn1 := Lib.hid (HM1.out.trans hM)
  have HUn1 := Lib.hid (HU.out.but HmU.out hM)
  have HRn1 := Lib.hid hR
  clear hR hM
  have HT := Lib.hid (HPp.out s1 v1 HRn1.out hN)
  rw [HXe.out] at HT
  have HUs := Lib.hid (show U + 1 ≤ v1.heap.size from HUn1.out.lt)
  clear hN
  go_wp2_with fail
  refine (HT.out).mono ?_
  intro e v9 hE
  obtain ⟨y9, A9, cap9, rfl, hC, hy9, hR, hM⟩ := RyE.ev hE
  clear hE
  have HM9 := Lib.hid (HMn1.out.trans hM)
  have HU9 := Lib.hid (HUn1.out.but HmU.out hM)
  have HR9 := Lib.hid hR
  have HY9 := Lib.hid hy9
  have HC9 := Lib.hid (exC_ok.wide (a' := U + 1) (b' := v9.heap.size) HUs.out (Nat.le_refl _) hC)
  clear hC hR hM hy9
  obtain ⟨c0, c1, c2, c3, c4, c5, c6, c7⟩ := cl8 (w := v9) (HU9.out)
  have fc0 := (HU9.out).frozen 0
  have fc1 := (HU9.out).frozen 1
  have fc2 := (HU9.out).frozen 2
  have fc3 := (HU9.out).frozen 3
  have fc4 := (HU9.out).frozen 4
  have fc5 := (HU9.out).frozen 5
  have fc6 := (HU9.out).frozen 6
  have fc7 := (HU9.out).frozen 7
  go_wp2_with fail
  exact bodyPost_ret (v := XV y9.hd A9 y9.kids.length cap9) (by simp [results, Tryz.results166, go_sem, c0, c1, c2, c3, c4, c5, c6, c7]) rfl (RyE.fin (c := xcell (y9.hd, A9, y9.kids.length, cap9)) exC_ok HUl.out HmU.out HM9.out HR9.out HC9.out HY9.out (OnU.refl _ _).set.set.set.set.set.set.set.set)
end Go.Proofs.YtfjimoccliejdaaGreatDoor
end
section
namespace Go.Proofs.YtfjimoccliejdaaGreatDoor
open Go.RowKit Go.Shelf

theorem le_bad {s s' : Pa.Ps} (h : Pa.Le s s') (hb : s'.bad = false) : s.bad = false := by
 cases hs : s.bad with
 | false => rfl
 | true => rw [h.stay hs] at hb; rw [hs] at hb; cases hb
set_option maxRecDepth 100000 in
theorem qv_int (n : Int) (w : World) : Calls Tryz.prog 178 #[.int .i64 n] w fun e w' => e = .returned (VV 2 n ⟨#[]⟩) ∧ Below w.heap.size w w' := by
 go_enter Tryz.func178, Tryz.ntmps178
 go_wp2_with fail
 refine bodyPost_ret (v := VV 2 n ⟨#[]⟩) (by simp [results, Tryz.results178, go_sem]) rfl ⟨rfl, ?_⟩
 first | exact Below.refl _ _ | exact ba w _
set_option maxRecDepth 100000 in
theorem qv_text (b : ByteArray) (w : World) : Calls Tryz.prog 179 #[.string b] w fun e w' => e = .returned (VV 3 0 b) ∧ Below w.heap.size w w' := by
 go_enter Tryz.func179, Tryz.ntmps179
 go_wp2_with fail
 refine bodyPost_ret (v := VV 3 0 b) (by simp [results, Tryz.results179, go_sem]) rfl ⟨rfl, ?_⟩
 first | exact Below.refl _ _ | exact ba w _
set_option maxRecDepth 100000 in
theorem qv_true (w : World) : Calls Tryz.prog 180 #[.bool true] w fun e w' => e = .returned (VV 1 1 ⟨#[]⟩) ∧ Below w.heap.size w w' := by
 go_enter Tryz.func180, Tryz.ntmps180
 go_wp2_with fail
 refine bodyPost_ret (v := VV 1 1 ⟨#[]⟩) (by simp [results, Tryz.results180, go_sem]) rfl ⟨rfl, ?_⟩
 first | exact Below.refl _ _ | exact ba w _
set_option maxRecDepth 100000 in
theorem qv_false (w : World) : Calls Tryz.prog 180 #[.bool false] w fun e w' => e = .returned (VV 1 0 ⟨#[]⟩) ∧ Below w.heap.size w w' := by
 go_enter Tryz.func180, Tryz.ntmps180
 go_wp2_with fail
 refine bodyPost_ret (v := VV 1 0 ⟨#[]⟩) (by simp [results, Tryz.results180, go_sem]) rfl ⟨rfl, ?_⟩
 first | exact Below.refl _ _ | exact ba w _
set_option maxRecDepth 100000 in
set_option maxHeartbeats 4000000 in
theorem qcol_any (m : Nat) (s : Pa.Ps) (w : World) (h : RP m w s) : Calls Tryz.prog 94 #[.pointer (some ⟨m, 0, none⟩)] w (RyE exC m w (Pa.colP s).1 (Pa.colP s).2) := by
 have HB := Lib.hid (ba w (.cells #[.int .i64 0, .int .i64 0, .int .i64 0, .int .i64 0, .string ⟨#[]⟩, .string ⟨#[]⟩, .string ⟨#[]⟩, .slice none 0 0] 37))
 have HU := Lib.hid (show BxU _ _ #[.int .i64 0, .int .i64 0, .int .i64 0, .int .i64 0, .string ⟨#[]⟩, .string ⟨#[]⟩, .string ⟨#[]⟩, .slice none 0 0] 37 from (MapKept.heap_alloc w (.cells #[.int .i64 0, .int .i64 0, .int .i64 0, .int .i64 0, .string ⟨#[]⟩, .string ⟨#[]⟩, .string ⟨#[]⟩, .slice none 0 0] 37)).1)
 have H1 := Lib.hid (h.next HB.out)
 have hmU := h.lt
 have HFin := Lib.hid h.fin
 obtain ⟨U, hU⟩ : ∃ U, w.heap.size = U := ⟨_, rfl⟩
 have HUl := Lib.hid hU
 have HSz := Lib.hid (show (w.alloc (.cells #[.int .i64 0, .int .i64 0, .int .i64 0, .int .i64 0, .string ⟨#[]⟩, .string ⟨#[]⟩, .string ⟨#[]⟩, .slice none 0 0] 37)).heap.size = U + 1 by rw [World.size_alloc, hU])
 rw [hU] at HU hmU
 have HmU := Lib.hid hmU
 obtain ⟨X, hX⟩ : ∃ X, Pa.colP s = X := ⟨_, rfl⟩
 rw [hX]
 have HX := Lib.hid hX
 clear h hX hmU
 go_enter Tryz.func94, Tryz.ntmps94
 go_wp2_with fail
 generalize w.alloc (.cells #[.int .i64 0, .int .i64 0, .int .i64 0, .int .i64 0, .string ⟨#[]⟩, .string ⟨#[]⟩, .string ⟨#[]⟩, .slice none 0 0] 37) = W1 at HB HU H1 HSz ⊢
 clear hU
 have HM1 := Lib.hid (show ButM m w W1 from ButM.of HB.out)
 have HT1 := Lib.hid (qkind_any m s 1 (by decide) W1 H1.out)
 obtain ⟨⟨k1, s1⟩, hs1⟩ : ∃ q, Pa.mustK 1 s = q := ⟨_, rfl⟩
 rw [hs1] at HT1
 have HK1 := Lib.hid hs1
 clear hs1
 simp only at HT1
 go_wp2_with fail
 refine HT1.out.mono ?_
 rintro e v1 ⟨⟨y1, rfl, hy⟩, hR, hM⟩
 have HY1 := Lib.hid hy
 clear hy
 have HMn1 := Lib.hid (HM1.out.trans hM)
 have HUn1 := Lib.hid (HU.out.but HmU.out hM)
 have HRn1 := Lib.hid hR
 clear hR hM
 have hfd1 := field_tokS y1.1.k ⟨y1.1.s.toArray⟩ y1.1.n y1.2 v1
 have HT2 := Lib.hid (qtake_any m s1 [46] v1 HRn1.out)
 obtain ⟨t2, ht⟩ : ∃ z, (Pa.takeW [46] s1).1 = z := ⟨_, rfl⟩
 obtain ⟨s2, hs⟩ : ∃ z, (Pa.takeW [46] s1).2 = z := ⟨_, rfl⟩
 have hno2 := (Pa.takeW_le [46] HRn1.out.fin).2.2
 rw [ht, hs] at HT2 hno2
 have HK2 := Lib.hid (show Pa.takeW [46] s1 = (t2, s2) by rw [← ht, ← hs])
 clear ht hs
 cases t2 with
 | true =>
  clear hno2
  go_wp2_with fail
  refine HT2.out.mono ?_
  rintro e v2 ⟨rfl, hR, hM⟩
  have HMn2 := Lib.hid (HMn1.out.trans hM)
  have HUn2 := Lib.hid (HUn1.out.but HmU.out hM)
  have HRn2 := Lib.hid hR
  clear hR hM
  have HT3 := Lib.hid (qkind_any m s2 1 (by decide) v2 HRn2.out)
  obtain ⟨⟨k3, s3⟩, hs3⟩ : ∃ q, Pa.mustK 1 s2 = q := ⟨_, rfl⟩
  rw [hs3] at HT3
  have HK3 := Lib.hid hs3
  clear hs3
  simp only at HT3
  go_wp2_with fail
  refine HT3.out.mono ?_
  rintro e v3 ⟨⟨y3, rfl, hy⟩, hR, hM⟩
  have HY3 := Lib.hid hy
  clear hy
  have HMn3 := Lib.hid (HMn2.out.trans hM)
  have HUn3 := Lib.hid (HUn2.out.but HmU.out hM)
  have HRn3 := Lib.hid hR
  clear hR hM
  have hfd3 := field_tokS y3.1.k ⟨y3.1.s.toArray⟩ y3.1.n y3.2 v3
  go_wp2_with fail
  refine (refColumn_any ⟨y1.1.s.toArray⟩ ⟨y3.1.s.toArray⟩ _).mono ?_
  rintro e v9 ⟨rfl, hb⟩
  have HM9 := Lib.hid (HMn3.out.trans (ButM.of hb))
  have HU9 := Lib.hid (HUn3.out.next hb)
  have HR9 := Lib.hid (HRn3.out.next hb)
  have HXe := Lib.hid (show X = (Pa.exCol k1.s k3.s, s3) by rw [← HX.out]; simp only [Pa.colP, HK1.out, HK2.out, HK3.out, if_true])
  clear hb
  obtain ⟨c0, c1, c2, c3, c4, c5, c6, c7⟩ := cl8 (w := v9) (HU9.out)
  have fc0 := (HU9.out).frozen 0
  have fc1 := (HU9.out).frozen 1
  have fc2 := (HU9.out).frozen 2
  have fc3 := (HU9.out).frozen 3
  have fc4 := (HU9.out).frozen 4
  have fc5 := (HU9.out).frozen 5
  have fc6 := (HU9.out).frozen 6
  have fc7 := (HU9.out).frozen 7
  go_wp2_with fail
  exact bodyPost_ret (v := XV (hdC ⟨y1.1.s.toArray⟩ ⟨y3.1.s.toArray⟩) none 0 0) (by simp [results, Tryz.results94, go_sem, c0, c1, c2, c3, c4, c5, c6, c7]) rfl (by rw [HXe.out]; exact RyE.fin (c := xcell ((hdC ⟨y1.1.s.toArray⟩ ⟨y3.1.s.toArray⟩), none, 0, 0)) exC_ok HUl.out HmU.out HM9.out HR9.out (exC_leaf _ _ _) (fun _ => by rw [← HY1.out, ← HY3.out]; rfl) (OnU.refl _ _).set.set.set.set.set.set.set.set)
 | false =>
  obtain rfl := hno2 rfl
  clear hno2
  go_wp2_with fail
  refine HT2.out.mono ?_
  rintro e v2 ⟨rfl, hR, hM⟩
  have HMn2 := Lib.hid (HMn1.out.trans hM)
  have HUn2 := Lib.hid (HUn1.out.but HmU.out hM)
  have HRn2 := Lib.hid hR
  clear hR hM
  go_wp2_with fail
  refine (refColumn_any ⟨#[]⟩ ⟨y1.1.s.toArray⟩ _).mono ?_
  rintro e v9 ⟨rfl, hb⟩
  have HM9 := Lib.hid (HMn2.out.trans (ButM.of hb))
  have HU9 := Lib.hid (HUn2.out.next hb)
  have HR9 := Lib.hid (HRn2.out.next hb)
  have HXe := Lib.hid (show X = (Pa.exCol [] k1.s, s2) by rw [← HX.out]; simp only [Pa.colP, HK1.out, HK2.out, Bool.false_eq_true, if_false])
  clear hb
  obtain ⟨c0, c1, c2, c3, c4, c5, c6, c7⟩ := cl8 (w := v9) (HU9.out)
  have fc0 := (HU9.out).frozen 0
  have fc1 := (HU9.out).frozen 1
  have fc2 := (HU9.out).frozen 2
  have fc3 := (HU9.out).frozen 3
  have fc4 := (HU9.out).frozen 4
  have fc5 := (HU9.out).frozen 5
  have fc6 := (HU9.out).frozen 6
  have fc7 := (HU9.out).frozen 7
  go_wp2_with fail
  exact bodyPost_ret (v := XV (hdC ⟨#[]⟩ ⟨y1.1.s.toArray⟩) none 0 0) (by simp [results, Tryz.results94, go_sem, c0, c1, c2, c3, c4, c5, c6, c7]) rfl (by rw [HXe.out]; exact RyE.fin (c := xcell ((hdC ⟨#[]⟩ ⟨y1.1.s.toArray⟩), none, 0, 0)) exC_ok HUl.out HmU.out HM9.out HR9.out (exC_leaf _ _ _) (fun _ => by rw [← HY1.out]; rfl) (OnU.refl _ _).set.set.set.set.set.set.set.set)
set_option maxRecDepth 100000 in
set_option maxHeartbeats 4000000 in
theorem qagg_any (F m N : Nat) (HO : OkQ 31 (Pa.lev F 0) m N) (nn : Nat) (hn : nn = 3 ∨ nn = 4 ∨ nn = 5) (s : Pa.Ps) (w : World) (h : RP m w s) (hN : s.ts.length ≤ N) : Calls Tryz.prog 181 #[.pointer (some ⟨m, 0, none⟩), .int .i64 nn] w (RyE exC m w (Pa.aggP (Pa.lev F 0) nn s).1 (Pa.aggP (Pa.lev F 0) nn s).2) := by
 have HOo := Lib.hid HO
 clear HO
 have hnI : ((nn : Int) == 2) = false := by rw [beq_eq_false_iff_ne]; omega
 clear hn
 have HB := Lib.hid (ba w (.cells #[.int .i64 0, .int .i64 0, .int .i64 0, .int .i64 0, .string ⟨#[]⟩, .string ⟨#[]⟩, .string ⟨#[]⟩, .slice none 0 0] 37))
 have HU := Lib.hid (show BxU _ _ #[.int .i64 0, .int .i64 0, .int .i64 0, .int .i64 0, .string ⟨#[]⟩, .string ⟨#[]⟩, .string ⟨#[]⟩, .slice none 0 0] 37 from (MapKept.heap_alloc w (.cells #[.int .i64 0, .int .i64 0, .int .i64 0, .int .i64 0, .string ⟨#[]⟩, .string ⟨#[]⟩, .string ⟨#[]⟩, .slice none 0 0] 37)).1)
 have H1 := Lib.hid (h.next HB.out)
 have hmU := h.lt
 have HFin := Lib.hid h.fin
 obtain ⟨U, hU⟩ : ∃ U, w.heap.size = U := ⟨_, rfl⟩
 have HUl := Lib.hid hU
 have HSz := Lib.hid (show (w.alloc (.cells #[.int .i64 0, .int .i64 0, .int .i64 0, .int .i64 0, .string ⟨#[]⟩, .string ⟨#[]⟩, .string ⟨#[]⟩, .slice none 0 0] 37)).heap.size = U + 1 by rw [World.size_alloc, hU])
 rw [hU] at HU hmU
 have HmU := Lib.hid hmU
 obtain ⟨X, hX⟩ : ∃ X, Pa.aggP (Pa.lev F 0) nn s = X := ⟨_, rfl⟩
 rw [hX]
 have HX := Lib.hid hX
 clear h hX hmU
 go_enter Tryz.func181, Tryz.ntmps181
 go_wp2_with fail
 generalize w.alloc (.cells #[.int .i64 0, .int .i64 0, .int .i64 0, .int .i64 0, .string ⟨#[]⟩, .string ⟨#[]⟩, .string ⟨#[]⟩, .slice none 0 0] 37) = W1 at HB HU H1 HSz ⊢
 clear hU
 have HM1 := Lib.hid (show ButM m w W1 from ButM.of HB.out)
 have HT1 := Lib.hid (qmust_any m s [40] W1 H1.out)
 obtain ⟨s1, hs1⟩ : ∃ z, Pa.mustW [40] s = z := ⟨_, rfl⟩
 rw [hs1] at HT1
 have HK1 := Lib.hid hs1
 clear hs1
 go_wp2_with fail
 refine HT1.out.mono ?_
 rintro e v1 ⟨rfl, hR, hM⟩
 have HMn1 := Lib.hid (HM1.out.trans hM)
 have HUn1 := Lib.hid (HU.out.but HmU.out hM)
 have HRn1 := Lib.hid hR
 clear hR hM
 have HLm := Lib.hid (show s1.ts.length ≤ N by have := (Pa.mustW_le [40] HFin.out).len; rw [HK1.out] at this; omega)
 clear hN
 have HT2 := Lib.hid (HOo.out s1 v1 HRn1.out (by have := HLm.out; omega))
 obtain ⟨⟨x2, s2⟩, hs2⟩ : ∃ q, Pa.lev F 0 s1 = q := ⟨_, rfl⟩
 rw [hs2] at HT2
 have HK2 := Lib.hid hs2
 clear hs2
 simp only at HT2
 go_wp2_with fail
 refine HT2.out.mono ?_
 intro e v2 hE
 obtain ⟨z2, A2, cap2, rfl, hC, hz2, hR, hM⟩ := RyE.ev hE
 clear hE
 have HZ := Lib.hid hz2
 have HUs := Lib.hid (show U + 1 ≤ (v1).heap.size from HUn1.out.lt)
 have HMn2 := Lib.hid (HMn1.out.trans hM)
 have HUn2 := Lib.hid (HUn1.out.but HmU.out hM)
 have HRn2 := Lib.hid hR
 have HC2 := Lib.hid (exC_ok.wide (a' := U + 1) (b' := v2.heap.size) HUs.out (Nat.le_refl _) hC)
 clear hC hR hM hz2
 obtain ⟨hd2, l2⟩ := z2
 simp only [Ex.hd, Ex.kids] at HC2 ⊢
 have hbv := ba v2 (xbox hd2 A2 l2.length cap2)
 have HRv := Lib.hid (HRn2.out.next hbv)
 have HMv := Lib.hid (HMn2.out.trans (ButM.of hbv))
 have HUv := Lib.hid (HUn2.out.next hbv)
 have HVv := Lib.hid (show BxU (v2.alloc (xbox hd2 A2 l2.length cap2)) v2.heap.size #[.int .i64 hd2.k, .int .i64 hd2.n, .int .i64 hd2.vk, .int .i64 hd2.vn, .string hd2.vs, .string hd2.tab, .string hd2.col, .slice A2 l2.length cap2] 37 from (MapKept.heap_alloc v2 (xbox hd2 A2 l2.length cap2)).1)
 have HCv := Lib.hid (exC_ok.keep (a := U + 1) (b := v2.heap.size) hbv (Nat.le_refl _) HC2.out)
 have HmV := Lib.hid (show m < v2.heap.size from HRn2.out.lt)
 have HUV := Lib.hid (show U < v2.heap.size from HUn2.out.lt)
 have HsV := Lib.hid (show v2.heap.size ≤ (v2.alloc (xbox hd2 A2 l2.length cap2)).heap.size from hbv.size)
 have HLe := Lib.hid (Pa.mustW_le [41] HRn2.out.fin)
 clear hbv
 go_wp2_with fail
 have HT := Lib.hid (qmust_any m s2 [41] _ HRv.out)
 refine HT.out.mono ?_
 rintro e v8 ⟨rfl, hR, hM⟩
 have HM8 := Lib.hid (HMv.out.trans hM)
 have HU8 := Lib.hid (HUv.out.but HmU.out hM)
 have HV8 := Lib.hid (HVv.out.but HmV.out hM)
 have HR8 := Lib.hid hR
 have HC8 := Lib.hid (exC_ok.wide (a' := U + 1) (b' := v8.heap.size) (Nat.le_refl _) (Nat.le_trans HsV.out hM.size) (exC_ok.keepM hM (Nat.lt_succ_of_lt HmU.out) HsV.out HCv.out))
 clear hR hM
 obtain ⟨d0, d1, d2, d3, d4, d5, d6, d7⟩ := cl8 (w := v8) HV8.out
 have hbx := ba v8 (xbox hd2 A2 l2.length cap2)
 have HCm := Lib.hid (exC_one (B' := Bt (U + 1) (v8.heap.size + 1)) (hdA (nn : Nat)) HC8.out (fun k hk => ⟨hk.2, hk.1, Nat.lt_succ_of_lt hk.2⟩) ⟨HU8.out.lt, Nat.lt_succ_self _⟩ 37)
 have HM9 := Lib.hid (HM8.out.trans (ButM.of hbx))
 have HR9 := Lib.hid (HR8.out.next hbx)
 have HU9 := Lib.hid (HU8.out.next hbx)
 have HXe := Lib.hid (show X = (Pa.exAgg nn [x2], Pa.mustW [41] s2) by rw [← HX.out, Pa.aggP, Pa.enclP, HK1.out, HK2.out])
 have hUV := Nat.ne_of_lt HUV.out
 have hVU := hUV.symm
 clear hbx
 obtain ⟨c0, c1, c2, c3, c4, c5, c6, c7⟩ := cl8 (w := (v8.alloc (.cells #[.int .i64 hd2.k, .int .i64 hd2.n, .int .i64 hd2.vk, .int .i64 hd2.vn, .string hd2.vs, .string hd2.tab, .string hd2.col, .slice A2 l2.length cap2] 37))) (HU9.out)
 have fc0 := (HU9.out).frozen 0
 have fc1 := (HU9.out).frozen 1
 have fc2 := (HU9.out).frozen 2
 have fc3 := (HU9.out).frozen 3
 have fc4 := (HU9.out).frozen 4
 have fc5 := (HU9.out).frozen 5
 have fc6 := (HU9.out).frozen 6
 have fc7 := (HU9.out).frozen 7
 go_wp2_with fail
 exact bodyPost_ret (v := XV (hdA (nn : Nat)) (some ⟨v8.heap.size, 0, none⟩) 1 1) (by simp [results, Tryz.results181, go_sem, c0, c1, c2, c3, c4, c5, c6, c7]) rfl (by rw [HXe.out]; exact RyE.fin (c := xcell (hdA (nn : Nat), some ⟨v8.heap.size, 0, none⟩, 1, 1)) exC_ok HUl.out HmU.out HM9.out HR9.out (exC_ok.wide (Nat.le_refl _) (by rw [World.size_alloc]; exact Nat.le_refl _) HCm.out) (fun hb => by rw [HZ.out (le_bad HLe.out hb)]; rfl) (OnU.refl _ _).set.set.set.set.set.set.set.set)
set_option maxRecDepth 100000 in
set_option maxHeartbeats 4000000 in
theorem qcount_any (F m N : Nat) (HO : OkQ 31 (Pa.lev F 0) m N) (s : Pa.Ps) (w : World) (h : RP m w s) (hN : s.ts.length ≤ N) : Calls Tryz.prog 181 #[.pointer (some ⟨m, 0, none⟩), .int .i64 2] w (RyE exC m w (Pa.countP (Pa.lev F 0) s).1 (Pa.countP (Pa.lev F 0) s).2) := by
 have HOo := Lib.hid HO
 clear HO
 have HB := Lib.hid (ba w (.cells #[.int .i64 0, .int .i64 0, .int .i64 0, .int .i64 0, .string ⟨#[]⟩, .string ⟨#[]⟩, .string ⟨#[]⟩, .slice none 0 0] 37))
 have HU := Lib.hid (show BxU _ _ #[.int .i64 0, .int .i64 0, .int .i64 0, .int .i64 0, .string ⟨#[]⟩, .string ⟨#[]⟩, .string ⟨#[]⟩, .slice none 0 0] 37 from (MapKept.heap_alloc w (.cells #[.int .i64 0, .int .i64 0, .int .i64 0, .int .i64 0, .string ⟨#[]⟩, .string ⟨#[]⟩, .string ⟨#[]⟩, .slice none 0 0] 37)).1)
 have H1 := Lib.hid (h.next HB.out)
 have hmU := h.lt
 have HFin := Lib.hid h.fin
 obtain ⟨U, hU⟩ : ∃ U, w.heap.size = U := ⟨_, rfl⟩
 have HUl := Lib.hid hU
 have HSz := Lib.hid (show (w.alloc (.cells #[.int .i64 0, .int .i64 0, .int .i64 0, .int .i64 0, .string ⟨#[]⟩, .string ⟨#[]⟩, .string ⟨#[]⟩, .slice none 0 0] 37)).heap.size = U + 1 by rw [World.size_alloc, hU])
 rw [hU] at HU hmU
 have HmU := Lib.hid hmU
 obtain ⟨X, hX⟩ : ∃ X, Pa.countP (Pa.lev F 0) s = X := ⟨_, rfl⟩
 rw [hX]
 have HX := Lib.hid hX
 clear h hX hmU
 go_enter Tryz.func181, Tryz.ntmps181
 go_wp2_with fail
 generalize w.alloc (.cells #[.int .i64 0, .int .i64 0, .int .i64 0, .int .i64 0, .string ⟨#[]⟩, .string ⟨#[]⟩, .string ⟨#[]⟩, .slice none 0 0] 37) = W1 at HB HU H1 HSz ⊢
 clear hU
 have HM1 := Lib.hid (show ButM m w W1 from ButM.of HB.out)
 have HT1 := Lib.hid (qmust_any m s [40] W1 H1.out)
 obtain ⟨s1, hs1⟩ : ∃ z, Pa.mustW [40] s = z := ⟨_, rfl⟩
 rw [hs1] at HT1
 have HK1 := Lib.hid hs1
 clear hs1
 go_wp2_with fail
 refine HT1.out.mono ?_
 rintro e v1 ⟨rfl, hR, hM⟩
 have HMn1 := Lib.hid (HM1.out.trans hM)
 have HUn1 := Lib.hid (HU.out.but HmU.out hM)
 have HRn1 := Lib.hid hR
 clear hR hM
 have HLm0 := Lib.hid (show s1.ts.length ≤ N by have := (Pa.mustW_le [40] HFin.out).len; rw [HK1.out] at this; omega)
 clear hN
 have HT2 := Lib.hid (qtake_any m s1 [42] v1 HRn1.out)
 obtain ⟨t2, ht⟩ : ∃ z, (Pa.takeW [42] s1).1 = z := ⟨_, rfl⟩
 obtain ⟨s2, hs⟩ : ∃ z, (Pa.takeW [42] s1).2 = z := ⟨_, rfl⟩
 have hno2 := (Pa.takeW_le [42] HRn1.out.fin).2.2
 rw [ht, hs] at HT2 hno2
 have HK2 := Lib.hid (show Pa.takeW [42] s1 = (t2, s2) by rw [← ht, ← hs])
 clear ht hs
 cases t2 with
 | true =>
  clear hno2
  go_wp2_with fail
  refine HT2.out.mono ?_
  rintro e v2 ⟨rfl, hR, hM⟩
  have HMn2 := Lib.hid (HMn1.out.trans hM)
  have HUn2 := Lib.hid (HUn1.out.but HmU.out hM)
  have HRn2 := Lib.hid hR
  clear hR hM
  have HT3 := Lib.hid (qmust_any m s2 [41] v2 HRn2.out)
  obtain ⟨s3, hs3⟩ : ∃ z, Pa.mustW [41] s2 = z := ⟨_, rfl⟩
  rw [hs3] at HT3
  have HK3 := Lib.hid hs3
  clear hs3
  go_wp2_with fail
  refine HT3.out.mono ?_
  rintro e v3 ⟨rfl, hR, hM⟩
  have HMn3 := Lib.hid (HMn2.out.trans hM)
  have HUn3 := Lib.hid (HUn2.out.but HmU.out hM)
  have HRn3 := Lib.hid hR
  clear hR hM
  have HXe := Lib.hid (show X = (Pa.exAgg 1 [], s3) by rw [← HX.out]; simp only [Pa.countP, HK1.out, HK2.out, HK3.out, if_true])
  obtain ⟨c0, c1, c2, c3, c4, c5, c6, c7⟩ := cl8 (w := v3) (HUn3.out)
  have fc0 := (HUn3.out).frozen 0
  have fc1 := (HUn3.out).frozen 1
  have fc2 := (HUn3.out).frozen 2
  have fc3 := (HUn3.out).frozen 3
  have fc4 := (HUn3.out).frozen 4
  have fc5 := (HUn3.out).frozen 5
  have fc6 := (HUn3.out).frozen 6
  have fc7 := (HUn3.out).frozen 7
  go_wp2_with fail
  exact bodyPost_ret (v := XV (hdA 1) none 0 0) (by simp [results, Tryz.results181, go_sem, c0, c1, c2, c3, c4, c5, c6, c7]) rfl (by rw [HXe.out]; exact RyE.fin (c := xcell ((hdA 1), none, 0, 0)) exC_ok HUl.out HmU.out HMn3.out HRn3.out (exC_leaf _ _ _) (fun _ => rfl) (OnU.refl _ _).set.set.set.set.set.set.set.set)
 | false =>
  have HLm := Lib.hid (show s2.ts.length ≤ N by rw [hno2 rfl]; exact HLm0.out)
  obtain rfl := hno2 rfl
  clear hno2
  go_wp2_with fail
  refine HT2.out.mono ?_
  rintro e v2 ⟨rfl, hR, hM⟩
  have HMn2 := Lib.hid (HMn1.out.trans hM)
  have HUn2 := Lib.hid (HUn1.out.but HmU.out hM)
  have HRn2 := Lib.hid hR
  clear hR hM
  have HXa := Lib.hid (show Pa.aggP (Pa.lev F 0) 2 s = X by rw [← HX.out]; simp only [Pa.countP, HK1.out, HK2.out, Bool.false_eq_true, if_false])
  have HT3 := Lib.hid (HOo.out s2 v2 HRn2.out (by have := HLm.out; omega))
  obtain ⟨⟨x3, s3⟩, hs3⟩ : ∃ q, Pa.lev F 0 s2 = q := ⟨_, rfl⟩
  rw [hs3] at HT3
  have HK3 := Lib.hid hs3
  clear hs3
  simp only at HT3
  go_wp2_with fail
  refine HT3.out.mono ?_
  intro e v3 hE
  obtain ⟨z3, A3, cap3, rfl, hC, hz3, hR, hM⟩ := RyE.ev hE
  clear hE
  have HZ := Lib.hid hz3
  have HUs := Lib.hid (show U + 1 ≤ (v2).heap.size from HUn2.out.lt)
  have HMn3 := Lib.hid (HMn2.out.trans hM)
  have HUn3 := Lib.hid (HUn2.out.but HmU.out hM)
  have HRn3 := Lib.hid hR
  have HC3 := Lib.hid (exC_ok.wide (a' := U + 1) (b' := v3.heap.size) HUs.out (Nat.le_refl _) hC)
  clear hC hR hM hz3
  obtain ⟨hd3, l3⟩ := z3
  simp only [Ex.hd, Ex.kids] at HC3 ⊢
  have hbv := ba v3 (xbox hd3 A3 l3.length cap3)
  have HRv := Lib.hid (HRn3.out.next hbv)
  have HMv := Lib.hid (HMn3.out.trans (ButM.of hbv))
  have HUv := Lib.hid (HUn3.out.next hbv)
  have HVv := Lib.hid (show BxU (v3.alloc (xbox hd3 A3 l3.length cap3)) v3.heap.size #[.int .i64 hd3.k, .int .i64 hd3.n, .int .i64 hd3.vk, .int .i64 hd3.vn, .string hd3.vs, .string hd3.tab, .string hd3.col, .slice A3 l3.length cap3] 37 from (MapKept.heap_alloc v3 (xbox hd3 A3 l3.length cap3)).1)
  have HCv := Lib.hid (exC_ok.keep (a := U + 1) (b := v3.heap.size) hbv (Nat.le_refl _) HC3.out)
  have HmV := Lib.hid (show m < v3.heap.size from HRn3.out.lt)
  have HUV := Lib.hid (show U < v3.heap.size from HUn3.out.lt)
  have HsV := Lib.hid (show v3.heap.size ≤ (v3.alloc (xbox hd3 A3 l3.length cap3)).heap.size from hbv.size)
  have HLe := Lib.hid (Pa.mustW_le [41] HRn3.out.fin)
  clear hbv
  go_wp2_with fail
  have HT := Lib.hid (qmust_any m s3 [41] _ HRv.out)
  refine HT.out.mono ?_
  rintro e v8 ⟨rfl, hR, hM⟩
  have HM8 := Lib.hid (HMv.out.trans hM)
  have HU8 := Lib.hid (HUv.out.but HmU.out hM)
  have HV8 := Lib.hid (HVv.out.but HmV.out hM)
  have HR8 := Lib.hid hR
  have HC8 := Lib.hid (exC_ok.wide (a' := U + 1) (b' := v8.heap.size) (Nat.le_refl _) (Nat.le_trans HsV.out hM.size) (exC_ok.keepM hM (Nat.lt_succ_of_lt HmU.out) HsV.out HCv.out))
  clear hR hM
  obtain ⟨d0, d1, d2, d3, d4, d5, d6, d7⟩ := cl8 (w := v8) HV8.out
  have hbx := ba v8 (xbox hd3 A3 l3.length cap3)
  have HCm := Lib.hid (exC_one (B' := Bt (U + 1) (v8.heap.size + 1)) (hdA (2 : Nat)) HC8.out (fun k hk => ⟨hk.2, hk.1, Nat.lt_succ_of_lt hk.2⟩) ⟨HU8.out.lt, Nat.lt_succ_self _⟩ 37)
  have HM9 := Lib.hid (HM8.out.trans (ButM.of hbx))
  have HR9 := Lib.hid (HR8.out.next hbx)
  have HU9 := Lib.hid (HU8.out.next hbx)
  have HXe := Lib.hid (show X = (Pa.exAgg 2 [x3], Pa.mustW [41] s3) by rw [← HXa.out, Pa.aggP, Pa.enclP, HK1.out, HK3.out])
  have hUV := Nat.ne_of_lt HUV.out
  have hVU := hUV.symm
  clear hbx
  obtain ⟨c0, c1, c2, c3, c4, c5, c6, c7⟩ := cl8 (w := (v8.alloc (.cells #[.int .i64 hd3.k, .int .i64 hd3.n, .int .i64 hd3.vk, .int .i64 hd3.vn, .string hd3.vs, .string hd3.tab, .string hd3.col, .slice A3 l3.length cap3] 37))) (HU9.out)
  have fc0 := (HU9.out).frozen 0
  have fc1 := (HU9.out).frozen 1
  have fc2 := (HU9.out).frozen 2
  have fc3 := (HU9.out).frozen 3
  have fc4 := (HU9.out).frozen 4
  have fc5 := (HU9.out).frozen 5
  have fc6 := (HU9.out).frozen 6
  have fc7 := (HU9.out).frozen 7
  go_wp2_with fail
  exact bodyPost_ret (v := XV (hdA (2 : Nat)) (some ⟨v8.heap.size, 0, none⟩) 1 1) (by simp [results, Tryz.results181, go_sem, c0, c1, c2, c3, c4, c5, c6, c7]) rfl (by rw [HXe.out]; exact RyE.fin (c := xcell (hdA (2 : Nat), some ⟨v8.heap.size, 0, none⟩, 1, 1)) exC_ok HUl.out HmU.out HM9.out HR9.out (exC_ok.wide (Nat.le_refl _) (by rw [World.size_alloc]; exact Nat.le_refl _) HCm.out) (fun hb => by rw [HZ.out (le_bad HLe.out hb)]; rfl) (OnU.refl _ _).set.set.set.set.set.set.set.set)
end Go.Proofs.YtfjimoccliejdaaGreatDoor
end
