/-
  The document's rows of operators: what they lean on.
-/
import Derived.Test.YtfjimoccliejdaaGreatDoorE9
section
namespace Go.Proofs.YtfjimoccliejdaaGreatDoor
open Go.RowKit Go.Shelf

set_option maxRecDepth 100000 in
set_option maxHeartbeats 4000000 in
theorem row_sum (part : Pa.Ps → Ex × Pa.Ps) (hle : ∀ s, Pa.Fin s.ts → Pa.Le s (part s).2) (m N : Nat) (HP : Ok 155 part m N) (ops : List Nat) (hops : ∀ op ∈ ops, op < 17) (hnz : ∀ op ∈ ops, op ≠ 0) (hl : ops.length ≤ 100) (s : Pa.Ps) (g c : Nat) (w : World) (h : RS m w s) (hN : s.ts.length ≤ N) (hgm : m < g) (hO : ∀ (j op : Nat), ops[j]? = some op → w.cell? ⟨g, j, none⟩ = some (.int .i64 op)) :
  Calls Tryz.prog 60 #[.pointer (some ⟨m, 0, none⟩), .func (.func 155) #[.pointer (some ⟨m, 0, none⟩)] #[], .slice (some ⟨g, 0, none⟩) ops.length c] w (RuE exC m w (Pa.rowP part ops (part s).2.ts.length (part s).1 (part s).2).1 (Pa.rowP part ops (part s).2.ts.length (part s).1 (part s).2).2) := by
 have HPp := Lib.hid HP
 have HO := Lib.hid hO
 have HOps := Lib.hid (And.intro hops hnz)
 have Hle := Lib.hid hle
 clear HP hO hops hnz hle
 have HB := Lib.hid (ba w (.cells #[.int .i64 0, .int .i64 0, .int .i64 0, .int .i64 0, .string ⟨#[]⟩, .string ⟨#[]⟩, .string ⟨#[]⟩, .slice none 0 0] 37))
 have HU := Lib.hid (show BxU _ _ #[.int .i64 0, .int .i64 0, .int .i64 0, .int .i64 0, .string ⟨#[]⟩, .string ⟨#[]⟩, .string ⟨#[]⟩, .slice none 0 0] 37 from (MapKept.heap_alloc w (.cells #[.int .i64 0, .int .i64 0, .int .i64 0, .int .i64 0, .string ⟨#[]⟩, .string ⟨#[]⟩, .string ⟨#[]⟩, .slice none 0 0] 37)).1)
 have H1 := Lib.hid (h.next HB.out)
 have hmU := h.lt
 have HFin := Lib.hid h.fin
 obtain ⟨U, hU⟩ : ∃ U, w.heap.size = U := ⟨_, rfl⟩
 have HUl := Lib.hid hU
 rw [hU] at HU hmU
 have HmU := Lib.hid hmU
 obtain ⟨X, hX⟩ : ∃ X, Pa.rowP part ops (part s).2.ts.length (part s).1 (part s).2 = X := ⟨_, rfl⟩
 rw [hX]
 have HX := Lib.hid hX
 clear h hX hmU
 go_enter Tryz.func60, Tryz.ntmps60
 go_wp2_with fail
 generalize w.alloc (.cells #[.int .i64 0, .int .i64 0, .int .i64 0, .int .i64 0, .string ⟨#[]⟩, .string ⟨#[]⟩, .string ⟨#[]⟩, .slice none 0 0] 37) = W1 at HB HU H1 ⊢
 clear hU
 have HM1 := Lib.hid (show ButM m w W1 from ButM.of HB.out)
 have HT1 := Lib.hid (HPp.out s W1 H1.out hN)
 obtain ⟨⟨x1, s1⟩, hs1⟩ : ∃ q, part s = q := ⟨_, rfl⟩
 rw [hs1] at HT1
 have HK1 := Lib.hid hs1
 clear hs1
 simp only at HT1
 go_wp2_with fail
 refine HT1.out.mono ?_
 intro e v1 hE
 obtain ⟨A1, cap1, rfl, hC, hR, hM⟩ := RuE.ev hE
 clear hE
 have hs1 : s1.ts.length ≤ N := by have := (Hle.out s HFin.out).len; rw [HK1.out] at this; simp only at this; omega
 have HX1 := Lib.hid (show Pa.rowP part ops s1.ts.length x1 s1 = X by rw [← HX.out, HK1.out])
 obtain ⟨hd1, l1⟩ := x1
 simp only [Ex.hd, Ex.kids] at hC ⊢
 have hbv := ba v1 (xbox hd1 A1 l1.length cap1)
 have hVn := (MapKept.heap_alloc v1 (xbox hd1 A1 l1.length cap1)).1
 obtain ⟨V, hV⟩ : ∃ V, v1.heap.size = V := ⟨_, rfl⟩
 rw [hV] at hVn
 have hUW := HU.out.lt
 have hUV : U < V := by have := hM.size; omega
 have HS1 := Lib.hid (show RowS part ops m N U V w X (.mk hd1 l1) s1 s1.ts.length A1 cap1 (v1.alloc (xbox hd1 A1 l1.length cap1)) from ⟨Nat.le_refl _, hs1, hR.next hbv, (HM1.out.trans hM).trans (ButM.of hbv), (HU.out.but HmU.out hM).next hbv, hVn, exC_ok.go (fun k hk => hbv.block k hk.2) (fun k hk => ⟨by have := hk.1; omega, by have := hk.2; have := hbv.size; omega, by have := hk.2; omega⟩) hC, HX1.out⟩)
 have HV := Lib.hid hV
 have HUV := Lib.hid hUV
 clear hR hM hC hN hbv hVn hUW hs1 hUV
 go_wp2_with fail
 clear hV
 go_loopw [8] (fun _ W => ∃ (x : Ex) (s1 : Pa.Ps) (nn : Nat) (A : Option Addr) (cap : Nat), Hid (RowS part ops m N U V w X x s1 nn A cap W)) (fun _ W => lenR m W)
 case atStart => exact ⟨_, _, _, _, _, HS1⟩
 case round =>
  obtain ⟨x, s2, nn, A, cap, HS⟩ := hrel
  have hOw : ∀ (j op : Nat), ops[j]? = some op → wr.cell? ⟨g, j, none⟩ = some (.int .i64 op) := fun j op hj => HS.out.but.cell (Nat.ne_of_gt hgm) (HO.out j op hj)
  have HT := Lib.hid (oper_any m s2 ops g c wr HS.out.rs HOps.out.1 hOw hgm hl)
  obtain ⟨hle2, hnz2, hz2⟩ := Pa.operP_le ops HS.out.rs.fin HOps.out.2
  have hlt := operP_lt ops s2 HOps.out.1
  obtain ⟨o, ho⟩ : ∃ o, (Pa.operP ops s2).1 = o := ⟨_, rfl⟩
  obtain ⟨s3, hs3⟩ : ∃ s3, (Pa.operP ops s2).2 = s3 := ⟨_, rfl⟩
  rw [ho, hs3] at HT hnz2 hz2
  rw [ho] at hlt
  rw [hs3] at hle2
  have HK := Lib.hid (show Pa.operP ops s2 = (o, s3) by rw [← ho, ← hs3])
  have HLE := Lib.hid hle2
  have HNZ := Lib.hid hnz2
  have HZ := Lib.hid hz2
  clear hOw hle2 hnz2 hz2 ho hs3
  go_wp2_with fail
  refine HT.out.mono ?_
  rintro e w1 ⟨rfl, hR, hM⟩
  have HR1 := Lib.hid hR
  have HB1 := Lib.hid (HS.out.but.trans hM)
  have HU1 := Lib.hid (HS.out.bu.but HmU.out hM)
  have hmV : m < V := Nat.lt_trans HmU.out HUV.out
  have HV1 := Lib.hid (HS.out.bv.but hmV hM)
  have HE1 := Lib.hid (show exC (Bv U V w1.heap.size) w1 x (xcell (x.hd, A, x.kids.length, cap)) from exC_ok.go (fun k hk => hM.block k hk.2.1 (by have := hk.1; have := HmU.out; omega)) (fun k hk => ⟨hk.1, Nat.lt_of_lt_of_le hk.2.1 hM.size, hk.2.2⟩) HS.out.ex)
  have HmV := Lib.hid hmV
  have hUltV := HUV.out
  have hUneV : U ≠ V := Nat.ne_of_lt hUltV
  have hVneU : V ≠ U := Nat.ne_of_gt hUltV
  clear hR hM hmV hUltV
  obtain ⟨hd, l⟩ := x
  simp only [Ex.hd, Ex.kids] at HV1 HE1
  obtain ⟨d0, d1, d2, d3, d4, d5, d6, d7⟩ := cl8 (w := w1) (HV1.out)
  have fd0 := (HV1.out).frozen 0
  have fd1 := (HV1.out).frozen 1
  have fd2 := (HV1.out).frozen 2
  have fd3 := (HV1.out).frozen 3
  have fd4 := (HV1.out).frozen 4
  have fd5 := (HV1.out).frozen 5
  have fd6 := (HV1.out).frozen 6
  have fd7 := (HV1.out).frozen 7
  by_cases hz : o = 0
  ·subst hz
   obtain rfl := HZ.out rfl
   have HXe := Lib.hid (show X = (.mk hd l, s3) by rw [← HS.out.eq, Pa.rowP_stop (by rw [HK.out])])
   obtain ⟨c0, c1, c2, c3, c4, c5, c6, c7⟩ := cl8 (w := w1) (HU1.out)
   have fc0 := (HU1.out).frozen 0
   have fc1 := (HU1.out).frozen 1
   have fc2 := (HU1.out).frozen 2
   have fc3 := (HU1.out).frozen 3
   have fc4 := (HU1.out).frozen 4
   have fc5 := (HU1.out).frozen 5
   have fc6 := (HU1.out).frozen 6
   have fc7 := (HU1.out).frozen 7
   go_wp2_with fail
   exact bodyPost_ret (v := XV hd A l.length cap) (by simp [results, Tryz.results60, go_sem, c0, c1, c2, c3, c4, c5, c6, c7]) rfl (by rw [HXe.out]; exact RuE.fin (c := xcell (hd, A, l.length, cap)) exC_ok HUl.out HmU.out HB1.out HR1.out (exC_ok.go (fun _ _ => rfl) (fun k hk => ⟨hk.1, hk.2.1⟩) HE1.out) (OnU.refl _ _).set.set.set.set.set.set.set.set)
  ·have hzI : ¬ ((o : Int) = 0) := by omega
   have har := isOne_ar hlt
   obtain ⟨nn, rfl⟩ : ∃ k, nn = k + 1 := ⟨nn - 1, by have := (HNZ.out hz).2; have := HS.out.len; omega⟩
   cases hone : Pa.isOne o with
   | true =>
    rw [if_pos hone] at har
    have HX2 := Lib.hid (show Pa.rowP part ops nn (Pa.mkOp o [.mk hd l]) s3 = X by rw [← HS.out.eq, rowP_one (by rw [HK.out]; exact hz) (by rw [HK.out]; exact hone), HK.out])
    have HLs := Lib.hid (show s3.ts.length + 1 ≤ s2.ts.length from (HNZ.out hz).2)
    have HAr := Lib.hid (ev_arity (n := (o : Int)) (w := w1) har)
    clear hone har hz
    go_wp2_with fail
    refine HAr.out.mono ?_
    rintro e w2 ⟨u, rfl, hb, rfl⟩
    have HR2 := Lib.hid (HR1.out.next hb)
    have HB2 := Lib.hid (HB1.out.trans (ButM.of hb))
    have HU2 := Lib.hid (HU1.out.next hb)
    have HV2 := Lib.hid (HV1.out.next hb)
    have HE2 := Lib.hid (show exC (Bv U V w2.heap.size) w2 (.mk hd l) (xcell (hd, A, l.length, cap)) from exC_ok.go (fun k hk => hb.block k hk.2.1) (fun k hk => ⟨hk.1, Nat.lt_of_lt_of_le hk.2.1 hb.size, hk.2.2⟩) HE1.out)
    clear hb d0 fd0 d1 fd1 d2 fd2 d3 fd3 d4 fd4 d5 fd5 d6 fd6 d7 fd7
    obtain ⟨d0, d1, d2, d3, d4, d5, d6, d7⟩ := cl8 (w := w2) (HV2.out)
    have fd0 := (HV2.out).frozen 0
    have fd1 := (HV2.out).frozen 1
    have fd2 := (HV2.out).frozen 2
    have fd3 := (HV2.out).frozen 3
    have fd4 := (HV2.out).frozen 4
    have fd5 := (HV2.out).frozen 5
    have fd6 := (HV2.out).frozen 6
    have fd7 := (HV2.out).frozen 7
    have hE3 := exC_one (B' := Bv U V (w2.heap.size + 1)) (hdO (o : Int)) HE2.out (fun k hk => ⟨hk.2.1, hk.1, Nat.lt_succ_of_lt hk.2.1, hk.2.2⟩) ⟨HU2.out.lt, Nat.lt_succ_self _, Nat.ne_of_gt HV2.out.lt⟩ 37
    have hbx := ba w2 (xbox hd A l.length cap)
    have HE3 := Lib.hid hE3
    have HBx := Lib.hid hbx
    have HR3 := Lib.hid (HR2.out.next hbx)
    have HU3 := Lib.hid (HU2.out.next hbx)
    have HV3 := Lib.hid (HV2.out.next hbx)
    go_wp2_with fail
    refine (pmade_any 3 o (some ⟨w2.heap.size, 0, none⟩) 1 1 _).mono ?_
    rintro e w3 ⟨rfl, hb⟩
    have HR4 := Lib.hid (HR3.out.next hb)
    have HB4 := Lib.hid (HB2.out.trans ((ButM.of hbx).trans (ButM.of hb)))
    have HU4 := Lib.hid (HU3.out.next hb)
    have HV4 := Lib.hid (HV3.out.next hb)
    have HE4 := Lib.hid (show exC (Bv U V w3.heap.size) w3 (Pa.mkOp o [.mk hd l]) (xcell (hdO (o : Int), some ⟨w2.heap.size, 0, none⟩, 1, 1)) from exC_ok.go (fun k hk => hb.block k (by rw [World.size_alloc]; exact hk.2.1)) (fun k hk => ⟨hk.1, by have := hk.2.1; have := hb.size; rw [World.size_alloc] at this; omega, hk.2.2⟩) hE3)
    clear hb hbx hE3 d0 fd0 d1 fd1 d2 fd2 d3 fd3 d4 fd4 d5 fd5 d6 fd6 d7 fd7
    obtain ⟨d0, d1, d2, d3, d4, d5, d6, d7⟩ := cl8 (w := w3) (HV4.out)
    have fd0 := (HV4.out).frozen 0
    have fd1 := (HV4.out).frozen 1
    have fd2 := (HV4.out).frozen 2
    have fd3 := (HV4.out).frozen 3
    have fd4 := (HV4.out).frozen 4
    have fd5 := (HV4.out).frozen 5
    have fd6 := (HV4.out).frozen 6
    have fd7 := (HV4.out).frozen 7
    have HSn := Lib.hid (RowS.step (part := part) (ops := ops) (N := N) (nn := nn) (n := 1) rfl (by have := HLs.out; have := HS.out.len; omega) (by have := HLs.out; have := HS.out.most; omega) HmU.out HUV.out (Nat.le_of_eq HUl.out) HR4.out HB4.out HU4.out HE4.out HX2.out ((OnU.refl V w3).set.set.set.set.set.set.set.set) (box8_set HV4.out _ _ _ _ _ _ _ _))
    go_wp2_with fail
    go_roundw
    case rel => exact ⟨_, _, _, _, _, HSn⟩
    case measure => rw [HSn.out.rs.len, HS.out.rs.len]; have := HLs.out; omega
   | false =>
    rw [if_neg (by simp [hone]), if_neg hz] at har
    have HLs := Lib.hid (show s3.ts.length + 1 ≤ s2.ts.length from (HNZ.out hz).2)
    have hs3N : s3.ts.length ≤ N := by have := HLs.out; have := HS.out.most; omega
    obtain ⟨⟨y, s4⟩, hy⟩ : ∃ q, part s3 = q := ⟨_, rfl⟩
    have HY := Lib.hid hy
    have HX2 := Lib.hid (show Pa.rowP part ops nn (Pa.mkOp o [.mk hd l, y]) s4 = X by rw [← HS.out.eq, rowP_two (by rw [HK.out]; exact hz) (by rw [HK.out]; exact hone), HK.out, HY.out])
    have HLe4 := Lib.hid (show s4.ts.length ≤ s3.ts.length by have := (Hle.out s3 HR1.out.fin).len; rw [HY.out] at this; exact this)
    have HAr := Lib.hid (ev_arity (n := (o : Int)) (w := w1) har)
    clear hone har hz hy
    go_wp2_with fail
    refine HAr.out.mono ?_
    rintro e w2 ⟨u, rfl, hb, rfl⟩
    have HR2 := Lib.hid (HR1.out.next hb)
    have HB2 := Lib.hid (HB1.out.trans (ButM.of hb))
    have HU2 := Lib.hid (HU1.out.next hb)
    have HV2 := Lib.hid (HV1.out.next hb)
    have HE2 := Lib.hid (show exC (Bv U V w2.heap.size) w2 (.mk hd l) (xcell (hd, A, l.length, cap)) from exC_ok.go (fun k hk => hb.block k hk.2.1) (fun k hk => ⟨hk.1, Nat.lt_of_lt_of_le hk.2.1 hb.size, hk.2.2⟩) HE1.out)
    have HPx := Lib.hid (show ∀ W, Below w2.heap.size w2 W → Calls Tryz.prog 155 #[.pointer (some ⟨m, 0, none⟩)] W (fun e w4 => ∃ A4 cap4, e = .returned (XV y.hd A4 y.kids.length cap4) ∧ Hid (PartS m N U V w (.mk hd l) hd A l.length cap y s4 A4 cap4 w4) ∧ V8 w4 V hd A l.length cap) from fun W hW => (HPp.out s3 W (HR2.out.next hW) hs3N).mono (fun e w4 hE => by
     rw [HY.out] at hE
     obtain ⟨A4, cap4, rfl, hC, hR, hM⟩ := RuE.ev hE
     have hV := (HV2.out.next hW).but HmV.out hM
     exact ⟨A4, cap4, rfl, Lib.hid ⟨hR, (HB2.out.trans (ButM.of hW)).trans hM, (HU2.out.next hW).but HmU.out hM, hV, exC_ok.go (fun k hk => (hM.block k (Nat.lt_of_lt_of_le hk.2.1 hW.size) (by have := hk.1; have := HmU.out; omega)).trans (hW.block k hk.2.1)) (fun k hk => ⟨hk.1, by have := hk.2.1; have := hW.size; have := hM.size; omega, hk.2.2⟩) HE2.out, exC_ok.go (fun _ _ => rfl) (fun k hk => ⟨by have := hk.1; have := hW.size; have := HU2.out.lt; omega, hk.2, by have := hk.1; have := hW.size; have := HV2.out.lt; omega⟩) hC⟩, v8_of hV⟩))
    have HMd := Lib.hid (show ∀ (A4 : Option Addr) (cap4 : Nat) (w4 W : World) (_ : Hid (PartS m N U V w (.mk hd l) hd A l.length cap y s4 A4 cap4 w4)) (_ : W.heap = (w4.alloc (.cells (xcell (hd, A, l.length, cap) ++ xcell (y.hd, A4, y.kids.length, cap4)).toArray 37)).heap) (_ : Below w4.heap.size w4 W),
      Calls Tryz.prog 112 #[.int .i64 3, .int .i64 o, .slice (some ⟨w4.heap.size, 0, none⟩) 2 2] W (fun e w5 => e = .returned (XV (hdO (o : Int)) (some ⟨w4.heap.size, 0, none⟩) 2 2) ∧ Hid (MadeS m U V w (Pa.mkOp o [.mk hd l, y]) (hdO (o : Int)) s4 (some ⟨w4.heap.size, 0, none⟩) 2 2 hd A l.length cap w5) ∧ V8 w5 V hd A l.length cap) from fun A4 cap4 w4 W hP hW hb => (pmade_any 3 o (some ⟨w4.heap.size, 0, none⟩) 2 2 W).mono (fun e w5 hE => by
     obtain ⟨rfl, hb5⟩ := hE
     exact ⟨rfl, made_two hP.out hW hb hb5⟩))
    clear hb hs3N d0 fd0 d1 fd1 d2 fd2 d3 fd3 d4 fd4 d5 fd5 d6 fd6 d7 fd7
    obtain ⟨d0, d1, d2, d3, d4, d5, d6, d7⟩ := cl8 (w := w2) (HV2.out)
    have fd0 := (HV2.out).frozen 0
    have fd1 := (HV2.out).frozen 1
    have fd2 := (HV2.out).frozen 2
    have fd3 := (HV2.out).frozen 3
    have fd4 := (HV2.out).frozen 4
    have fd5 := (HV2.out).frozen 5
    have fd6 := (HV2.out).frozen 6
    have fd7 := (HV2.out).frozen 7
    go_wp2_with fail
    go_region_with (first
     | (refine (HPx.out _ (by repeat (first | exact Below.refl _ _ | refine Below.drew ?_))).mono ?_; rintro e w4 ⟨A4, cap4, rfl, HP4, d0, d1, d2, d3, d4, d5, d6, d7, fd0, fd1, fd2, fd3, fd4, fd5, fd6, fd7⟩)
     | (refine (HMd.out _ _ _ _ HP4 rfl (by repeat (first | exact Below.refl _ _ | refine Below.drew ?_ | refine Below.alloc ?_ (Nat.le_refl _) _))).mono ?_; rintro e w5 ⟨rfl, HP5, d0, d1, d2, d3, d4, d5, d6, d7, fd0, fd1, fd2, fd3, fd4, fd5, fd6, fd7⟩))
    all_goals
     have HSn := Lib.hid (RowS.step (part := part) (ops := ops) (N := N) (nn := nn) (n := 2) rfl (by have := HLs.out; have := HS.out.len; have := HLe4.out; omega) (by have := HLs.out; have := HS.out.most; have := HLe4.out; omega) HmU.out HUV.out (Nat.le_of_eq HUl.out) HP5.out.rs HP5.out.but HP5.out.bu HP5.out.ez HX2.out ((OnU.refl V w5).set.set.set.set.set.set.set.set) (box8_set HP5.out.bv _ _ _ _ _ _ _ _))
     go_wp2_with fail
     go_roundw
     case rel => exact ⟨_, _, _, _, _, HSn⟩
     case measure => rw [HSn.out.rs.len, HS.out.rs.len]; have := HLs.out; have := HLe4.out; omega
end Go.Proofs.YtfjimoccliejdaaGreatDoor
end
section
namespace Go.Proofs.YtfjimoccliejdaaGreatDoor
open Go.RowKit Go.Shelf

set_option maxRecDepth 100000 in
set_option maxHeartbeats 4000000 in
theorem row_prod (part : Pa.Ps → Ex × Pa.Ps) (hle : ∀ s, Pa.Fin s.ts → Pa.Le s (part s).2) (m N : Nat) (HP : Ok 161 part m N) (ops : List Nat) (hops : ∀ op ∈ ops, op < 17) (hnz : ∀ op ∈ ops, op ≠ 0) (hl : ops.length ≤ 100) (s : Pa.Ps) (g c : Nat) (w : World) (h : RS m w s) (hN : s.ts.length ≤ N) (hgm : m < g) (hO : ∀ (j op : Nat), ops[j]? = some op → w.cell? ⟨g, j, none⟩ = some (.int .i64 op)) :
  Calls Tryz.prog 60 #[.pointer (some ⟨m, 0, none⟩), .func (.func 161) #[.pointer (some ⟨m, 0, none⟩)] #[], .slice (some ⟨g, 0, none⟩) ops.length c] w (RuE exC m w (Pa.rowP part ops (part s).2.ts.length (part s).1 (part s).2).1 (Pa.rowP part ops (part s).2.ts.length (part s).1 (part s).2).2) := by
 have HPp := Lib.hid HP
 have HO := Lib.hid hO
 have HOps := Lib.hid (And.intro hops hnz)
 have Hle := Lib.hid hle
 clear HP hO hops hnz hle
 have HB := Lib.hid (ba w (.cells #[.int .i64 0, .int .i64 0, .int .i64 0, .int .i64 0, .string ⟨#[]⟩, .string ⟨#[]⟩, .string ⟨#[]⟩, .slice none 0 0] 37))
 have HU := Lib.hid (show BxU _ _ #[.int .i64 0, .int .i64 0, .int .i64 0, .int .i64 0, .string ⟨#[]⟩, .string ⟨#[]⟩, .string ⟨#[]⟩, .slice none 0 0] 37 from (MapKept.heap_alloc w (.cells #[.int .i64 0, .int .i64 0, .int .i64 0, .int .i64 0, .string ⟨#[]⟩, .string ⟨#[]⟩, .string ⟨#[]⟩, .slice none 0 0] 37)).1)
 have H1 := Lib.hid (h.next HB.out)
 have hmU := h.lt
 have HFin := Lib.hid h.fin
 obtain ⟨U, hU⟩ : ∃ U, w.heap.size = U := ⟨_, rfl⟩
 have HUl := Lib.hid hU
 rw [hU] at HU hmU
 have HmU := Lib.hid hmU
 obtain ⟨X, hX⟩ : ∃ X, Pa.rowP part ops (part s).2.ts.length (part s).1 (part s).2 = X := ⟨_, rfl⟩
 rw [hX]
 have HX := Lib.hid hX
 clear h hX hmU
 go_enter Tryz.func60, Tryz.ntmps60
 go_wp2_with fail
 generalize w.alloc (.cells #[.int .i64 0, .int .i64 0, .int .i64 0, .int .i64 0, .string ⟨#[]⟩, .string ⟨#[]⟩, .string ⟨#[]⟩, .slice none 0 0] 37) = W1 at HB HU H1 ⊢
 clear hU
 have HM1 := Lib.hid (show ButM m w W1 from ButM.of HB.out)
 have HT1 := Lib.hid (HPp.out s W1 H1.out hN)
 obtain ⟨⟨x1, s1⟩, hs1⟩ : ∃ q, part s = q := ⟨_, rfl⟩
 rw [hs1] at HT1
 have HK1 := Lib.hid hs1
 clear hs1
 simp only at HT1
 go_wp2_with fail
 refine HT1.out.mono ?_
 intro e v1 hE
 obtain ⟨A1, cap1, rfl, hC, hR, hM⟩ := RuE.ev hE
 clear hE
 have hs1 : s1.ts.length ≤ N := by have := (Hle.out s HFin.out).len; rw [HK1.out] at this; simp only at this; omega
 have HX1 := Lib.hid (show Pa.rowP part ops s1.ts.length x1 s1 = X by rw [← HX.out, HK1.out])
 obtain ⟨hd1, l1⟩ := x1
 simp only [Ex.hd, Ex.kids] at hC ⊢
 have hbv := ba v1 (xbox hd1 A1 l1.length cap1)
 have hVn := (MapKept.heap_alloc v1 (xbox hd1 A1 l1.length cap1)).1
 obtain ⟨V, hV⟩ : ∃ V, v1.heap.size = V := ⟨_, rfl⟩
 rw [hV] at hVn
 have hUW := HU.out.lt
 have hUV : U < V := by have := hM.size; omega
 have HS1 := Lib.hid (show RowS part ops m N U V w X (.mk hd1 l1) s1 s1.ts.length A1 cap1 (v1.alloc (xbox hd1 A1 l1.length cap1)) from ⟨Nat.le_refl _, hs1, hR.next hbv, (HM1.out.trans hM).trans (ButM.of hbv), (HU.out.but HmU.out hM).next hbv, hVn, exC_ok.go (fun k hk => hbv.block k hk.2) (fun k hk => ⟨by have := hk.1; omega, by have := hk.2; have := hbv.size; omega, by have := hk.2; omega⟩) hC, HX1.out⟩)
 have HV := Lib.hid hV
 have HUV := Lib.hid hUV
 clear hR hM hC hN hbv hVn hUW hs1 hUV
 go_wp2_with fail
 clear hV
 go_loopw [8] (fun _ W => ∃ (x : Ex) (s1 : Pa.Ps) (nn : Nat) (A : Option Addr) (cap : Nat), Hid (RowS part ops m N U V w X x s1 nn A cap W)) (fun _ W => lenR m W)
 case atStart => exact ⟨_, _, _, _, _, HS1⟩
 case round =>
  obtain ⟨x, s2, nn, A, cap, HS⟩ := hrel
  have hOw : ∀ (j op : Nat), ops[j]? = some op → wr.cell? ⟨g, j, none⟩ = some (.int .i64 op) := fun j op hj => HS.out.but.cell (Nat.ne_of_gt hgm) (HO.out j op hj)
  have HT := Lib.hid (oper_any m s2 ops g c wr HS.out.rs HOps.out.1 hOw hgm hl)
  obtain ⟨hle2, hnz2, hz2⟩ := Pa.operP_le ops HS.out.rs.fin HOps.out.2
  have hlt := operP_lt ops s2 HOps.out.1
  obtain ⟨o, ho⟩ : ∃ o, (Pa.operP ops s2).1 = o := ⟨_, rfl⟩
  obtain ⟨s3, hs3⟩ : ∃ s3, (Pa.operP ops s2).2 = s3 := ⟨_, rfl⟩
  rw [ho, hs3] at HT hnz2 hz2
  rw [ho] at hlt
  rw [hs3] at hle2
  have HK := Lib.hid (show Pa.operP ops s2 = (o, s3) by rw [← ho, ← hs3])
  have HLE := Lib.hid hle2
  have HNZ := Lib.hid hnz2
  have HZ := Lib.hid hz2
  clear hOw hle2 hnz2 hz2 ho hs3
  go_wp2_with fail
  refine HT.out.mono ?_
  rintro e w1 ⟨rfl, hR, hM⟩
  have HR1 := Lib.hid hR
  have HB1 := Lib.hid (HS.out.but.trans hM)
  have HU1 := Lib.hid (HS.out.bu.but HmU.out hM)
  have hmV : m < V := Nat.lt_trans HmU.out HUV.out
  have HV1 := Lib.hid (HS.out.bv.but hmV hM)
  have HE1 := Lib.hid (show exC (Bv U V w1.heap.size) w1 x (xcell (x.hd, A, x.kids.length, cap)) from exC_ok.go (fun k hk => hM.block k hk.2.1 (by have := hk.1; have := HmU.out; omega)) (fun k hk => ⟨hk.1, Nat.lt_of_lt_of_le hk.2.1 hM.size, hk.2.2⟩) HS.out.ex)
  have HmV := Lib.hid hmV
  have hUltV := HUV.out
  have hUneV : U ≠ V := Nat.ne_of_lt hUltV
  have hVneU : V ≠ U := Nat.ne_of_gt hUltV
  clear hR hM hmV hUltV
  obtain ⟨hd, l⟩ := x
  simp only [Ex.hd, Ex.kids] at HV1 HE1
  obtain ⟨d0, d1, d2, d3, d4, d5, d6, d7⟩ := cl8 (w := w1) (HV1.out)
  have fd0 := (HV1.out).frozen 0
  have fd1 := (HV1.out).frozen 1
  have fd2 := (HV1.out).frozen 2
  have fd3 := (HV1.out).frozen 3
  have fd4 := (HV1.out).frozen 4
  have fd5 := (HV1.out).frozen 5
  have fd6 := (HV1.out).frozen 6
  have fd7 := (HV1.out).frozen 7
  by_cases hz : o = 0
  ·subst hz
   obtain rfl := HZ.out rfl
   have HXe := Lib.hid (show X = (.mk hd l, s3) by rw [← HS.out.eq, Pa.rowP_stop (by rw [HK.out])])
   obtain ⟨c0, c1, c2, c3, c4, c5, c6, c7⟩ := cl8 (w := w1) (HU1.out)
   have fc0 := (HU1.out).frozen 0
   have fc1 := (HU1.out).frozen 1
   have fc2 := (HU1.out).frozen 2
   have fc3 := (HU1.out).frozen 3
   have fc4 := (HU1.out).frozen 4
   have fc5 := (HU1.out).frozen 5
   have fc6 := (HU1.out).frozen 6
   have fc7 := (HU1.out).frozen 7
   go_wp2_with fail
   exact bodyPost_ret (v := XV hd A l.length cap) (by simp [results, Tryz.results60, go_sem, c0, c1, c2, c3, c4, c5, c6, c7]) rfl (by rw [HXe.out]; exact RuE.fin (c := xcell (hd, A, l.length, cap)) exC_ok HUl.out HmU.out HB1.out HR1.out (exC_ok.go (fun _ _ => rfl) (fun k hk => ⟨hk.1, hk.2.1⟩) HE1.out) (OnU.refl _ _).set.set.set.set.set.set.set.set)
  ·have hzI : ¬ ((o : Int) = 0) := by omega
   have har := isOne_ar hlt
   obtain ⟨nn, rfl⟩ : ∃ k, nn = k + 1 := ⟨nn - 1, by have := (HNZ.out hz).2; have := HS.out.len; omega⟩
   cases hone : Pa.isOne o with
   | true =>
    rw [if_pos hone] at har
    have HX2 := Lib.hid (show Pa.rowP part ops nn (Pa.mkOp o [.mk hd l]) s3 = X by rw [← HS.out.eq, rowP_one (by rw [HK.out]; exact hz) (by rw [HK.out]; exact hone), HK.out])
    have HLs := Lib.hid (show s3.ts.length + 1 ≤ s2.ts.length from (HNZ.out hz).2)
    have HAr := Lib.hid (ev_arity (n := (o : Int)) (w := w1) har)
    clear hone har hz
    go_wp2_with fail
    refine HAr.out.mono ?_
    rintro e w2 ⟨u, rfl, hb, rfl⟩
    have HR2 := Lib.hid (HR1.out.next hb)
    have HB2 := Lib.hid (HB1.out.trans (ButM.of hb))
    have HU2 := Lib.hid (HU1.out.next hb)
    have HV2 := Lib.hid (HV1.out.next hb)
    have HE2 := Lib.hid (show exC (Bv U V w2.heap.size) w2 (.mk hd l) (xcell (hd, A, l.length, cap)) from exC_ok.go (fun k hk => hb.block k hk.2.1) (fun k hk => ⟨hk.1, Nat.lt_of_lt_of_le hk.2.1 hb.size, hk.2.2⟩) HE1.out)
    clear hb d0 fd0 d1 fd1 d2 fd2 d3 fd3 d4 fd4 d5 fd5 d6 fd6 d7 fd7
    obtain ⟨d0, d1, d2, d3, d4, d5, d6, d7⟩ := cl8 (w := w2) (HV2.out)
    have fd0 := (HV2.out).frozen 0
    have fd1 := (HV2.out).frozen 1
    have fd2 := (HV2.out).frozen 2
    have fd3 := (HV2.out).frozen 3
    have fd4 := (HV2.out).frozen 4
    have fd5 := (HV2.out).frozen 5
    have fd6 := (HV2.out).frozen 6
    have fd7 := (HV2.out).frozen 7
    have hE3 := exC_one (B' := Bv U V (w2.heap.size + 1)) (hdO (o : Int)) HE2.out (fun k hk => ⟨hk.2.1, hk.1, Nat.lt_succ_of_lt hk.2.1, hk.2.2⟩) ⟨HU2.out.lt, Nat.lt_succ_self _, Nat.ne_of_gt HV2.out.lt⟩ 37
    have hbx := ba w2 (xbox hd A l.length cap)
    have HE3 := Lib.hid hE3
    have HBx := Lib.hid hbx
    have HR3 := Lib.hid (HR2.out.next hbx)
    have HU3 := Lib.hid (HU2.out.next hbx)
    have HV3 := Lib.hid (HV2.out.next hbx)
    go_wp2_with fail
    refine (pmade_any 3 o (some ⟨w2.heap.size, 0, none⟩) 1 1 _).mono ?_
    rintro e w3 ⟨rfl, hb⟩
    have HR4 := Lib.hid (HR3.out.next hb)
    have HB4 := Lib.hid (HB2.out.trans ((ButM.of hbx).trans (ButM.of hb)))
    have HU4 := Lib.hid (HU3.out.next hb)
    have HV4 := Lib.hid (HV3.out.next hb)
    have HE4 := Lib.hid (show exC (Bv U V w3.heap.size) w3 (Pa.mkOp o [.mk hd l]) (xcell (hdO (o : Int), some ⟨w2.heap.size, 0, none⟩, 1, 1)) from exC_ok.go (fun k hk => hb.block k (by rw [World.size_alloc]; exact hk.2.1)) (fun k hk => ⟨hk.1, by have := hk.2.1; have := hb.size; rw [World.size_alloc] at this; omega, hk.2.2⟩) hE3)
    clear hb hbx hE3 d0 fd0 d1 fd1 d2 fd2 d3 fd3 d4 fd4 d5 fd5 d6 fd6 d7 fd7
    obtain ⟨d0, d1, d2, d3, d4, d5, d6, d7⟩ := cl8 (w := w3) (HV4.out)
    have fd0 := (HV4.out).frozen 0
    have fd1 := (HV4.out).frozen 1
    have fd2 := (HV4.out).frozen 2
    have fd3 := (HV4.out).frozen 3
    have fd4 := (HV4.out).frozen 4
    have fd5 := (HV4.out).frozen 5
    have fd6 := (HV4.out).frozen 6
    have fd7 := (HV4.out).frozen 7
    have HSn := Lib.hid (RowS.step (part := part) (ops := ops) (N := N) (nn := nn) (n := 1) rfl (by have := HLs.out; have := HS.out.len; omega) (by have := HLs.out; have := HS.out.most; omega) HmU.out HUV.out (Nat.le_of_eq HUl.out) HR4.out HB4.out HU4.out HE4.out HX2.out ((OnU.refl V w3).set.set.set.set.set.set.set.set) (box8_set HV4.out _ _ _ _ _ _ _ _))
    go_wp2_with fail
    go_roundw
    case rel => exact ⟨_, _, _, _, _, HSn⟩
    case measure => rw [HSn.out.rs.len, HS.out.rs.len]; have := HLs.out; omega
   | false =>
    rw [if_neg (by simp [hone]), if_neg hz] at har
    have HLs := Lib.hid (show s3.ts.length + 1 ≤ s2.ts.length from (HNZ.out hz).2)
    have hs3N : s3.ts.length ≤ N := by have := HLs.out; have := HS.out.most; omega
    obtain ⟨⟨y, s4⟩, hy⟩ : ∃ q, part s3 = q := ⟨_, rfl⟩
    have HY := Lib.hid hy
    have HX2 := Lib.hid (show Pa.rowP part ops nn (Pa.mkOp o [.mk hd l, y]) s4 = X by rw [← HS.out.eq, rowP_two (by rw [HK.out]; exact hz) (by rw [HK.out]; exact hone), HK.out, HY.out])
    have HLe4 := Lib.hid (show s4.ts.length ≤ s3.ts.length by have := (Hle.out s3 HR1.out.fin).len; rw [HY.out] at this; exact this)
    have HAr := Lib.hid (ev_arity (n := (o : Int)) (w := w1) har)
    clear hone har hz hy
    go_wp2_with fail
    refine HAr.out.mono ?_
    rintro e w2 ⟨u, rfl, hb, rfl⟩
    have HR2 := Lib.hid (HR1.out.next hb)
    have HB2 := Lib.hid (HB1.out.trans (ButM.of hb))
    have HU2 := Lib.hid (HU1.out.next hb)
    have HV2 := Lib.hid (HV1.out.next hb)
    have HE2 := Lib.hid (show exC (Bv U V w2.heap.size) w2 (.mk hd l) (xcell (hd, A, l.length, cap)) from exC_ok.go (fun k hk => hb.block k hk.2.1) (fun k hk => ⟨hk.1, Nat.lt_of_lt_of_le hk.2.1 hb.size, hk.2.2⟩) HE1.out)
    have HPx := Lib.hid (show ∀ W, Below w2.heap.size w2 W → Calls Tryz.prog 161 #[.pointer (some ⟨m, 0, none⟩)] W (fun e w4 => ∃ A4 cap4, e = .returned (XV y.hd A4 y.kids.length cap4) ∧ Hid (PartS m N U V w (.mk hd l) hd A l.length cap y s4 A4 cap4 w4) ∧ V8 w4 V hd A l.length cap) from fun W hW => (HPp.out s3 W (HR2.out.next hW) hs3N).mono (fun e w4 hE => by
     rw [HY.out] at hE
     obtain ⟨A4, cap4, rfl, hC, hR, hM⟩ := RuE.ev hE
     have hV := (HV2.out.next hW).but HmV.out hM
     exact ⟨A4, cap4, rfl, Lib.hid ⟨hR, (HB2.out.trans (ButM.of hW)).trans hM, (HU2.out.next hW).but HmU.out hM, hV, exC_ok.go (fun k hk => (hM.block k (Nat.lt_of_lt_of_le hk.2.1 hW.size) (by have := hk.1; have := HmU.out; omega)).trans (hW.block k hk.2.1)) (fun k hk => ⟨hk.1, by have := hk.2.1; have := hW.size; have := hM.size; omega, hk.2.2⟩) HE2.out, exC_ok.go (fun _ _ => rfl) (fun k hk => ⟨by have := hk.1; have := hW.size; have := HU2.out.lt; omega, hk.2, by have := hk.1; have := hW.size; have := HV2.out.lt; omega⟩) hC⟩, v8_of hV⟩))
    have HMd := Lib.hid (show ∀ (A4 : Option Addr) (cap4 : Nat) (w4 W : World) (_ : Hid (PartS m N U V w (.mk hd l) hd A l.length cap y s4 A4 cap4 w4)) (_ : W.heap = (w4.alloc (.cells (xcell (hd, A, l.length, cap) ++ xcell (y.hd, A4, y.kids.length, cap4)).toArray 37)).heap) (_ : Below w4.heap.size w4 W),
      Calls Tryz.prog 112 #[.int .i64 3, .int .i64 o, .slice (some ⟨w4.heap.size, 0, none⟩) 2 2] W (fun e w5 => e = .returned (XV (hdO (o : Int)) (some ⟨w4.heap.size, 0, none⟩) 2 2) ∧ Hid (MadeS m U V w (Pa.mkOp o [.mk hd l, y]) (hdO (o : Int)) s4 (some ⟨w4.heap.size, 0, none⟩) 2 2 hd A l.length cap w5) ∧ V8 w5 V hd A l.length cap) from fun A4 cap4 w4 W hP hW hb => (pmade_any 3 o (some ⟨w4.heap.size, 0, none⟩) 2 2 W).mono (fun e w5 hE => by
     obtain ⟨rfl, hb5⟩ := hE
     exact ⟨rfl, made_two hP.out hW hb hb5⟩))
    clear hb hs3N d0 fd0 d1 fd1 d2 fd2 d3 fd3 d4 fd4 d5 fd5 d6 fd6 d7 fd7
    obtain ⟨d0, d1, d2, d3, d4, d5, d6, d7⟩ := cl8 (w := w2) (HV2.out)
    have fd0 := (HV2.out).frozen 0
    have fd1 := (HV2.out).frozen 1
    have fd2 := (HV2.out).frozen 2
    have fd3 := (HV2.out).frozen 3
    have fd4 := (HV2.out).frozen 4
    have fd5 := (HV2.out).frozen 5
    have fd6 := (HV2.out).frozen 6
    have fd7 := (HV2.out).frozen 7
    go_wp2_with fail
    go_region_with (first
     | (refine (HPx.out _ (by repeat (first | exact Below.refl _ _ | refine Below.drew ?_))).mono ?_; rintro e w4 ⟨A4, cap4, rfl, HP4, d0, d1, d2, d3, d4, d5, d6, d7, fd0, fd1, fd2, fd3, fd4, fd5, fd6, fd7⟩)
     | (refine (HMd.out _ _ _ _ HP4 rfl (by repeat (first | exact Below.refl _ _ | refine Below.drew ?_ | refine Below.alloc ?_ (Nat.le_refl _) _))).mono ?_; rintro e w5 ⟨rfl, HP5, d0, d1, d2, d3, d4, d5, d6, d7, fd0, fd1, fd2, fd3, fd4, fd5, fd6, fd7⟩))
    all_goals
     have HSn := Lib.hid (RowS.step (part := part) (ops := ops) (N := N) (nn := nn) (n := 2) rfl (by have := HLs.out; have := HS.out.len; have := HLe4.out; omega) (by have := HLs.out; have := HS.out.most; have := HLe4.out; omega) HmU.out HUV.out (Nat.le_of_eq HUl.out) HP5.out.rs HP5.out.but HP5.out.bu HP5.out.ez HX2.out ((OnU.refl V w5).set.set.set.set.set.set.set.set) (box8_set HP5.out.bv _ _ _ _ _ _ _ _))
     go_wp2_with fail
     go_roundw
     case rel => exact ⟨_, _, _, _, _, HSn⟩
     case measure => rw [HSn.out.rs.len, HS.out.rs.len]; have := HLs.out; have := HLe4.out; omega
end Go.Proofs.YtfjimoccliejdaaGreatDoor
end
section
namespace Go.Proofs.YtfjimoccliejdaaGreatDoor
open Go.RowKit Go.Shelf

set_option maxRecDepth 100000 in
set_option maxHeartbeats 4000000 in
theorem row_unary (part : Pa.Ps → Ex × Pa.Ps) (hle : ∀ s, Pa.Fin s.ts → Pa.Le s (part s).2) (m N : Nat) (HP : Ok 165 part m N) (ops : List Nat) (hops : ∀ op ∈ ops, op < 17) (hnz : ∀ op ∈ ops, op ≠ 0) (hl : ops.length ≤ 100) (s : Pa.Ps) (g c : Nat) (w : World) (h : RS m w s) (hN : s.ts.length ≤ N) (hgm : m < g) (hO : ∀ (j op : Nat), ops[j]? = some op → w.cell? ⟨g, j, none⟩ = some (.int .i64 op)) :
  Calls Tryz.prog 60 #[.pointer (some ⟨m, 0, none⟩), .func (.func 165) #[.pointer (some ⟨m, 0, none⟩)] #[], .slice (some ⟨g, 0, none⟩) ops.length c] w (RuE exC m w (Pa.rowP part ops (part s).2.ts.length (part s).1 (part s).2).1 (Pa.rowP part ops (part s).2.ts.length (part s).1 (part s).2).2) := by
 have HPp := Lib.hid HP
 have HO := Lib.hid hO
 have HOps := Lib.hid (And.intro hops hnz)
 have Hle := Lib.hid hle
 clear HP hO hops hnz hle
 have HB := Lib.hid (ba w (.cells #[.int .i64 0, .int .i64 0, .int .i64 0, .int .i64 0, .string ⟨#[]⟩, .string ⟨#[]⟩, .string ⟨#[]⟩, .slice none 0 0] 37))
 have HU := Lib.hid (show BxU _ _ #[.int .i64 0, .int .i64 0, .int .i64 0, .int .i64 0, .string ⟨#[]⟩, .string ⟨#[]⟩, .string ⟨#[]⟩, .slice none 0 0] 37 from (MapKept.heap_alloc w (.cells #[.int .i64 0, .int .i64 0, .int .i64 0, .int .i64 0, .string ⟨#[]⟩, .string ⟨#[]⟩, .string ⟨#[]⟩, .slice none 0 0] 37)).1)
 have H1 := Lib.hid (h.next HB.out)
 have hmU := h.lt
 have HFin := Lib.hid h.fin
 obtain ⟨U, hU⟩ : ∃ U, w.heap.size = U := ⟨_, rfl⟩
 have HUl := Lib.hid hU
 rw [hU] at HU hmU
 have HmU := Lib.hid hmU
 obtain ⟨X, hX⟩ : ∃ X, Pa.rowP part ops (part s).2.ts.length (part s).1 (part s).2 = X := ⟨_, rfl⟩
 rw [hX]
 have HX := Lib.hid hX
 clear h hX hmU
 go_enter Tryz.func60, Tryz.ntmps60
 go_wp2_with fail
 generalize w.alloc (.cells #[.int .i64 0, .int .i64 0, .int .i64 0, .int .i64 0, .string ⟨#[]⟩, .string ⟨#[]⟩, .string ⟨#[]⟩, .slice none 0 0] 37) = W1 at HB HU H1 ⊢
 clear hU
 have HM1 := Lib.hid (show ButM m w W1 from ButM.of HB.out)
 have HT1 := Lib.hid (HPp.out s W1 H1.out hN)
 obtain ⟨⟨x1, s1⟩, hs1⟩ : ∃ q, part s = q := ⟨_, rfl⟩
 rw [hs1] at HT1
 have HK1 := Lib.hid hs1
 clear hs1
 simp only at HT1
 go_wp2_with fail
 refine HT1.out.mono ?_
 intro e v1 hE
 obtain ⟨A1, cap1, rfl, hC, hR, hM⟩ := RuE.ev hE
 clear hE
 have hs1 : s1.ts.length ≤ N := by have := (Hle.out s HFin.out).len; rw [HK1.out] at this; simp only at this; omega
 have HX1 := Lib.hid (show Pa.rowP part ops s1.ts.length x1 s1 = X by rw [← HX.out, HK1.out])
 obtain ⟨hd1, l1⟩ := x1
 simp only [Ex.hd, Ex.kids] at hC ⊢
 have hbv := ba v1 (xbox hd1 A1 l1.length cap1)
 have hVn := (MapKept.heap_alloc v1 (xbox hd1 A1 l1.length cap1)).1
 obtain ⟨V, hV⟩ : ∃ V, v1.heap.size = V := ⟨_, rfl⟩
 rw [hV] at hVn
 have hUW := HU.out.lt
 have hUV : U < V := by have := hM.size; omega
 have HS1 := Lib.hid (show RowS part ops m N U V w X (.mk hd1 l1) s1 s1.ts.length A1 cap1 (v1.alloc (xbox hd1 A1 l1.length cap1)) from ⟨Nat.le_refl _, hs1, hR.next hbv, (HM1.out.trans hM).trans (ButM.of hbv), (HU.out.but HmU.out hM).next hbv, hVn, exC_ok.go (fun k hk => hbv.block k hk.2) (fun k hk => ⟨by have := hk.1; omega, by have := hk.2; have := hbv.size; omega, by have := hk.2; omega⟩) hC, HX1.out⟩)
 have HV := Lib.hid hV
 have HUV := Lib.hid hUV
 clear hR hM hC hN hbv hVn hUW hs1 hUV
 go_wp2_with fail
 clear hV
 go_loopw [8] (fun _ W => ∃ (x : Ex) (s1 : Pa.Ps) (nn : Nat) (A : Option Addr) (cap : Nat), Hid (RowS part ops m N U V w X x s1 nn A cap W)) (fun _ W => lenR m W)
 case atStart => exact ⟨_, _, _, _, _, HS1⟩
 case round =>
  obtain ⟨x, s2, nn, A, cap, HS⟩ := hrel
  have hOw : ∀ (j op : Nat), ops[j]? = some op → wr.cell? ⟨g, j, none⟩ = some (.int .i64 op) := fun j op hj => HS.out.but.cell (Nat.ne_of_gt hgm) (HO.out j op hj)
  have HT := Lib.hid (oper_any m s2 ops g c wr HS.out.rs HOps.out.1 hOw hgm hl)
  obtain ⟨hle2, hnz2, hz2⟩ := Pa.operP_le ops HS.out.rs.fin HOps.out.2
  have hlt := operP_lt ops s2 HOps.out.1
  obtain ⟨o, ho⟩ : ∃ o, (Pa.operP ops s2).1 = o := ⟨_, rfl⟩
  obtain ⟨s3, hs3⟩ : ∃ s3, (Pa.operP ops s2).2 = s3 := ⟨_, rfl⟩
  rw [ho, hs3] at HT hnz2 hz2
  rw [ho] at hlt
  rw [hs3] at hle2
  have HK := Lib.hid (show Pa.operP ops s2 = (o, s3) by rw [← ho, ← hs3])
  have HLE := Lib.hid hle2
  have HNZ := Lib.hid hnz2
  have HZ := Lib.hid hz2
  clear hOw hle2 hnz2 hz2 ho hs3
  go_wp2_with fail
  refine HT.out.mono ?_
  rintro e w1 ⟨rfl, hR, hM⟩
  have HR1 := Lib.hid hR
  have HB1 := Lib.hid (HS.out.but.trans hM)
  have HU1 := Lib.hid (HS.out.bu.but HmU.out hM)
  have hmV : m < V := Nat.lt_trans HmU.out HUV.out
  have HV1 := Lib.hid (HS.out.bv.but hmV hM)
  have HE1 := Lib.hid (show exC (Bv U V w1.heap.size) w1 x (xcell (x.hd, A, x.kids.length, cap)) from exC_ok.go (fun k hk => hM.block k hk.2.1 (by have := hk.1; have := HmU.out; omega)) (fun k hk => ⟨hk.1, Nat.lt_of_lt_of_le hk.2.1 hM.size, hk.2.2⟩) HS.out.ex)
  have HmV := Lib.hid hmV
  have hUltV := HUV.out
  have hUneV : U ≠ V := Nat.ne_of_lt hUltV
  have hVneU : V ≠ U := Nat.ne_of_gt hUltV
  clear hR hM hmV hUltV
  obtain ⟨hd, l⟩ := x
  simp only [Ex.hd, Ex.kids] at HV1 HE1
  obtain ⟨d0, d1, d2, d3, d4, d5, d6, d7⟩ := cl8 (w := w1) (HV1.out)
  have fd0 := (HV1.out).frozen 0
  have fd1 := (HV1.out).frozen 1
  have fd2 := (HV1.out).frozen 2
  have fd3 := (HV1.out).frozen 3
  have fd4 := (HV1.out).frozen 4
  have fd5 := (HV1.out).frozen 5
  have fd6 := (HV1.out).frozen 6
  have fd7 := (HV1.out).frozen 7
  by_cases hz : o = 0
  ·subst hz
   obtain rfl := HZ.out rfl
   have HXe := Lib.hid (show X = (.mk hd l, s3) by rw [← HS.out.eq, Pa.rowP_stop (by rw [HK.out])])
   obtain ⟨c0, c1, c2, c3, c4, c5, c6, c7⟩ := cl8 (w := w1) (HU1.out)
   have fc0 := (HU1.out).frozen 0
   have fc1 := (HU1.out).frozen 1
   have fc2 := (HU1.out).frozen 2
   have fc3 := (HU1.out).frozen 3
   have fc4 := (HU1.out).frozen 4
   have fc5 := (HU1.out).frozen 5
   have fc6 := (HU1.out).frozen 6
   have fc7 := (HU1.out).frozen 7
   go_wp2_with fail
   exact bodyPost_ret (v := XV hd A l.length cap) (by simp [results, Tryz.results60, go_sem, c0, c1, c2, c3, c4, c5, c6, c7]) rfl (by rw [HXe.out]; exact RuE.fin (c := xcell (hd, A, l.length, cap)) exC_ok HUl.out HmU.out HB1.out HR1.out (exC_ok.go (fun _ _ => rfl) (fun k hk => ⟨hk.1, hk.2.1⟩) HE1.out) (OnU.refl _ _).set.set.set.set.set.set.set.set)
  ·have hzI : ¬ ((o : Int) = 0) := by omega
   have har := isOne_ar hlt
   obtain ⟨nn, rfl⟩ : ∃ k, nn = k + 1 := ⟨nn - 1, by have := (HNZ.out hz).2; have := HS.out.len; omega⟩
   cases hone : Pa.isOne o with
   | true =>
    rw [if_pos hone] at har
    have HX2 := Lib.hid (show Pa.rowP part ops nn (Pa.mkOp o [.mk hd l]) s3 = X by rw [← HS.out.eq, rowP_one (by rw [HK.out]; exact hz) (by rw [HK.out]; exact hone), HK.out])
    have HLs := Lib.hid (show s3.ts.length + 1 ≤ s2.ts.length from (HNZ.out hz).2)
    have HAr := Lib.hid (ev_arity (n := (o : Int)) (w := w1) har)
    clear hone har hz
    go_wp2_with fail
    refine HAr.out.mono ?_
    rintro e w2 ⟨u, rfl, hb, rfl⟩
    have HR2 := Lib.hid (HR1.out.next hb)
    have HB2 := Lib.hid (HB1.out.trans (ButM.of hb))
    have HU2 := Lib.hid (HU1.out.next hb)
    have HV2 := Lib.hid (HV1.out.next hb)
    have HE2 := Lib.hid (show exC (Bv U V w2.heap.size) w2 (.mk hd l) (xcell (hd, A, l.length, cap)) from exC_ok.go (fun k hk => hb.block k hk.2.1) (fun k hk => ⟨hk.1, Nat.lt_of_lt_of_le hk.2.1 hb.size, hk.2.2⟩) HE1.out)
    clear hb d0 fd0 d1 fd1 d2 fd2 d3 fd3 d4 fd4 d5 fd5 d6 fd6 d7 fd7
    obtain ⟨d0, d1, d2, d3, d4, d5, d6, d7⟩ := cl8 (w := w2) (HV2.out)
    have fd0 := (HV2.out).frozen 0
    have fd1 := (HV2.out).frozen 1
    have fd2 := (HV2.out).frozen 2
    have fd3 := (HV2.out).frozen 3
    have fd4 := (HV2.out).frozen 4
    have fd5 := (HV2.out).frozen 5
    have fd6 := (HV2.out).frozen 6
    have fd7 := (HV2.out).frozen 7
    have hE3 := exC_one (B' := Bv U V (w2.heap.size + 1)) (hdO (o : Int)) HE2.out (fun k hk => ⟨hk.2.1, hk.1, Nat.lt_succ_of_lt hk.2.1, hk.2.2⟩) ⟨HU2.out.lt, Nat.lt_succ_self _, Nat.ne_of_gt HV2.out.lt⟩ 37
    have hbx := ba w2 (xbox hd A l.length cap)
    have HE3 := Lib.hid hE3
    have HBx := Lib.hid hbx
    have HR3 := Lib.hid (HR2.out.next hbx)
    have HU3 := Lib.hid (HU2.out.next hbx)
    have HV3 := Lib.hid (HV2.out.next hbx)
    go_wp2_with fail
    refine (pmade_any 3 o (some ⟨w2.heap.size, 0, none⟩) 1 1 _).mono ?_
    rintro e w3 ⟨rfl, hb⟩
    have HR4 := Lib.hid (HR3.out.next hb)
    have HB4 := Lib.hid (HB2.out.trans ((ButM.of hbx).trans (ButM.of hb)))
    have HU4 := Lib.hid (HU3.out.next hb)
    have HV4 := Lib.hid (HV3.out.next hb)
    have HE4 := Lib.hid (show exC (Bv U V w3.heap.size) w3 (Pa.mkOp o [.mk hd l]) (xcell (hdO (o : Int), some ⟨w2.heap.size, 0, none⟩, 1, 1)) from exC_ok.go (fun k hk => hb.block k (by rw [World.size_alloc]; exact hk.2.1)) (fun k hk => ⟨hk.1, by have := hk.2.1; have := hb.size; rw [World.size_alloc] at this; omega, hk.2.2⟩) hE3)
    clear hb hbx hE3 d0 fd0 d1 fd1 d2 fd2 d3 fd3 d4 fd4 d5 fd5 d6 fd6 d7 fd7
    obtain ⟨d0, d1, d2, d3, d4, d5, d6, d7⟩ := cl8 (w := w3) (HV4.out)
    have fd0 := (HV4.out).frozen 0
    have fd1 := (HV4.out).frozen 1
    have fd2 := (HV4.out).frozen 2
    have fd3 := (HV4.out).frozen 3
    have fd4 := (HV4.out).frozen 4
    have fd5 := (HV4.out).frozen 5
    have fd6 := (HV4.out).frozen 6
    have fd7 := (HV4.out).frozen 7
    have HSn := Lib.hid (RowS.step (part := part) (ops := ops) (N := N) (nn := nn) (n := 1) rfl (by have := HLs.out; have := HS.out.len; omega) (by have := HLs.out; have := HS.out.most; omega) HmU.out HUV.out (Nat.le_of_eq HUl.out) HR4.out HB4.out HU4.out HE4.out HX2.out ((OnU.refl V w3).set.set.set.set.set.set.set.set) (box8_set HV4.out _ _ _ _ _ _ _ _))
    go_wp2_with fail
    go_roundw
    case rel => exact ⟨_, _, _, _, _, HSn⟩
    case measure => rw [HSn.out.rs.len, HS.out.rs.len]; have := HLs.out; omega
   | false =>
    rw [if_neg (by simp [hone]), if_neg hz] at har
    have HLs := Lib.hid (show s3.ts.length + 1 ≤ s2.ts.length from (HNZ.out hz).2)
    have hs3N : s3.ts.length ≤ N := by have := HLs.out; have := HS.out.most; omega
    obtain ⟨⟨y, s4⟩, hy⟩ : ∃ q, part s3 = q := ⟨_, rfl⟩
    have HY := Lib.hid hy
    have HX2 := Lib.hid (show Pa.rowP part ops nn (Pa.mkOp o [.mk hd l, y]) s4 = X by rw [← HS.out.eq, rowP_two (by rw [HK.out]; exact hz) (by rw [HK.out]; exact hone), HK.out, HY.out])
    have HLe4 := Lib.hid (show s4.ts.length ≤ s3.ts.length by have := (Hle.out s3 HR1.out.fin).len; rw [HY.out] at this; exact this)
    have HAr := Lib.hid (ev_arity (n := (o : Int)) (w := w1) har)
    clear hone har hz hy
    go_wp2_with fail
    refine HAr.out.mono ?_
    rintro e w2 ⟨u, rfl, hb, rfl⟩
    have HR2 := Lib.hid (HR1.out.next hb)
    have HB2 := Lib.hid (HB1.out.trans (ButM.of hb))
    have HU2 := Lib.hid (HU1.out.next hb)
    have HV2 := Lib.hid (HV1.out.next hb)
    have HE2 := Lib.hid (show exC (Bv U V w2.heap.size) w2 (.mk hd l) (xcell (hd, A, l.length, cap)) from exC_ok.go (fun k hk => hb.block k hk.2.1) (fun k hk => ⟨hk.1, Nat.lt_of_lt_of_le hk.2.1 hb.size, hk.2.2⟩) HE1.out)
    have HPx := Lib.hid (show ∀ W, Below w2.heap.size w2 W → Calls Tryz.prog 165 #[.pointer (some ⟨m, 0, none⟩)] W (fun e w4 => ∃ A4 cap4, e = .returned (XV y.hd A4 y.kids.length cap4) ∧ Hid (PartS m N U V w (.mk hd l) hd A l.length cap y s4 A4 cap4 w4) ∧ V8 w4 V hd A l.length cap) from fun W hW => (HPp.out s3 W (HR2.out.next hW) hs3N).mono (fun e w4 hE => by
     rw [HY.out] at hE
     obtain ⟨A4, cap4, rfl, hC, hR, hM⟩ := RuE.ev hE
     have hV := (HV2.out.next hW).but HmV.out hM
     exact ⟨A4, cap4, rfl, Lib.hid ⟨hR, (HB2.out.trans (ButM.of hW)).trans hM, (HU2.out.next hW).but HmU.out hM, hV, exC_ok.go (fun k hk => (hM.block k (Nat.lt_of_lt_of_le hk.2.1 hW.size) (by have := hk.1; have := HmU.out; omega)).trans (hW.block k hk.2.1)) (fun k hk => ⟨hk.1, by have := hk.2.1; have := hW.size; have := hM.size; omega, hk.2.2⟩) HE2.out, exC_ok.go (fun _ _ => rfl) (fun k hk => ⟨by have := hk.1; have := hW.size; have := HU2.out.lt; omega, hk.2, by have := hk.1; have := hW.size; have := HV2.out.lt; omega⟩) hC⟩, v8_of hV⟩))
    have HMd := Lib.hid (show ∀ (A4 : Option Addr) (cap4 : Nat) (w4 W : World) (_ : Hid (PartS m N U V w (.mk hd l) hd A l.length cap y s4 A4 cap4 w4)) (_ : W.heap = (w4.alloc (.cells (xcell (hd, A, l.length, cap) ++ xcell (y.hd, A4, y.kids.length, cap4)).toArray 37)).heap) (_ : Below w4.heap.size w4 W),
      Calls Tryz.prog 112 #[.int .i64 3, .int .i64 o, .slice (some ⟨w4.heap.size, 0, none⟩) 2 2] W (fun e w5 => e = .returned (XV (hdO (o : Int)) (some ⟨w4.heap.size, 0, none⟩) 2 2) ∧ Hid (MadeS m U V w (Pa.mkOp o [.mk hd l, y]) (hdO (o : Int)) s4 (some ⟨w4.heap.size, 0, none⟩) 2 2 hd A l.length cap w5) ∧ V8 w5 V hd A l.length cap) from fun A4 cap4 w4 W hP hW hb => (pmade_any 3 o (some ⟨w4.heap.size, 0, none⟩) 2 2 W).mono (fun e w5 hE => by
     obtain ⟨rfl, hb5⟩ := hE
     exact ⟨rfl, made_two hP.out hW hb hb5⟩))
    clear hb hs3N d0 fd0 d1 fd1 d2 fd2 d3 fd3 d4 fd4 d5 fd5 d6 fd6 d7 fd7
    obtain ⟨d0, d1, d2, d3, d4, d5, d6, d7⟩ := cl8 (w := w2) (HV2.out)
    have fd0 := (HV2.out).frozen 0
    have fd1 := (HV2.out).frozen 1
    have fd2 := (HV2.out).frozen 2
    have fd3 := (HV2.out).frozen 3
    have fd4 := (HV2.out).frozen 4
    have fd5 := (HV2.out).frozen 5
    have fd6 := (HV2.out).frozen 6
    have fd7 := (HV2.out).frozen 7
    go_wp2_with fail
    go_region_with (first
     | (refine (HPx.out _ (by repeat (first | exact Below.refl _ _ | refine Below.drew ?_))).mono ?_; rintro e w4 ⟨A4, cap4, rfl, HP4, d0, d1, d2, d3, d4, d5, d6, d7, fd0, fd1, fd2, fd3, fd4, fd5, fd6, fd7⟩)
     | (refine (HMd.out _ _ _ _ HP4 rfl (by repeat (first | exact Below.refl _ _ | refine Below.drew ?_ | refine Below.alloc ?_ (Nat.le_refl _) _))).mono ?_; rintro e w5 ⟨rfl, HP5, d0, d1, d2, d3, d4, d5, d6, d7, fd0, fd1, fd2, fd3, fd4, fd5, fd6, fd7⟩))
    all_goals
     have HSn := Lib.hid (RowS.step (part := part) (ops := ops) (N := N) (nn := nn) (n := 2) rfl (by have := HLs.out; have := HS.out.len; have := HLe4.out; omega) (by have := HLs.out; have := HS.out.most; have := HLe4.out; omega) HmU.out HUV.out (Nat.le_of_eq HUl.out) HP5.out.rs HP5.out.but HP5.out.bu HP5.out.ez HX2.out ((OnU.refl V w5).set.set.set.set.set.set.set.set) (box8_set HP5.out.bv _ _ _ _ _ _ _ _))
     go_wp2_with fail
     go_roundw
     case rel => exact ⟨_, _, _, _, _, HSn⟩
     case measure => rw [HSn.out.rs.len, HS.out.rs.len]; have := HLs.out; have := HLe4.out; omega
end Go.Proofs.YtfjimoccliejdaaGreatDoor
end
section
namespace Go.Proofs.YtfjimoccliejdaaGreatDoor
open Go.RowKit Go.Shelf

theorem lev_or (F : Nat) (s : Pa.Ps) : Pa.lev (F + 1) 0 s = Pa.rowP (Pa.lev F 1) [1] (Pa.lev F 1 s).2.ts.length (Pa.lev F 1 s).1 (Pa.lev F 1 s).2 := by rw [Pa.lev, if_neg (by decide), if_neg (by decide), if_neg (by decide)]; rfl
set_option maxRecDepth 100000 in
set_option maxHeartbeats 4000000 in
theorem por_any (F m N : Nat) (HP : Ok 61 (Pa.lev F 1) m N) : Ok 29 (Pa.lev (F + 1) 0) m N := by
 intro s w h hN
 rw [lev_or]
 have HPp := Lib.hid HP
 clear HP
 have HB := Lib.hid (ba w (.cells #[.int .i64 0, .int .i64 0, .int .i64 0, .int .i64 0, .string ⟨#[]⟩, .string ⟨#[]⟩, .string ⟨#[]⟩, .slice none 0 0] 37))
 have HU := Lib.hid (show BxU _ _ #[.int .i64 0, .int .i64 0, .int .i64 0, .int .i64 0, .string ⟨#[]⟩, .string ⟨#[]⟩, .string ⟨#[]⟩, .slice none 0 0] 37 from (MapKept.heap_alloc w (.cells #[.int .i64 0, .int .i64 0, .int .i64 0, .int .i64 0, .string ⟨#[]⟩, .string ⟨#[]⟩, .string ⟨#[]⟩, .slice none 0 0] 37)).1)
 have H1 := Lib.hid (h.next HB.out)
 have hmU := h.lt
 have HFin := Lib.hid h.fin
 obtain ⟨U, hU⟩ : ∃ U, w.heap.size = U := ⟨_, rfl⟩
 have HUl := Lib.hid hU
 have HSz := Lib.hid (show (w.alloc (.cells #[.int .i64 0, .int .i64 0, .int .i64 0, .int .i64 0, .string ⟨#[]⟩, .string ⟨#[]⟩, .string ⟨#[]⟩, .slice none 0 0] 37)).heap.size = U + 1 by rw [World.size_alloc, hU])
 rw [hU] at HU hmU
 have HmU := Lib.hid hmU
 obtain ⟨X, hX⟩ : ∃ X, Pa.rowP (Pa.lev F 1) [1] (Pa.lev F 1 s).2.ts.length (Pa.lev F 1 s).1 (Pa.lev F 1 s).2 = X := ⟨_, rfl⟩
 rw [hX]
 have HX := Lib.hid hX
 clear h hX hmU
 go_enter Tryz.func29, Tryz.ntmps29
 go_wp2_with fail
 generalize w.alloc (.cells #[.int .i64 0, .int .i64 0, .int .i64 0, .int .i64 0, .string ⟨#[]⟩, .string ⟨#[]⟩, .string ⟨#[]⟩, .slice none 0 0] 37) = W1 at HB HU H1 HSz ⊢
 clear hU
 have HM1 := Lib.hid (show ButM m w W1 from ButM.of HB.out)
 have hbo := ba W1 (.cells #[.int .i64 1] 3)
 have hgo := (MapKept.heap_alloc W1 (.cells #[.int .i64 1] 3)).1
 rw [HSz.out] at hgo
 have HT := Lib.hid (row_and (Pa.lev F 1) (fun s hs => Pa.lev_le F 1 s hs) m N HPp.out [1] (by decide) (by decide) (by decide) s (U + 1) 1 _ (H1.out.next hbo) hN (by have := HmU.out; omega) (fun j op hj => by
  rw [World.cell?, hgo]
  match j, hj with
  | 0, hj => simp at hj; subst hj; rfl
  | j + 1, hj => simp at hj))
 rw [HX.out] at HT
 have HMo := Lib.hid (HM1.out.trans (ButM.of hbo))
 have HUo := Lib.hid (HU.out.next hbo)
 clear hbo hgo hN
 go_wp2_with fail
 refine (HT.out).mono ?_
 intro e v9 hE
 obtain ⟨A9, cap9, rfl, hC, hR, hM⟩ := RuE.ev hE
 clear hE
 have HM9 := Lib.hid (HMo.out.trans hM)
 have HU9 := Lib.hid (HUo.out.but HmU.out hM)
 have HR9 := Lib.hid hR
 have HC9 := Lib.hid (exC_ok.wide (a' := U + 1) (b' := v9.heap.size) (by rw [World.size_alloc, HSz.out]; omega) (Nat.le_refl _) hC)
 clear hC hR hM
 obtain ⟨c0, c1, c2, c3, c4, c5, c6, c7⟩ := cl8 (w := v9) (HU9.out)
 have fc0 := (HU9.out).frozen 0
 have fc1 := (HU9.out).frozen 1
 have fc2 := (HU9.out).frozen 2
 have fc3 := (HU9.out).frozen 3
 have fc4 := (HU9.out).frozen 4
 have fc5 := (HU9.out).frozen 5
 have fc6 := (HU9.out).frozen 6
 have fc7 := (HU9.out).frozen 7
 go_wp2_with fail
 exact bodyPost_ret (v := XV X.1.hd A9 X.1.kids.length cap9) (by simp [results, Tryz.results29, go_sem, c0, c1, c2, c3, c4, c5, c6, c7]) rfl (RuE.fin (c := xcell (X.1.hd, A9, X.1.kids.length, cap9)) exC_ok HUl.out HmU.out HM9.out HR9.out HC9.out (OnU.refl _ _).set.set.set.set.set.set.set.set)
theorem lev_and (F : Nat) (s : Pa.Ps) : Pa.lev (F + 1) 1 s = Pa.rowP (Pa.lev F 2) [2] (Pa.lev F 2 s).2.ts.length (Pa.lev F 2 s).1 (Pa.lev F 2 s).2 := by rw [Pa.lev, if_neg (by decide), if_neg (by decide), if_neg (by decide)]; rfl
set_option maxRecDepth 100000 in
set_option maxHeartbeats 4000000 in
theorem pand_any (F m N : Nat) (HP : Ok 113 (Pa.lev F 2) m N) : Ok 61 (Pa.lev (F + 1) 1) m N := by
 intro s w h hN
 rw [lev_and]
 have HPp := Lib.hid HP
 clear HP
 have HB := Lib.hid (ba w (.cells #[.int .i64 0, .int .i64 0, .int .i64 0, .int .i64 0, .string ⟨#[]⟩, .string ⟨#[]⟩, .string ⟨#[]⟩, .slice none 0 0] 37))
 have HU := Lib.hid (show BxU _ _ #[.int .i64 0, .int .i64 0, .int .i64 0, .int .i64 0, .string ⟨#[]⟩, .string ⟨#[]⟩, .string ⟨#[]⟩, .slice none 0 0] 37 from (MapKept.heap_alloc w (.cells #[.int .i64 0, .int .i64 0, .int .i64 0, .int .i64 0, .string ⟨#[]⟩, .string ⟨#[]⟩, .string ⟨#[]⟩, .slice none 0 0] 37)).1)
 have H1 := Lib.hid (h.next HB.out)
 have hmU := h.lt
 have HFin := Lib.hid h.fin
 obtain ⟨U, hU⟩ : ∃ U, w.heap.size = U := ⟨_, rfl⟩
 have HUl := Lib.hid hU
 have HSz := Lib.hid (show (w.alloc (.cells #[.int .i64 0, .int .i64 0, .int .i64 0, .int .i64 0, .string ⟨#[]⟩, .string ⟨#[]⟩, .string ⟨#[]⟩, .slice none 0 0] 37)).heap.size = U + 1 by rw [World.size_alloc, hU])
 rw [hU] at HU hmU
 have HmU := Lib.hid hmU
 obtain ⟨X, hX⟩ : ∃ X, Pa.rowP (Pa.lev F 2) [2] (Pa.lev F 2 s).2.ts.length (Pa.lev F 2 s).1 (Pa.lev F 2 s).2 = X := ⟨_, rfl⟩
 rw [hX]
 have HX := Lib.hid hX
 clear h hX hmU
 go_enter Tryz.func61, Tryz.ntmps61
 go_wp2_with fail
 generalize w.alloc (.cells #[.int .i64 0, .int .i64 0, .int .i64 0, .int .i64 0, .string ⟨#[]⟩, .string ⟨#[]⟩, .string ⟨#[]⟩, .slice none 0 0] 37) = W1 at HB HU H1 HSz ⊢
 clear hU
 have HM1 := Lib.hid (show ButM m w W1 from ButM.of HB.out)
 have hbo := ba W1 (.cells #[.int .i64 2] 3)
 have hgo := (MapKept.heap_alloc W1 (.cells #[.int .i64 2] 3)).1
 rw [HSz.out] at hgo
 have HT := Lib.hid (row_not (Pa.lev F 2) (fun s hs => Pa.lev_le F 2 s hs) m N HPp.out [2] (by decide) (by decide) (by decide) s (U + 1) 1 _ (H1.out.next hbo) hN (by have := HmU.out; omega) (fun j op hj => by
  rw [World.cell?, hgo]
  match j, hj with
  | 0, hj => simp at hj; subst hj; rfl
  | j + 1, hj => simp at hj))
 rw [HX.out] at HT
 have HMo := Lib.hid (HM1.out.trans (ButM.of hbo))
 have HUo := Lib.hid (HU.out.next hbo)
 clear hbo hgo hN
 go_wp2_with fail
 refine (HT.out).mono ?_
 intro e v9 hE
 obtain ⟨A9, cap9, rfl, hC, hR, hM⟩ := RuE.ev hE
 clear hE
 have HM9 := Lib.hid (HMo.out.trans hM)
 have HU9 := Lib.hid (HUo.out.but HmU.out hM)
 have HR9 := Lib.hid hR
 have HC9 := Lib.hid (exC_ok.wide (a' := U + 1) (b' := v9.heap.size) (by rw [World.size_alloc, HSz.out]; omega) (Nat.le_refl _) hC)
 clear hC hR hM
 obtain ⟨c0, c1, c2, c3, c4, c5, c6, c7⟩ := cl8 (w := v9) (HU9.out)
 have fc0 := (HU9.out).frozen 0
 have fc1 := (HU9.out).frozen 1
 have fc2 := (HU9.out).frozen 2
 have fc3 := (HU9.out).frozen 3
 have fc4 := (HU9.out).frozen 4
 have fc5 := (HU9.out).frozen 5
 have fc6 := (HU9.out).frozen 6
 have fc7 := (HU9.out).frozen 7
 go_wp2_with fail
 exact bodyPost_ret (v := XV X.1.hd A9 X.1.kids.length cap9) (by simp [results, Tryz.results61, go_sem, c0, c1, c2, c3, c4, c5, c6, c7]) rfl (RuE.fin (c := xcell (X.1.hd, A9, X.1.kids.length, cap9)) exC_ok HUl.out HmU.out HM9.out HR9.out HC9.out (OnU.refl _ _).set.set.set.set.set.set.set.set)
theorem lev_cmp (F : Nat) (s : Pa.Ps) : Pa.lev (F + 1) 3 s = Pa.rowP (Pa.lev F 4) [4, 5, 6, 7, 8, 9, 16] (Pa.lev F 4 s).2.ts.length (Pa.lev F 4 s).1 (Pa.lev F 4 s).2 := by rw [Pa.lev, if_neg (by decide), if_neg (by decide), if_neg (by decide)]; rfl
set_option maxRecDepth 100000 in
set_option maxHeartbeats 4000000 in
theorem pcmp_any (F m N : Nat) (HP : Ok 155 (Pa.lev F 4) m N) : Ok 139 (Pa.lev (F + 1) 3) m N := by
 intro s w h hN
 rw [lev_cmp]
 have HPp := Lib.hid HP
 clear HP
 have HB := Lib.hid (ba w (.cells #[.int .i64 0, .int .i64 0, .int .i64 0, .int .i64 0, .string ⟨#[]⟩, .string ⟨#[]⟩, .string ⟨#[]⟩, .slice none 0 0] 37))
 have HU := Lib.hid (show BxU _ _ #[.int .i64 0, .int .i64 0, .int .i64 0, .int .i64 0, .string ⟨#[]⟩, .string ⟨#[]⟩, .string ⟨#[]⟩, .slice none 0 0] 37 from (MapKept.heap_alloc w (.cells #[.int .i64 0, .int .i64 0, .int .i64 0, .int .i64 0, .string ⟨#[]⟩, .string ⟨#[]⟩, .string ⟨#[]⟩, .slice none 0 0] 37)).1)
 have H1 := Lib.hid (h.next HB.out)
 have hmU := h.lt
 have HFin := Lib.hid h.fin
 obtain ⟨U, hU⟩ : ∃ U, w.heap.size = U := ⟨_, rfl⟩
 have HUl := Lib.hid hU
 have HSz := Lib.hid (show (w.alloc (.cells #[.int .i64 0, .int .i64 0, .int .i64 0, .int .i64 0, .string ⟨#[]⟩, .string ⟨#[]⟩, .string ⟨#[]⟩, .slice none 0 0] 37)).heap.size = U + 1 by rw [World.size_alloc, hU])
 rw [hU] at HU hmU
 have HmU := Lib.hid hmU
 obtain ⟨X, hX⟩ : ∃ X, Pa.rowP (Pa.lev F 4) [4, 5, 6, 7, 8, 9, 16] (Pa.lev F 4 s).2.ts.length (Pa.lev F 4 s).1 (Pa.lev F 4 s).2 = X := ⟨_, rfl⟩
 rw [hX]
 have HX := Lib.hid hX
 clear h hX hmU
 go_enter Tryz.func139, Tryz.ntmps139
 go_wp2_with fail
 generalize w.alloc (.cells #[.int .i64 0, .int .i64 0, .int .i64 0, .int .i64 0, .string ⟨#[]⟩, .string ⟨#[]⟩, .string ⟨#[]⟩, .slice none 0 0] 37) = W1 at HB HU H1 HSz ⊢
 clear hU
 have HM1 := Lib.hid (show ButM m w W1 from ButM.of HB.out)
 have hbo := ba W1 (.cells #[.int .i64 4, .int .i64 5, .int .i64 6, .int .i64 7, .int .i64 8, .int .i64 9, .int .i64 16] 3)
 have hgo := (MapKept.heap_alloc W1 (.cells #[.int .i64 4, .int .i64 5, .int .i64 6, .int .i64 7, .int .i64 8, .int .i64 9, .int .i64 16] 3)).1
 rw [HSz.out] at hgo
 have HT := Lib.hid (row_sum (Pa.lev F 4) (fun s hs => Pa.lev_le F 4 s hs) m N HPp.out [4, 5, 6, 7, 8, 9, 16] (by decide) (by decide) (by decide) s (U + 1) 7 _ (H1.out.next hbo) hN (by have := HmU.out; omega) (fun j op hj => by
  rw [World.cell?, hgo]
  match j, hj with
  | 0, hj => simp at hj; subst hj; rfl
  | 1, hj => simp at hj; subst hj; rfl
  | 2, hj => simp at hj; subst hj; rfl
  | 3, hj => simp at hj; subst hj; rfl
  | 4, hj => simp at hj; subst hj; rfl
  | 5, hj => simp at hj; subst hj; rfl
  | 6, hj => simp at hj; subst hj; rfl
  | j + 7, hj => simp at hj))
 rw [HX.out] at HT
 have HMo := Lib.hid (HM1.out.trans (ButM.of hbo))
 have HUo := Lib.hid (HU.out.next hbo)
 clear hbo hgo hN
 go_wp2_with fail
 refine (HT.out).mono ?_
 intro e v9 hE
 obtain ⟨A9, cap9, rfl, hC, hR, hM⟩ := RuE.ev hE
 clear hE
 have HM9 := Lib.hid (HMo.out.trans hM)
 have HU9 := Lib.hid (HUo.out.but HmU.out hM)
 have HR9 := Lib.hid hR
 have HC9 := Lib.hid (exC_ok.wide (a' := U + 1) (b' := v9.heap.size) (by rw [World.size_alloc, HSz.out]; omega) (Nat.le_refl _) hC)
 clear hC hR hM
 obtain ⟨c0, c1, c2, c3, c4, c5, c6, c7⟩ := cl8 (w := v9) (HU9.out)
 have fc0 := (HU9.out).frozen 0
 have fc1 := (HU9.out).frozen 1
 have fc2 := (HU9.out).frozen 2
 have fc3 := (HU9.out).frozen 3
 have fc4 := (HU9.out).frozen 4
 have fc5 := (HU9.out).frozen 5
 have fc6 := (HU9.out).frozen 6
 have fc7 := (HU9.out).frozen 7
 go_wp2_with fail
 exact bodyPost_ret (v := XV X.1.hd A9 X.1.kids.length cap9) (by simp [results, Tryz.results139, go_sem, c0, c1, c2, c3, c4, c5, c6, c7]) rfl (RuE.fin (c := xcell (X.1.hd, A9, X.1.kids.length, cap9)) exC_ok HUl.out HmU.out HM9.out HR9.out HC9.out (OnU.refl _ _).set.set.set.set.set.set.set.set)
theorem lev_sum (F : Nat) (s : Pa.Ps) : Pa.lev (F + 1) 4 s = Pa.rowP (Pa.lev F 5) [10, 11] (Pa.lev F 5 s).2.ts.length (Pa.lev F 5 s).1 (Pa.lev F 5 s).2 := by rw [Pa.lev, if_neg (by decide), if_neg (by decide), if_neg (by decide)]; rfl
set_option maxRecDepth 100000 in
set_option maxHeartbeats 4000000 in
theorem psum_any (F m N : Nat) (HP : Ok 161 (Pa.lev F 5) m N) : Ok 155 (Pa.lev (F + 1) 4) m N := by
 intro s w h hN
 rw [lev_sum]
 have HPp := Lib.hid HP
 clear HP
 have HB := Lib.hid (ba w (.cells #[.int .i64 0, .int .i64 0, .int .i64 0, .int .i64 0, .string ⟨#[]⟩, .string ⟨#[]⟩, .string ⟨#[]⟩, .slice none 0 0] 37))
 have HU := Lib.hid (show BxU _ _ #[.int .i64 0, .int .i64 0, .int .i64 0, .int .i64 0, .string ⟨#[]⟩, .string ⟨#[]⟩, .string ⟨#[]⟩, .slice none 0 0] 37 from (MapKept.heap_alloc w (.cells #[.int .i64 0, .int .i64 0, .int .i64 0, .int .i64 0, .string ⟨#[]⟩, .string ⟨#[]⟩, .string ⟨#[]⟩, .slice none 0 0] 37)).1)
 have H1 := Lib.hid (h.next HB.out)
 have hmU := h.lt
 have HFin := Lib.hid h.fin
 obtain ⟨U, hU⟩ : ∃ U, w.heap.size = U := ⟨_, rfl⟩
 have HUl := Lib.hid hU
 have HSz := Lib.hid (show (w.alloc (.cells #[.int .i64 0, .int .i64 0, .int .i64 0, .int .i64 0, .string ⟨#[]⟩, .string ⟨#[]⟩, .string ⟨#[]⟩, .slice none 0 0] 37)).heap.size = U + 1 by rw [World.size_alloc, hU])
 rw [hU] at HU hmU
 have HmU := Lib.hid hmU
 obtain ⟨X, hX⟩ : ∃ X, Pa.rowP (Pa.lev F 5) [10, 11] (Pa.lev F 5 s).2.ts.length (Pa.lev F 5 s).1 (Pa.lev F 5 s).2 = X := ⟨_, rfl⟩
 rw [hX]
 have HX := Lib.hid hX
 clear h hX hmU
 go_enter Tryz.func155, Tryz.ntmps155
 go_wp2_with fail
 generalize w.alloc (.cells #[.int .i64 0, .int .i64 0, .int .i64 0, .int .i64 0, .string ⟨#[]⟩, .string ⟨#[]⟩, .string ⟨#[]⟩, .slice none 0 0] 37) = W1 at HB HU H1 HSz ⊢
 clear hU
 have HM1 := Lib.hid (show ButM m w W1 from ButM.of HB.out)
 have hbo := ba W1 (.cells #[.int .i64 10, .int .i64 11] 3)
 have hgo := (MapKept.heap_alloc W1 (.cells #[.int .i64 10, .int .i64 11] 3)).1
 rw [HSz.out] at hgo
 have HT := Lib.hid (row_prod (Pa.lev F 5) (fun s hs => Pa.lev_le F 5 s hs) m N HPp.out [10, 11] (by decide) (by decide) (by decide) s (U + 1) 2 _ (H1.out.next hbo) hN (by have := HmU.out; omega) (fun j op hj => by
  rw [World.cell?, hgo]
  match j, hj with
  | 0, hj => simp at hj; subst hj; rfl
  | 1, hj => simp at hj; subst hj; rfl
  | j + 2, hj => simp at hj))
 rw [HX.out] at HT
 have HMo := Lib.hid (HM1.out.trans (ButM.of hbo))
 have HUo := Lib.hid (HU.out.next hbo)
 clear hbo hgo hN
 go_wp2_with fail
 refine (HT.out).mono ?_
 intro e v9 hE
 obtain ⟨A9, cap9, rfl, hC, hR, hM⟩ := RuE.ev hE
 clear hE
 have HM9 := Lib.hid (HMo.out.trans hM)
 have HU9 := Lib.hid (HUo.out.but HmU.out hM)
 have HR9 := Lib.hid hR
 have HC9 := Lib.hid (exC_ok.wide (a' := U + 1) (b' := v9.heap.size) (by rw [World.size_alloc, HSz.out]; omega) (Nat.le_refl _) hC)
 clear hC hR hM
 obtain ⟨c0, c1, c2, c3, c4, c5, c6, c7⟩ := cl8 (w := v9) (HU9.out)
 have fc0 := (HU9.out).frozen 0
 have fc1 := (HU9.out).frozen 1
 have fc2 := (HU9.out).frozen 2
 have fc3 := (HU9.out).frozen 3
 have fc4 := (HU9.out).frozen 4
 have fc5 := (HU9.out).frozen 5
 have fc6 := (HU9.out).frozen 6
 have fc7 := (HU9.out).frozen 7
 go_wp2_with fail
 exact bodyPost_ret (v := XV X.1.hd A9 X.1.kids.length cap9) (by simp [results, Tryz.results155, go_sem, c0, c1, c2, c3, c4, c5, c6, c7]) rfl (RuE.fin (c := xcell (X.1.hd, A9, X.1.kids.length, cap9)) exC_ok HUl.out HmU.out HM9.out HR9.out HC9.out (OnU.refl _ _).set.set.set.set.set.set.set.set)
theorem lev_prod (F : Nat) (s : Pa.Ps) : Pa.lev (F + 1) 5 s = Pa.rowP (Pa.lev F 6) [12, 13, 14] (Pa.lev F 6 s).2.ts.length (Pa.lev F 6 s).1 (Pa.lev F 6 s).2 := by rw [Pa.lev, if_neg (by decide), if_neg (by decide), if_neg (by decide)]; rfl
set_option maxRecDepth 100000 in
set_option maxHeartbeats 4000000 in
theorem pprod_any (F m N : Nat) (HP : Ok 165 (Pa.lev F 6) m N) : Ok 161 (Pa.lev (F + 1) 5) m N := by
 intro s w h hN
 rw [lev_prod]
 have HPp := Lib.hid HP
 clear HP
 have HB := Lib.hid (ba w (.cells #[.int .i64 0, .int .i64 0, .int .i64 0, .int .i64 0, .string ⟨#[]⟩, .string ⟨#[]⟩, .string ⟨#[]⟩, .slice none 0 0] 37))
 have HU := Lib.hid (show BxU _ _ #[.int .i64 0, .int .i64 0, .int .i64 0, .int .i64 0, .string ⟨#[]⟩, .string ⟨#[]⟩, .string ⟨#[]⟩, .slice none 0 0] 37 from (MapKept.heap_alloc w (.cells #[.int .i64 0, .int .i64 0, .int .i64 0, .int .i64 0, .string ⟨#[]⟩, .string ⟨#[]⟩, .string ⟨#[]⟩, .slice none 0 0] 37)).1)
 have H1 := Lib.hid (h.next HB.out)
 have hmU := h.lt
 have HFin := Lib.hid h.fin
 obtain ⟨U, hU⟩ : ∃ U, w.heap.size = U := ⟨_, rfl⟩
 have HUl := Lib.hid hU
 have HSz := Lib.hid (show (w.alloc (.cells #[.int .i64 0, .int .i64 0, .int .i64 0, .int .i64 0, .string ⟨#[]⟩, .string ⟨#[]⟩, .string ⟨#[]⟩, .slice none 0 0] 37)).heap.size = U + 1 by rw [World.size_alloc, hU])
 rw [hU] at HU hmU
 have HmU := Lib.hid hmU
 obtain ⟨X, hX⟩ : ∃ X, Pa.rowP (Pa.lev F 6) [12, 13, 14] (Pa.lev F 6 s).2.ts.length (Pa.lev F 6 s).1 (Pa.lev F 6 s).2 = X := ⟨_, rfl⟩
 rw [hX]
 have HX := Lib.hid hX
 clear h hX hmU
 go_enter Tryz.func161, Tryz.ntmps161
 go_wp2_with fail
 generalize w.alloc (.cells #[.int .i64 0, .int .i64 0, .int .i64 0, .int .i64 0, .string ⟨#[]⟩, .string ⟨#[]⟩, .string ⟨#[]⟩, .slice none 0 0] 37) = W1 at HB HU H1 HSz ⊢
 clear hU
 have HM1 := Lib.hid (show ButM m w W1 from ButM.of HB.out)
 have hbo := ba W1 (.cells #[.int .i64 12, .int .i64 13, .int .i64 14] 3)
 have hgo := (MapKept.heap_alloc W1 (.cells #[.int .i64 12, .int .i64 13, .int .i64 14] 3)).1
 rw [HSz.out] at hgo
 have HT := Lib.hid (row_unary (Pa.lev F 6) (fun s hs => Pa.lev_le F 6 s hs) m N HPp.out [12, 13, 14] (by decide) (by decide) (by decide) s (U + 1) 3 _ (H1.out.next hbo) hN (by have := HmU.out; omega) (fun j op hj => by
  rw [World.cell?, hgo]
  match j, hj with
  | 0, hj => simp at hj; subst hj; rfl
  | 1, hj => simp at hj; subst hj; rfl
  | 2, hj => simp at hj; subst hj; rfl
  | j + 3, hj => simp at hj))
 rw [HX.out] at HT
 have HMo := Lib.hid (HM1.out.trans (ButM.of hbo))
 have HUo := Lib.hid (HU.out.next hbo)
 clear hbo hgo hN
 go_wp2_with fail
 refine (HT.out).mono ?_
 intro e v9 hE
 obtain ⟨A9, cap9, rfl, hC, hR, hM⟩ := RuE.ev hE
 clear hE
 have HM9 := Lib.hid (HMo.out.trans hM)
 have HU9 := Lib.hid (HUo.out.but HmU.out hM)
 have HR9 := Lib.hid hR
 have HC9 := Lib.hid (exC_ok.wide (a' := U + 1) (b' := v9.heap.size) (by rw [World.size_alloc, HSz.out]; omega) (Nat.le_refl _) hC)
 clear hC hR hM
 obtain ⟨c0, c1, c2, c3, c4, c5, c6, c7⟩ := cl8 (w := v9) (HU9.out)
 have fc0 := (HU9.out).frozen 0
 have fc1 := (HU9.out).frozen 1
 have fc2 := (HU9.out).frozen 2
 have fc3 := (HU9.out).frozen 3
 have fc4 := (HU9.out).frozen 4
 have fc5 := (HU9.out).frozen 5
 have fc6 := (HU9.out).frozen 6
 have fc7 := (HU9.out).frozen 7
 go_wp2_with fail
 exact bodyPost_ret (v := XV X.1.hd A9 X.1.kids.length cap9) (by simp [results, Tryz.results161, go_sem, c0, c1, c2, c3, c4, c5, c6, c7]) rfl (RuE.fin (c := xcell (X.1.hd, A9, X.1.kids.length, cap9)) exC_ok HUl.out HmU.out HM9.out HR9.out HC9.out (OnU.refl _ _).set.set.set.set.set.set.set.set)
theorem lev_not (F : Nat) (s : Pa.Ps) : Pa.lev (F + 1) 2 s = if (Pa.takeW Pa.wNOT s).1 then (Pa.mkOp 3 [(Pa.lev F 2 (Pa.takeW Pa.wNOT s).2).1], (Pa.lev F 2 (Pa.takeW Pa.wNOT s).2).2) else Pa.lev F 3 s := by rw [Pa.lev]; rw [if_pos rfl]
set_option maxRecDepth 100000 in
set_option maxHeartbeats 4000000 in
theorem pnot_any (F m N : Nat) (HN : Ok 113 (Pa.lev F 2) m (N - 1)) (HP : Ok 139 (Pa.lev F 3) m N) : Ok 113 (Pa.lev (F + 1) 2) m N := by
 intro s w h hN
 have HPp := Lib.hid HP
 have HNn := Lib.hid HN
 clear HP HN
 have HB := Lib.hid (ba w (.cells #[.int .i64 0, .int .i64 0, .int .i64 0, .int .i64 0, .string ⟨#[]⟩, .string ⟨#[]⟩, .string ⟨#[]⟩, .slice none 0 0] 37))
 have HU := Lib.hid (show BxU _ _ #[.int .i64 0, .int .i64 0, .int .i64 0, .int .i64 0, .string ⟨#[]⟩, .string ⟨#[]⟩, .string ⟨#[]⟩, .slice none 0 0] 37 from (MapKept.heap_alloc w (.cells #[.int .i64 0, .int .i64 0, .int .i64 0, .int .i64 0, .string ⟨#[]⟩, .string ⟨#[]⟩, .string ⟨#[]⟩, .slice none 0 0] 37)).1)
 have H1 := Lib.hid (h.next HB.out)
 have hmU := h.lt
 have HFin := Lib.hid h.fin
 obtain ⟨U, hU⟩ : ∃ U, w.heap.size = U := ⟨_, rfl⟩
 have HUl := Lib.hid hU
 have HSz := Lib.hid (show (w.alloc (.cells #[.int .i64 0, .int .i64 0, .int .i64 0, .int .i64 0, .string ⟨#[]⟩, .string ⟨#[]⟩, .string ⟨#[]⟩, .slice none 0 0] 37)).heap.size = U + 1 by rw [World.size_alloc, hU])
 rw [hU] at HU hmU
 have HmU := Lib.hid hmU
 obtain ⟨X, hX⟩ : ∃ X, Pa.lev (F + 1) 2 s = X := ⟨_, rfl⟩
 rw [hX]
 have HX := Lib.hid hX
 clear h hX hmU
 go_enter Tryz.func113, Tryz.ntmps113
 go_wp2_with fail
 generalize w.alloc (.cells #[.int .i64 0, .int .i64 0, .int .i64 0, .int .i64 0, .string ⟨#[]⟩, .string ⟨#[]⟩, .string ⟨#[]⟩, .slice none 0 0] 37) = W1 at HB HU H1 HSz ⊢
 clear hU
 have HM1 := Lib.hid (show ButM m w W1 from ButM.of HB.out)
 have HT1 := Lib.hid (take_any m s Pa.wNOT W1 H1.out)
 obtain ⟨t1, ht⟩ : ∃ z, (Pa.takeW Pa.wNOT s).1 = z := ⟨_, rfl⟩
 obtain ⟨s1, hs⟩ : ∃ z, (Pa.takeW Pa.wNOT s).2 = z := ⟨_, rfl⟩
 have hno1 := (Pa.takeW_le Pa.wNOT H1.out.fin).2.2
 rw [ht, hs] at HT1 hno1
 have HK1 := Lib.hid (show Pa.takeW Pa.wNOT s = (t1, s1) by rw [← ht, ← hs])
 clear ht hs
 have hlen1 := (Pa.takeW_le Pa.wNOT H1.out.fin).2.1
 rw [HK1.out] at hlen1
 cases t1 with
 | true =>
  have HLn := Lib.hid (show s1.ts.length ≤ N - 1 by have := (hlen1 rfl).2.2; simp only at this; omega)
  clear hlen1 hN
  clear hno1
  go_wp2_with fail
  refine HT1.out.mono ?_
  rintro e v1 ⟨rfl, hR, hM⟩
  have HMn1 := Lib.hid (HM1.out.trans hM)
  have HUn1 := Lib.hid (HU.out.but HmU.out hM)
  have HRn1 := Lib.hid hR
  clear hR hM
  have HT2 := Lib.hid (HNn.out s1 v1 HRn1.out HLn.out)
  obtain ⟨⟨x2, s2⟩, hs2⟩ : ∃ q, Pa.lev F 2 s1 = q := ⟨_, rfl⟩
  rw [hs2] at HT2
  have HK2 := Lib.hid hs2
  clear hs2
  simp only at HT2
  go_wp2_with fail
  refine HT2.out.mono ?_
  intro e v2 hE
  obtain ⟨A2, cap2, rfl, hC, hR, hM⟩ := RuE.ev hE
  clear hE
  have HUs := Lib.hid (show U + 1 ≤ v1.heap.size from HUn1.out.lt)
  have HMn2 := Lib.hid (HMn1.out.trans hM)
  have HUn2 := Lib.hid (HUn1.out.but HmU.out hM)
  have HRn2 := Lib.hid hR
  have HC := Lib.hid (exC_ok.wide (a' := U + 1) (b' := v2.heap.size) HUs.out (Nat.le_refl _) hC)
  clear hC hR hM
  obtain ⟨hd2, l2⟩ := x2
  simp only [Ex.hd, Ex.kids] at HC ⊢
  go_wp2_with fail
  have hbx := ba v2 (xbox hd2 A2 l2.length cap2)
  have HCm := Lib.hid (exC_one (B' := Bt (U + 1) (v2.heap.size + 1)) (hdO 3) HC.out (fun k hk => ⟨hk.2, hk.1, Nat.lt_succ_of_lt hk.2⟩) ⟨HUn2.out.lt, Nat.lt_succ_self _⟩ 37)
  have HMx := Lib.hid (HMn2.out.trans (ButM.of hbx))
  have HRx := Lib.hid (HRn2.out.next hbx)
  have HUx := Lib.hid (HUn2.out.next hbx)
  clear hbx
  refine (pmade_any 3 3 (some ⟨v2.heap.size, 0, none⟩) 1 1 _).mono ?_
  rintro e v9 ⟨rfl, hb⟩
  have HM9 := Lib.hid (HMx.out.trans (ButM.of hb))
  have HU9 := Lib.hid (HUx.out.next hb)
  have HR9 := Lib.hid (HRx.out.next hb)
  have HC9 := Lib.hid (show exC (Bt (U + 1) v9.heap.size) v9 (Pa.mkOp 3 [.mk hd2 l2]) (xcell (hdO 3, some ⟨v2.heap.size, 0, none⟩, 1, 1)) from exC_ok.wide (Nat.le_refl _) (by have := hb.size; rw [World.size_alloc] at this; omega) (exC_ok.keep hb (by rw [World.size_alloc]; exact Nat.le_refl _) HCm.out))
  have HXe := Lib.hid (show X = (Pa.mkOp 3 [.mk hd2 l2], s2) by rw [← HX.out, lev_not, HK1.out, if_pos rfl, HK2.out])
  clear hb
  obtain ⟨c0, c1, c2, c3, c4, c5, c6, c7⟩ := cl8 (w := v9) (HU9.out)
  have fc0 := (HU9.out).frozen 0
  have fc1 := (HU9.out).frozen 1
  have fc2 := (HU9.out).frozen 2
  have fc3 := (HU9.out).frozen 3
  have fc4 := (HU9.out).frozen 4
  have fc5 := (HU9.out).frozen 5
  have fc6 := (HU9.out).frozen 6
  have fc7 := (HU9.out).frozen 7
  go_wp2_with fail
  exact bodyPost_ret (v := XV (hdO 3) (some ⟨v2.heap.size, 0, none⟩) 1 1) (by simp [results, Tryz.results113, go_sem, c0, c1, c2, c3, c4, c5, c6, c7]) rfl (by rw [HXe.out]; exact RuE.fin (c := xcell ((hdO 3), (some ⟨v2.heap.size, 0, none⟩), 1, 1)) exC_ok HUl.out HmU.out HM9.out HR9.out HC9.out (OnU.refl _ _).set.set.set.set.set.set.set.set)
 | false =>
  have HXe := Lib.hid (show Pa.lev F 3 s1 = X by rw [← HX.out, lev_not, HK1.out, if_neg (by simp), hno1 rfl])
  clear hlen1
  obtain rfl := hno1 rfl
  clear hno1
  go_wp2_with fail
  refine HT1.out.mono ?_
  rintro e v1 ⟨rfl, hR, hM⟩
  have HMn1 := Lib.hid (HM1.out.trans hM)
  have HUn1 := Lib.hid (HU.out.but HmU.out hM)
  have HRn1 := Lib.hid hR
  clear hR hM
  have HT := Lib.hid (HPp.out s1 v1 HRn1.out hN)
  rw [HXe.out] at HT
  have HUs := Lib.hid (show U + 1 ≤ v1.heap.size from HUn1.out.lt)
  clear hN
  go_wp2_with fail
  refine (HT.out).mono ?_
  intro e v9 hE
  obtain ⟨A9, cap9, rfl, hC, hR, hM⟩ := RuE.ev hE
  clear hE
  have HM9 := Lib.hid (HMn1.out.trans hM)
  have HU9 := Lib.hid (HUn1.out.but HmU.out hM)
  have HR9 := Lib.hid hR
  have HC9 := Lib.hid (exC_ok.wide (a' := U + 1) (b' := v9.heap.size) HUs.out (Nat.le_refl _) hC)
  clear hC hR hM
  obtain ⟨c0, c1, c2, c3, c4, c5, c6, c7⟩ := cl8 (w := v9) (HU9.out)
  have fc0 := (HU9.out).frozen 0
  have fc1 := (HU9.out).frozen 1
  have fc2 := (HU9.out).frozen 2
  have fc3 := (HU9.out).frozen 3
  have fc4 := (HU9.out).frozen 4
  have fc5 := (HU9.out).frozen 5
  have fc6 := (HU9.out).frozen 6
  have fc7 := (HU9.out).frozen 7
  go_wp2_with fail
  exact bodyPost_ret (v := XV X.1.hd A9 X.1.kids.length cap9) (by simp [results, Tryz.results113, go_sem, c0, c1, c2, c3, c4, c5, c6, c7]) rfl (RuE.fin (c := xcell (X.1.hd, A9, X.1.kids.length, cap9)) exC_ok HUl.out HmU.out HM9.out HR9.out HC9.out (OnU.refl _ _).set.set.set.set.set.set.set.set)
theorem lev_unary (F : Nat) (s : Pa.Ps) : Pa.lev (F + 1) 6 s = if (Pa.takeW [45] s).1 then (Pa.mkOp 15 [(Pa.lev F 6 (Pa.takeW [45] s).2).1], (Pa.lev F 6 (Pa.takeW [45] s).2).2) else Pa.lev F 7 s := by rw [Pa.lev]; rw [if_neg (by decide), if_pos rfl]
set_option maxRecDepth 100000 in
set_option maxHeartbeats 4000000 in
theorem punary_any (F m N : Nat) (HN : Ok 165 (Pa.lev F 6) m (N - 1)) (HP : Ok 167 (Pa.lev F 7) m N) : Ok 165 (Pa.lev (F + 1) 6) m N := by
 intro s w h hN
 have HPp := Lib.hid HP
 have HNn := Lib.hid HN
 clear HP HN
 have HB := Lib.hid (ba w (.cells #[.int .i64 0, .int .i64 0, .int .i64 0, .int .i64 0, .string ⟨#[]⟩, .string ⟨#[]⟩, .string ⟨#[]⟩, .slice none 0 0] 37))
 have HU := Lib.hid (show BxU _ _ #[.int .i64 0, .int .i64 0, .int .i64 0, .int .i64 0, .string ⟨#[]⟩, .string ⟨#[]⟩, .string ⟨#[]⟩, .slice none 0 0] 37 from (MapKept.heap_alloc w (.cells #[.int .i64 0, .int .i64 0, .int .i64 0, .int .i64 0, .string ⟨#[]⟩, .string ⟨#[]⟩, .string ⟨#[]⟩, .slice none 0 0] 37)).1)
 have H1 := Lib.hid (h.next HB.out)
 have hmU := h.lt
 have HFin := Lib.hid h.fin
 obtain ⟨U, hU⟩ : ∃ U, w.heap.size = U := ⟨_, rfl⟩
 have HUl := Lib.hid hU
 have HSz := Lib.hid (show (w.alloc (.cells #[.int .i64 0, .int .i64 0, .int .i64 0, .int .i64 0, .string ⟨#[]⟩, .string ⟨#[]⟩, .string ⟨#[]⟩, .slice none 0 0] 37)).heap.size = U + 1 by rw [World.size_alloc, hU])
 rw [hU] at HU hmU
 have HmU := Lib.hid hmU
 obtain ⟨X, hX⟩ : ∃ X, Pa.lev (F + 1) 6 s = X := ⟨_, rfl⟩
 rw [hX]
 have HX := Lib.hid hX
 clear h hX hmU
 go_enter Tryz.func165, Tryz.ntmps165
 go_wp2_with fail
 generalize w.alloc (.cells #[.int .i64 0, .int .i64 0, .int .i64 0, .int .i64 0, .string ⟨#[]⟩, .string ⟨#[]⟩, .string ⟨#[]⟩, .slice none 0 0] 37) = W1 at HB HU H1 HSz ⊢
 clear hU
 have HM1 := Lib.hid (show ButM m w W1 from ButM.of HB.out)
 have HT1 := Lib.hid (take_any m s [45] W1 H1.out)
 obtain ⟨t1, ht⟩ : ∃ z, (Pa.takeW [45] s).1 = z := ⟨_, rfl⟩
 obtain ⟨s1, hs⟩ : ∃ z, (Pa.takeW [45] s).2 = z := ⟨_, rfl⟩
 have hno1 := (Pa.takeW_le [45] H1.out.fin).2.2
 rw [ht, hs] at HT1 hno1
 have HK1 := Lib.hid (show Pa.takeW [45] s = (t1, s1) by rw [← ht, ← hs])
 clear ht hs
 have hlen1 := (Pa.takeW_le [45] H1.out.fin).2.1
 rw [HK1.out] at hlen1
 cases t1 with
 | true =>
  have HLn := Lib.hid (show s1.ts.length ≤ N - 1 by have := (hlen1 rfl).2.2; simp only at this; omega)
  clear hlen1 hN
  clear hno1
  go_wp2_with fail
  refine HT1.out.mono ?_
  rintro e v1 ⟨rfl, hR, hM⟩
  have HMn1 := Lib.hid (HM1.out.trans hM)
  have HUn1 := Lib.hid (HU.out.but HmU.out hM)
  have HRn1 := Lib.hid hR
  clear hR hM
  have HT2 := Lib.hid (HNn.out s1 v1 HRn1.out HLn.out)
  obtain ⟨⟨x2, s2⟩, hs2⟩ : ∃ q, Pa.lev F 6 s1 = q := ⟨_, rfl⟩
  rw [hs2] at HT2
  have HK2 := Lib.hid hs2
  clear hs2
  simp only at HT2
  go_wp2_with fail
  refine HT2.out.mono ?_
  intro e v2 hE
  obtain ⟨A2, cap2, rfl, hC, hR, hM⟩ := RuE.ev hE
  clear hE
  have HUs := Lib.hid (show U + 1 ≤ v1.heap.size from HUn1.out.lt)
  have HMn2 := Lib.hid (HMn1.out.trans hM)
  have HUn2 := Lib.hid (HUn1.out.but HmU.out hM)
  have HRn2 := Lib.hid hR
  have HC := Lib.hid (exC_ok.wide (a' := U + 1) (b' := v2.heap.size) HUs.out (Nat.le_refl _) hC)
  clear hC hR hM
  obtain ⟨hd2, l2⟩ := x2
  simp only [Ex.hd, Ex.kids] at HC ⊢
  go_wp2_with fail
  have hbx := ba v2 (xbox hd2 A2 l2.length cap2)
  have HCm := Lib.hid (exC_one (B' := Bt (U + 1) (v2.heap.size + 1)) (hdO 15) HC.out (fun k hk => ⟨hk.2, hk.1, Nat.lt_succ_of_lt hk.2⟩) ⟨HUn2.out.lt, Nat.lt_succ_self _⟩ 37)
  have HMx := Lib.hid (HMn2.out.trans (ButM.of hbx))
  have HRx := Lib.hid (HRn2.out.next hbx)
  have HUx := Lib.hid (HUn2.out.next hbx)
  clear hbx
  refine (pmade_any 3 15 (some ⟨v2.heap.size, 0, none⟩) 1 1 _).mono ?_
  rintro e v9 ⟨rfl, hb⟩
  have HM9 := Lib.hid (HMx.out.trans (ButM.of hb))
  have HU9 := Lib.hid (HUx.out.next hb)
  have HR9 := Lib.hid (HRx.out.next hb)
  have HC9 := Lib.hid (show exC (Bt (U + 1) v9.heap.size) v9 (Pa.mkOp 15 [.mk hd2 l2]) (xcell (hdO 15, some ⟨v2.heap.size, 0, none⟩, 1, 1)) from exC_ok.wide (Nat.le_refl _) (by have := hb.size; rw [World.size_alloc] at this; omega) (exC_ok.keep hb (by rw [World.size_alloc]; exact Nat.le_refl _) HCm.out))
  have HXe := Lib.hid (show X = (Pa.mkOp 15 [.mk hd2 l2], s2) by rw [← HX.out, lev_unary, HK1.out, if_pos rfl, HK2.out])
  clear hb
  obtain ⟨c0, c1, c2, c3, c4, c5, c6, c7⟩ := cl8 (w := v9) (HU9.out)
  have fc0 := (HU9.out).frozen 0
  have fc1 := (HU9.out).frozen 1
  have fc2 := (HU9.out).frozen 2
  have fc3 := (HU9.out).frozen 3
  have fc4 := (HU9.out).frozen 4
  have fc5 := (HU9.out).frozen 5
  have fc6 := (HU9.out).frozen 6
  have fc7 := (HU9.out).frozen 7
  go_wp2_with fail
  exact bodyPost_ret (v := XV (hdO 15) (some ⟨v2.heap.size, 0, none⟩) 1 1) (by simp [results, Tryz.results165, go_sem, c0, c1, c2, c3, c4, c5, c6, c7]) rfl (by rw [HXe.out]; exact RuE.fin (c := xcell ((hdO 15), (some ⟨v2.heap.size, 0, none⟩), 1, 1)) exC_ok HUl.out HmU.out HM9.out HR9.out HC9.out (OnU.refl _ _).set.set.set.set.set.set.set.set)
 | false =>
  have HXe := Lib.hid (show Pa.lev F 7 s1 = X by rw [← HX.out, lev_unary, HK1.out, if_neg (by simp), hno1 rfl])
  clear hlen1
  obtain rfl := hno1 rfl
  clear hno1
  go_wp2_with fail
  refine HT1.out.mono ?_
  rintro e v1 ⟨rfl, hR, hM⟩
  have HMn1 := Lib.hid (HM1.out.trans hM)
  have HUn1 := Lib.hid (HU.out.but HmU.out hM)
  have HRn1 := Lib.hid hR
  clear hR hM
  have HT := Lib.hid (HPp.out s1 v1 HRn1.out hN)
  rw [HXe.out] at HT
  have HUs := Lib.hid (show U + 1 ≤ v1.heap.size from HUn1.out.lt)
  clear hN
  go_wp2_with fail
  refine (HT.out).mono ?_
  intro e v9 hE
  obtain ⟨A9, cap9, rfl, hC, hR, hM⟩ := RuE.ev hE
  clear hE
  have HM9 := Lib.hid (HMn1.out.trans hM)
  have HU9 := Lib.hid (HUn1.out.but HmU.out hM)
  have HR9 := Lib.hid hR
  have HC9 := Lib.hid (exC_ok.wide (a' := U + 1) (b' := v9.heap.size) HUs.out (Nat.le_refl _) hC)
  clear hC hR hM
  obtain ⟨c0, c1, c2, c3, c4, c5, c6, c7⟩ := cl8 (w := v9) (HU9.out)
  have fc0 := (HU9.out).frozen 0
  have fc1 := (HU9.out).frozen 1
  have fc2 := (HU9.out).frozen 2
  have fc3 := (HU9.out).frozen 3
  have fc4 := (HU9.out).frozen 4
  have fc5 := (HU9.out).frozen 5
  have fc6 := (HU9.out).frozen 6
  have fc7 := (HU9.out).frozen 7
  go_wp2_with fail
  exact bodyPost_ret (v := XV X.1.hd A9 X.1.kids.length cap9) (by simp [results, Tryz.results165, go_sem, c0, c1, c2, c3, c4, c5, c6, c7]) rfl (RuE.fin (c := xcell (X.1.hd, A9, X.1.kids.length, cap9)) exC_ok HUl.out HmU.out HM9.out HR9.out HC9.out (OnU.refl _ _).set.set.set.set.set.set.set.set)
end Go.Proofs.YtfjimoccliejdaaGreatDoor
end
section
namespace Go.Proofs.YtfjimoccliejdaaGreatDoor
open Go.RowKit Go.Shelf

structure RowQ (part : Pa.Ps → Ex × Pa.Ps) (ops : List Nat) (m N U V : Nat) (w : World) (X : Ex × Pa.Ps) (x y : Ex) (s1 : Pa.Ps) (nn : Nat) (A : Option Addr) (cap : Nat) (W : World) : Prop where
 len : s1.ts.length ≤ nn
 most : s1.ts.length ≤ N
 rs : RP m W s1
 but : ButM m w W
 bu : BxU W U cs8 37
 bv : BxU W V #[.int .i64 y.hd.k, .int .i64 y.hd.n, .int .i64 y.hd.vk, .int .i64 y.hd.vn, .string y.hd.vs, .string y.hd.tab, .string y.hd.col, .slice A y.kids.length cap] 37
 ex : exC (Bv U V W.heap.size) W y (xcell (y.hd, A, y.kids.length, cap))
 ok : s1.bad = false → y = x
 eq : Pa.rowP part ops nn x s1 = X
theorem RowQ.step {part : Pa.Ps → Ex × Pa.Ps} {ops : List Nat} {m N U V : Nat} {w : World} {X : Ex × Pa.Ps} {x : Ex} {h : Hd} {l : List Ex} {s1 : Pa.Ps} {nn : Nat} {A : Option Addr} {n cap : Nat} {W W' : World} (hn : n = l.length)
  (h1 : s1.ts.length ≤ nn) (h2 : s1.ts.length ≤ N) (hm : m < U) (hUV : U < V) (hwU : w.heap.size ≤ U) (hR : RP m W s1) (hM : ButM m w W) (hU : BxU W U cs8 37) (hE : exC (Bv U V W.heap.size) W (.mk h l) (xcell (h, A, n, cap))) (hk : s1.bad = false → .mk h l = x) (hX : Pa.rowP part ops nn x s1 = X)
  (hO : OnU V W W') (hV : BxU W' V #[.int .i64 h.k, .int .i64 h.n, .int .i64 h.vk, .int .i64 h.vn, .string h.vs, .string h.tab, .string h.col, .slice A n cap] 37) : RowQ part ops m N U V w X x (.mk h l) s1 nn A cap W' := by
 subst hn
 refine ⟨h1, h2, hO.rp (by omega) hR, hO.but (by omega) hM, ?_, hV, exC_ok.go (fun k hk => hO.block k hk.2.2) (fun k hk => ⟨hk.1, by rw [hO.size]; exact hk.2.1, hk.2.2⟩) hE, hk, hX⟩
 unfold BxU at hU ⊢
 exact (hO.block U (Nat.ne_of_lt hUV)).trans hU
structure PartQ (m N U V : Nat) (w : World) (x : Ex) (hd : Hd) (A : Option Addr) (n c : Nat) (y z : Ex) (s4 : Pa.Ps) (A4 : Option Addr) (cap4 : Nat) (W : World) : Prop where
 rs : RP m W s4
 but : ButM m w W
 bu : BxU W U cs8 37
 bv : BxU W V #[.int .i64 hd.k, .int .i64 hd.n, .int .i64 hd.vk, .int .i64 hd.vn, .string hd.vs, .string hd.tab, .string hd.col, .slice A n c] 37
 ex : exC (Bv U V W.heap.size) W x (xcell (hd, A, n, c))
 ey : exC (Bv U V W.heap.size) W y (xcell (y.hd, A4, y.kids.length, cap4))
 ok : s4.bad = false → y = z
structure MadeQ (m U V : Nat) (w : World) (z : Ex) (hz : Hd) (s4 : Pa.Ps) (A4 : Option Addr) (n4 c4 : Nat) (hd : Hd) (A : Option Addr) (n c : Nat) (W : World) : Prop where
 rs : RP m W s4
 but : ButM m w W
 bu : BxU W U cs8 37
 bv : BxU W V #[.int .i64 hd.k, .int .i64 hd.n, .int .i64 hd.vk, .int .i64 hd.vn, .string hd.vs, .string hd.tab, .string hd.col, .slice A n c] 37
 ez : exC (Bv U V W.heap.size) W z (xcell (hz, A4, n4, c4))
theorem madeq_two {m N U V : Nat} {w : World} {x y z : Ex} {hd : Hd} {A : Option Addr} {n c o : Nat} {s4 : Pa.Ps} {A4 : Option Addr} {cap4 : Nat} {w4 W w5 : World} (h : PartQ m N U V w x hd A n c y z s4 A4 cap4 w4)
  (hW : W.heap = (w4.alloc (.cells (xcell (hd, A, n, c) ++ xcell (y.hd, A4, y.kids.length, cap4)).toArray 37)).heap) (hb : Below w4.heap.size w4 W) (hb5 : Below W.heap.size W w5) :
  Hid (MadeQ m U V w (Pa.mkOp o [x, y]) (hdO (o : Int)) s4 (some ⟨w4.heap.size, 0, none⟩) 2 2 hd A n c w5) ∧ V8 w5 V hd A n c := by
 have hbv := (h.bv.next hb).next hb5
 refine ⟨Lib.hid ⟨(h.rs.next hb).next hb5, (h.but.trans (ButM.of hb)).trans (ButM.of hb5), (h.bu.next hb).next hb5, hbv, ?_⟩, v8_of hbv⟩
 have h2 := exC_two (B' := Bv U V (w4.heap.size + 1)) (hdO (o : Int)) h.ex h.ey (fun k hk => ⟨hk.2.1, hk.1, Nat.lt_succ_of_lt hk.2.1, hk.2.2⟩) ⟨h.bu.lt, Nat.lt_succ_self _, Nat.ne_of_gt h.bv.lt⟩ 37
 have hsz : W.heap.size = w4.heap.size + 1 := by rw [hW, World.size_alloc]
 refine exC_ok.go (fun k hk => (hb5.block k (by rw [hsz]; exact hk.2.1)).trans (by rw [hW])) (fun k hk => ⟨hk.1, by have := hk.2.1; have := hb5.size; omega, hk.2.2⟩) h2
theorem madeq_one {m U V : Nat} {w : World} {x : Ex} {hd : Hd} {A : Option Addr} {n c o : Nat} {s4 : Pa.Ps} {w4 w5 : World} (hR : RP m w4 s4) (hM : ButM m w w4) (hU : BxU w4 U cs8 37)
  (hV : BxU w4 V #[.int .i64 hd.k, .int .i64 hd.n, .int .i64 hd.vk, .int .i64 hd.vn, .string hd.vs, .string hd.tab, .string hd.col, .slice A n c] 37) (hE : exC (Bv U V w4.heap.size) w4 x (xcell (hd, A, n, c)))
  (hb5 : Below (w4.alloc (.cells (xcell (hd, A, n, c)).toArray 37)).heap.size (w4.alloc (.cells (xcell (hd, A, n, c)).toArray 37)) w5) :
  Hid (MadeQ m U V w (Pa.mkOp o [x]) (hdO (o : Int)) s4 (some ⟨w4.heap.size, 0, none⟩) 1 1 hd A n c w5) ∧ V8 w5 V hd A n c := by
 have hb := ba w4 (.cells (xcell (hd, A, n, c)).toArray 37)
 have hbv := (hV.next hb).next hb5
 refine ⟨Lib.hid ⟨(hR.next hb).next hb5, (hM.trans (ButM.of hb)).trans (ButM.of hb5), (hU.next hb).next hb5, hbv, ?_⟩, v8_of hbv⟩
 have h2 := exC_one (B' := Bv U V (w4.heap.size + 1)) (hdO (o : Int)) hE (fun k hk => ⟨hk.2.1, hk.1, Nat.lt_succ_of_lt hk.2.1, hk.2.2⟩) ⟨hU.lt, Nat.lt_succ_self _, Nat.ne_of_gt hV.lt⟩ 37
 have hs5 := hb5.size
 rw [World.size_alloc] at hs5
 exact exC_ok.go (fun k hk => hb5.block k (by rw [World.size_alloc]; exact hk.2.1)) (fun k hk => ⟨hk.1, by have := hk.2.1; omega, hk.2.2⟩) h2
theorem oper_take (op : Nat) (s : Pa.Ps) (h : op ≠ 16) : Pa.operP [op] s = if (Pa.takeW (Pa.begins op) s).1 then (op, (Pa.takeW (Pa.begins op) s).2) else (0, s) := by
 rw [Pa.operP, if_neg h]; rfl
theorem oper_bad {ops : List Nat} {s : Pa.Ps} (hf : Pa.Fin s.ts) (h : s.bad = true) (hn : ∀ op ∈ ops, op ≠ 0) : (Pa.operP ops s).1 = 0 := by
 rcases Nat.eq_zero_or_pos (Pa.operP ops s).1 with h1 | h1
 ·exact h1
 ·have := ((Pa.operP_le ops hf hn).2.1 (by omega)).1
  rw [h] at this; cases this
theorem opers_two : ∀ (ops : List Nat) (s : Pa.Ps), (∀ p ∈ ops, p ≠ 16 ∧ Pa.isOne p = false) → (Pa.operP ops s).1 ≠ 0 → Pa.isOne (Pa.operP ops s).1 = false
 | [], _, _, h => absurd rfl h
 | p :: r, s, h, hz => by
  have hp := h p (List.mem_cons_self ..)
  rw [Pa.operP] at hz ⊢
  split
  ·rw [if_neg hp.1]; exact hp.2
  ·rename_i hn
   rw [if_neg hn] at hz
   exact opers_two r s (fun y hy => h y (List.mem_cons_of_mem _ hy)) hz
end Go.Proofs.YtfjimoccliejdaaGreatDoor
end
