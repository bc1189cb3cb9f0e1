/-
  The document's row of operators 'sum'.
-/
import Derived.Test.YtfjimoccliejdaaGreatDoorE10
section
namespace Go.Proofs.YtfjimoccliejdaaGreatDoor
open Go.RowKit Go.Shelf

set_option maxRecDepth 100000 in
set_option maxHeartbeats 4000000 in
theorem qrow_Or (part : Pa.Ps → Ex × Pa.Ps) (hle : ∀ s, Pa.Fin s.ts → Pa.Le s (part s).2) (m N : Nat) (HP : OkQ 63 part m N) : OkQ 31 (fun s => Pa.rowP part [1] (part s).2.ts.length (part s).1 (part s).2) m N := by
 intro s w h hN
 have HPp := Lib.hid HP
 have Hle := Lib.hid hle
 clear HP hle
 show Calls _ _ _ _ (RyE exC m w (Pa.rowP part [1] (part s).2.ts.length (part s).1 (part s).2).1 (Pa.rowP part [1] (part s).2.ts.length (part s).1 (part s).2).2)
 have HB := Lib.hid (ba w (.cells #[.int .i64 0, .int .i64 0, .int .i64 0, .int .i64 0, .string ⟨#[]⟩, .string ⟨#[]⟩, .string ⟨#[]⟩, .slice none 0 0] 37))
 have HU := Lib.hid (show BxU _ _ #[.int .i64 0, .int .i64 0, .int .i64 0, .int .i64 0, .string ⟨#[]⟩, .string ⟨#[]⟩, .string ⟨#[]⟩, .slice none 0 0] 37 from (MapKept.heap_alloc w (.cells #[.int .i64 0, .int .i64 0, .int .i64 0, .int .i64 0, .string ⟨#[]⟩, .string ⟨#[]⟩, .string ⟨#[]⟩, .slice none 0 0] 37)).1)
 have H1 := Lib.hid (h.next HB.out)
 have hmU := h.lt
 have HFin := Lib.hid h.fin
 obtain ⟨U, hU⟩ : ∃ U, w.heap.size = U := ⟨_, rfl⟩
 have HUl := Lib.hid hU
 have HSz := Lib.hid (show (w.alloc (.cells #[.int .i64 0, .int .i64 0, .int .i64 0, .int .i64 0, .string ⟨#[]⟩, .string ⟨#[]⟩, .string ⟨#[]⟩, .slice none 0 0] 37)).heap.size = U + 1 by rw [World.size_alloc, hU])
 rw [hU] at HU hmU
 have HmU := Lib.hid hmU
 obtain ⟨X, hX⟩ : ∃ X, Pa.rowP part [1] (part s).2.ts.length (part s).1 (part s).2 = X := ⟨_, rfl⟩
 rw [hX]
 have HX := Lib.hid hX
 clear h hX hmU
 go_enter Tryz.func31, Tryz.ntmps31
 go_wp2_with fail
 generalize w.alloc (.cells #[.int .i64 0, .int .i64 0, .int .i64 0, .int .i64 0, .string ⟨#[]⟩, .string ⟨#[]⟩, .string ⟨#[]⟩, .slice none 0 0] 37) = W1 at HB HU H1 HSz ⊢
 clear hU
 have HM1 := Lib.hid (show ButM m w W1 from ButM.of HB.out)
 have HT1 := Lib.hid (HPp.out s W1 H1.out hN)
 obtain ⟨⟨x1, s1⟩, hs1⟩ : ∃ q, part s = q := ⟨_, rfl⟩
 rw [hs1] at HT1
 have HK1 := Lib.hid hs1
 clear hs1
 simp only at HT1
 go_wp2_with fail
 refine HT1.out.mono ?_
 intro e v1 hE
 obtain ⟨y1, A1, cap1, rfl, hC, hy1, hR, hM⟩ := RyE.ev hE
 clear hE
 have hs1 : s1.ts.length ≤ N := by have := (Hle.out s HFin.out).len; rw [HK1.out] at this; simp only at this; omega
 have HX1 := Lib.hid (show Pa.rowP part [1] s1.ts.length x1 s1 = X by rw [← HX.out, HK1.out])
 obtain ⟨hd1, l1⟩ := y1
 simp only [Ex.hd, Ex.kids] at hC ⊢
 have hbv := ba v1 (xbox hd1 A1 l1.length cap1)
 have hVn := (MapKept.heap_alloc v1 (xbox hd1 A1 l1.length cap1)).1
 obtain ⟨V, hV⟩ : ∃ V, v1.heap.size = V := ⟨_, rfl⟩
 rw [hV] at hVn
 have hUW := HU.out.lt
 have hUV : U < V := by have := hM.size; omega
 have HS1 := Lib.hid (show RowQ part [1] m N U V w X x1 (.mk hd1 l1) s1 s1.ts.length A1 cap1 (v1.alloc (xbox hd1 A1 l1.length cap1)) from ⟨Nat.le_refl _, hs1, hR.next hbv, (HM1.out.trans hM).trans (ButM.of hbv), (HU.out.but HmU.out hM).next hbv, hVn, exC_ok.go (fun k hk => hbv.block k hk.2) (fun k hk => ⟨by have := hk.1; omega, by have := hk.2; have := hbv.size; omega, by have := hk.2; omega⟩) hC, hy1, HX1.out⟩)
 have HV := Lib.hid hV
 have HUV := Lib.hid hUV
 clear hR hM hC hN hbv hVn hUW hs1 hUV hy1
 go_wp2_with fail
 clear hV
 go_loopw [] (fun W => ∃ (x y : Ex) (s1 : Pa.Ps) (nn : Nat) (A : Option Addr) (cap : Nat), Hid (RowQ part [1] m N U V w X x y s1 nn A cap W)) (fun W => lenQ m W)
 case atStart => exact ⟨_, _, _, _, _, _, HS1⟩
 case round =>
  obtain ⟨x, y, s2, nn, A, cap, HS⟩ := hrel
  have HT := Lib.hid (qtake_any m s2 (Pa.begins 1) wr HS.out.rs)
  obtain ⟨t2, ht⟩ : ∃ z, (Pa.takeW (Pa.begins 1) s2).1 = z := ⟨_, rfl⟩
  obtain ⟨s3, hs⟩ : ∃ z, (Pa.takeW (Pa.begins 1) s2).2 = z := ⟨_, rfl⟩
  obtain ⟨_, hyes, hno⟩ := Pa.takeW_le (Pa.begins 1) HS.out.rs.fin
  rw [ht, hs] at HT hyes hno
  have HK := Lib.hid (show Pa.operP [1] s2 = if t2 then (1, s3) else (0, s2) by rw [oper_take _ _ (by decide), ht, hs])
  clear ht hs
  obtain ⟨hd, l⟩ := y
  cases t2 with
  | false =>
   obtain rfl := hno rfl
   clear hyes hno
   go_wp2_with fail
   refine HT.out.mono ?_
   rintro e w1 ⟨rfl, hR, hM⟩
   have HR1 := Lib.hid hR
   have HB1 := Lib.hid (HS.out.but.trans hM)
   have HU1 := Lib.hid (HS.out.bu.but HmU.out hM)
   have HV1 := Lib.hid (HS.out.bv.but (Nat.lt_trans HmU.out HUV.out) hM)
   have HE1 := Lib.hid (show exC (Bv U V w1.heap.size) w1 (.mk hd l) (xcell (hd, A, l.length, cap)) from exC_ok.go (fun k hk => hM.block k hk.2.1 (by have := hk.1; have := HmU.out; omega)) (fun k hk => ⟨hk.1, Nat.lt_of_lt_of_le hk.2.1 hM.size, hk.2.2⟩) HS.out.ex)
   clear hR hM
   have HXe := Lib.hid (show X = (x, s3) by rw [← HS.out.eq, Pa.rowP_stop (by rw [HK.out]; rfl)])
   have HOk := Lib.hid (show s3.bad = false → .mk hd l = x from HS.out.ok)
   have d0 : (w1).cell? ⟨V, 0, none⟩ = some (.int .i64 hd.k) := (HV1.out).cell 0
   have d1 : (w1).cell? ⟨V, 1, none⟩ = some (.int .i64 hd.n) := (HV1.out).cell 1
   have d2 : (w1).cell? ⟨V, 2, none⟩ = some (.int .i64 hd.vk) := (HV1.out).cell 2
   have d3 : (w1).cell? ⟨V, 3, none⟩ = some (.int .i64 hd.vn) := (HV1.out).cell 3
   have d4 : (w1).cell? ⟨V, 4, none⟩ = some (.string hd.vs) := (HV1.out).cell 4
   have d5 : (w1).cell? ⟨V, 5, none⟩ = some (.string hd.tab) := (HV1.out).cell 5
   have d6 : (w1).cell? ⟨V, 6, none⟩ = some (.string hd.col) := (HV1.out).cell 6
   have d7 : (w1).cell? ⟨V, 7, none⟩ = some (.slice A l.length cap) := (HV1.out).cell 7
   have fd0 := (HV1.out).frozen 0
   have fd1 := (HV1.out).frozen 1
   have fd2 := (HV1.out).frozen 2
   have fd3 := (HV1.out).frozen 3
   have fd4 := (HV1.out).frozen 4
   have fd5 := (HV1.out).frozen 5
   have fd6 := (HV1.out).frozen 6
   have fd7 := (HV1.out).frozen 7
   obtain ⟨c0, c1, c2, c3, c4, c5, c6, c7⟩ := cl8 (w := w1) (HU1.out)
   have fc0 := (HU1.out).frozen 0
   have fc1 := (HU1.out).frozen 1
   have fc2 := (HU1.out).frozen 2
   have fc3 := (HU1.out).frozen 3
   have fc4 := (HU1.out).frozen 4
   have fc5 := (HU1.out).frozen 5
   have fc6 := (HU1.out).frozen 6
   have fc7 := (HU1.out).frozen 7
   have hUneV : U ≠ V := Nat.ne_of_lt HUV.out
   have hVneU : V ≠ U := Nat.ne_of_gt HUV.out
   go_wp2_with fail
   exact bodyPost_ret (v := XV hd A l.length cap) (by simp [results, Tryz.results31, go_sem, c0, c1, c2, c3, c4, c5, c6, c7]) rfl (by rw [HXe.out]; exact RyE.fin (c := xcell (hd, A, l.length, cap)) exC_ok HUl.out HmU.out HB1.out HR1.out (exC_ok.go (fun _ _ => rfl) (fun k hk => ⟨hk.1, hk.2.1⟩) HE1.out) HOk.out ((OnU.refl _ _).set.set.set.set.set.set.set.set))
  | true =>
   obtain ⟨hb2, hb3, hl3⟩ := hyes rfl
   have HOk0 := Lib.hid (show Ex.mk hd l = x from HS.out.ok hb2)
   have Hl3 := Lib.hid hl3
   have HK2 := Lib.hid (show Pa.operP [1] s2 = (1, s3) by rw [HK.out]; rfl)
   clear hno hyes hb2 hb3 hl3
   go_wp2_with fail
   refine HT.out.mono ?_
   rintro e w1 ⟨rfl, hR, hM⟩
   have HR1 := Lib.hid hR
   have HB1 := Lib.hid (HS.out.but.trans hM)
   have HU1 := Lib.hid (HS.out.bu.but HmU.out hM)
   have HV1 := Lib.hid (HS.out.bv.but (Nat.lt_trans HmU.out HUV.out) hM)
   have HE1 := Lib.hid (show exC (Bv U V w1.heap.size) w1 (.mk hd l) (xcell (hd, A, l.length, cap)) from exC_ok.go (fun k hk => hM.block k hk.2.1 (by have := hk.1; have := HmU.out; omega)) (fun k hk => ⟨hk.1, Nat.lt_of_lt_of_le hk.2.1 hM.size, hk.2.2⟩) HS.out.ex)
   clear hR hM
   have HLs := Lib.hid (show s3.ts.length + 1 ≤ s2.ts.length from (Nat.le_of_eq Hl3.out))
   obtain ⟨nn, rfl⟩ : ∃ k, nn = k + 1 := ⟨nn - 1, by have := HLs.out; have := HS.out.len; omega⟩
   have hs3N : s3.ts.length ≤ N := by have := HLs.out; have := HS.out.most; omega
   obtain ⟨⟨z, s4⟩, hy⟩ : ∃ q, part s3 = q := ⟨_, rfl⟩
   have HY := Lib.hid hy
   have HX2 := Lib.hid (show Pa.rowP part [1] nn (Pa.mkOp 1 [.mk hd l, z]) s4 = X by rw [← HS.out.eq, ← HOk0.out]; rw [rowP_two (by rw [HK2.out]; simp) (by rw [HK2.out]; rfl), HK2.out, HY.out])
   have HLe4 := Lib.hid (show s4.ts.length ≤ s3.ts.length by have := (Hle.out s3 HR1.out.fin).len; rw [HY.out] at this; exact this)
   have HPx := Lib.hid (show ∀ W, Below w1.heap.size w1 W → Calls Tryz.prog 63 #[.pointer (some ⟨m, 0, none⟩)] W (fun e w4 => ∃ (y4 : Ex) (A4 : Option Addr) (cap4 : Nat), e = .returned (XV y4.hd A4 y4.kids.length cap4) ∧ Hid (PartQ m N U V w (.mk hd l) hd A l.length cap y4 z s4 A4 cap4 w4) ∧ V8 w4 V hd A l.length cap) from fun W hW => (HPp.out s3 W (HR1.out.next hW) hs3N).mono (fun e w4 hE => by
    rw [HY.out] at hE
    obtain ⟨y4, A4, cap4, rfl, hC, hy4, hR, hM⟩ := RyE.ev hE
    have hV := (HV1.out.next hW).but (Nat.lt_trans HmU.out HUV.out) hM
    exact ⟨y4, A4, cap4, rfl, Lib.hid ⟨hR, (HB1.out.trans (ButM.of hW)).trans hM, (HU1.out.next hW).but HmU.out hM, hV, exC_ok.go (fun k hk => (hM.block k (Nat.lt_of_lt_of_le hk.2.1 hW.size) (by have := hk.1; have := HmU.out; omega)).trans (hW.block k hk.2.1)) (fun k hk => ⟨hk.1, by have := hk.2.1; have := hW.size; have := hM.size; omega, hk.2.2⟩) HE1.out, exC_ok.go (fun _ _ => rfl) (fun k hk => ⟨by have := hk.1; have := hW.size; have := HU1.out.lt; omega, hk.2, by have := hk.1; have := hW.size; have := HV1.out.lt; omega⟩) hC, hy4⟩, v8_of hV⟩))
   have HMd := Lib.hid (show ∀ (y4 : Ex) (A4 : Option Addr) (cap4 : Nat) (w4 W : World) (_ : Hid (PartQ m N U V w (.mk hd l) hd A l.length cap y4 z s4 A4 cap4 w4)) (_ : W.heap = (w4.alloc (.cells (xcell (hd, A, l.length, cap) ++ xcell (y4.hd, A4, y4.kids.length, cap4)).toArray 37)).heap) (_ : Below w4.heap.size w4 W),
     Calls Tryz.prog 64 #[.int .i64 1, .slice (some ⟨w4.heap.size, 0, none⟩) 2 2] W (fun e w5 => e = .returned (XV (hdO (1 : Nat)) (some ⟨w4.heap.size, 0, none⟩) 2 2) ∧ Hid (MadeQ m U V w (Pa.mkOp 1 [.mk hd l, y4]) (hdO (1 : Nat)) s4 (some ⟨w4.heap.size, 0, none⟩) 2 2 hd A l.length cap w5) ∧ V8 w5 V hd A l.length cap) from fun y4 A4 cap4 w4 W hP hW hb => (refOp_any 1 (some ⟨w4.heap.size, 0, none⟩) 2 2 W).mono (fun e w5 hE => by
    obtain ⟨rfl, hb5⟩ := hE
    exact ⟨rfl, madeq_two hP.out hW hb hb5⟩))
   clear hs3N hy
   have d0 : (w1).cell? ⟨V, 0, none⟩ = some (.int .i64 hd.k) := (HV1.out).cell 0
   have d1 : (w1).cell? ⟨V, 1, none⟩ = some (.int .i64 hd.n) := (HV1.out).cell 1
   have d2 : (w1).cell? ⟨V, 2, none⟩ = some (.int .i64 hd.vk) := (HV1.out).cell 2
   have d3 : (w1).cell? ⟨V, 3, none⟩ = some (.int .i64 hd.vn) := (HV1.out).cell 3
   have d4 : (w1).cell? ⟨V, 4, none⟩ = some (.string hd.vs) := (HV1.out).cell 4
   have d5 : (w1).cell? ⟨V, 5, none⟩ = some (.string hd.tab) := (HV1.out).cell 5
   have d6 : (w1).cell? ⟨V, 6, none⟩ = some (.string hd.col) := (HV1.out).cell 6
   have d7 : (w1).cell? ⟨V, 7, none⟩ = some (.slice A l.length cap) := (HV1.out).cell 7
   have fd0 := (HV1.out).frozen 0
   have fd1 := (HV1.out).frozen 1
   have fd2 := (HV1.out).frozen 2
   have fd3 := (HV1.out).frozen 3
   have fd4 := (HV1.out).frozen 4
   have fd5 := (HV1.out).frozen 5
   have fd6 := (HV1.out).frozen 6
   have fd7 := (HV1.out).frozen 7
   have hUneV : U ≠ V := Nat.ne_of_lt HUV.out
   have hVneU : V ≠ U := Nat.ne_of_gt HUV.out
   go_wp2_with fail
   go_region_with (first
    | (refine (HPx.out _ (by repeat (first | exact Below.refl _ _ | refine Below.drew ?_))).mono ?_; rintro e w4 ⟨y4, A4, cap4, rfl, HP4, d0, d1, d2, d3, d4, d5, d6, d7, fd0, fd1, fd2, fd3, fd4, fd5, fd6, fd7⟩)
    | (refine (HMd.out _ _ _ _ _ HP4 rfl (by repeat (first | exact Below.refl _ _ | refine Below.drew ?_ | refine Below.alloc ?_ (Nat.le_refl _) _))).mono ?_; rintro e w5 ⟨rfl, HP5, d0, d1, d2, d3, d4, d5, d6, d7, fd0, fd1, fd2, fd3, fd4, fd5, fd6, fd7⟩))
   all_goals
    have HSn := Lib.hid (RowQ.step (part := part) (ops := [1]) (N := N) (nn := nn) (n := 2) (x := Pa.mkOp 1 [.mk hd l, z]) rfl (by have := HLs.out; have := HS.out.len; have := HLe4.out; omega) (by have := HLs.out; have := HS.out.most; have := HLe4.out; omega) HmU.out HUV.out (Nat.le_of_eq HUl.out) HP5.out.rs HP5.out.but HP5.out.bu HP5.out.ez (fun hb => by rw [HP4.out.ok hb]; rfl) HX2.out ((OnU.refl V w5).set.set.set.set.set.set.set.set) (box8_set HP5.out.bv _ _ _ _ _ _ _ _))
    go_wp2_with fail
    go_roundw
    case rel => exact ⟨_, _, _, _, _, _, HSn⟩
    case measure => refine Nat.lt_of_le_of_lt (Nat.le_of_eq HSn.out.rs.len) ?_; rw [HS.out.rs.len]; have := HLs.out; have := HLe4.out; omega
end Go.Proofs.YtfjimoccliejdaaGreatDoor
end
section
namespace Go.Proofs.YtfjimoccliejdaaGreatDoor
open Go.RowKit Go.Shelf

set_option maxRecDepth 100000 in
set_option maxHeartbeats 4000000 in
theorem qrow_and (part : Pa.Ps → Ex × Pa.Ps) (hle : ∀ s, Pa.Fin s.ts → Pa.Le s (part s).2) (m N : Nat) (HP : OkQ 116 part m N) : OkQ 63 (fun s => Pa.rowP part [2] (part s).2.ts.length (part s).1 (part s).2) m N := by
 intro s w h hN
 have HPp := Lib.hid HP
 have Hle := Lib.hid hle
 clear HP hle
 show Calls _ _ _ _ (RyE exC m w (Pa.rowP part [2] (part s).2.ts.length (part s).1 (part s).2).1 (Pa.rowP part [2] (part s).2.ts.length (part s).1 (part s).2).2)
 have HB := Lib.hid (ba w (.cells #[.int .i64 0, .int .i64 0, .int .i64 0, .int .i64 0, .string ⟨#[]⟩, .string ⟨#[]⟩, .string ⟨#[]⟩, .slice none 0 0] 37))
 have HU := Lib.hid (show BxU _ _ #[.int .i64 0, .int .i64 0, .int .i64 0, .int .i64 0, .string ⟨#[]⟩, .string ⟨#[]⟩, .string ⟨#[]⟩, .slice none 0 0] 37 from (MapKept.heap_alloc w (.cells #[.int .i64 0, .int .i64 0, .int .i64 0, .int .i64 0, .string ⟨#[]⟩, .string ⟨#[]⟩, .string ⟨#[]⟩, .slice none 0 0] 37)).1)
 have H1 := Lib.hid (h.next HB.out)
 have hmU := h.lt
 have HFin := Lib.hid h.fin
 obtain ⟨U, hU⟩ : ∃ U, w.heap.size = U := ⟨_, rfl⟩
 have HUl := Lib.hid hU
 have HSz := Lib.hid (show (w.alloc (.cells #[.int .i64 0, .int .i64 0, .int .i64 0, .int .i64 0, .string ⟨#[]⟩, .string ⟨#[]⟩, .string ⟨#[]⟩, .slice none 0 0] 37)).heap.size = U + 1 by rw [World.size_alloc, hU])
 rw [hU] at HU hmU
 have HmU := Lib.hid hmU
 obtain ⟨X, hX⟩ : ∃ X, Pa.rowP part [2] (part s).2.ts.length (part s).1 (part s).2 = X := ⟨_, rfl⟩
 rw [hX]
 have HX := Lib.hid hX
 clear h hX hmU
 go_enter Tryz.func63, Tryz.ntmps63
 go_wp2_with fail
 generalize w.alloc (.cells #[.int .i64 0, .int .i64 0, .int .i64 0, .int .i64 0, .string ⟨#[]⟩, .string ⟨#[]⟩, .string ⟨#[]⟩, .slice none 0 0] 37) = W1 at HB HU H1 HSz ⊢
 clear hU
 have HM1 := Lib.hid (show ButM m w W1 from ButM.of HB.out)
 have HT1 := Lib.hid (HPp.out s W1 H1.out hN)
 obtain ⟨⟨x1, s1⟩, hs1⟩ : ∃ q, part s = q := ⟨_, rfl⟩
 rw [hs1] at HT1
 have HK1 := Lib.hid hs1
 clear hs1
 simp only at HT1
 go_wp2_with fail
 refine HT1.out.mono ?_
 intro e v1 hE
 obtain ⟨y1, A1, cap1, rfl, hC, hy1, hR, hM⟩ := RyE.ev hE
 clear hE
 have hs1 : s1.ts.length ≤ N := by have := (Hle.out s HFin.out).len; rw [HK1.out] at this; simp only at this; omega
 have HX1 := Lib.hid (show Pa.rowP part [2] s1.ts.length x1 s1 = X by rw [← HX.out, HK1.out])
 obtain ⟨hd1, l1⟩ := y1
 simp only [Ex.hd, Ex.kids] at hC ⊢
 have hbv := ba v1 (xbox hd1 A1 l1.length cap1)
 have hVn := (MapKept.heap_alloc v1 (xbox hd1 A1 l1.length cap1)).1
 obtain ⟨V, hV⟩ : ∃ V, v1.heap.size = V := ⟨_, rfl⟩
 rw [hV] at hVn
 have hUW := HU.out.lt
 have hUV : U < V := by have := hM.size; omega
 have HS1 := Lib.hid (show RowQ part [2] m N U V w X x1 (.mk hd1 l1) s1 s1.ts.length A1 cap1 (v1.alloc (xbox hd1 A1 l1.length cap1)) from ⟨Nat.le_refl _, hs1, hR.next hbv, (HM1.out.trans hM).trans (ButM.of hbv), (HU.out.but HmU.out hM).next hbv, hVn, exC_ok.go (fun k hk => hbv.block k hk.2) (fun k hk => ⟨by have := hk.1; omega, by have := hk.2; have := hbv.size; omega, by have := hk.2; omega⟩) hC, hy1, HX1.out⟩)
 have HV := Lib.hid hV
 have HUV := Lib.hid hUV
 clear hR hM hC hN hbv hVn hUW hs1 hUV hy1
 go_wp2_with fail
 clear hV
 go_loopw [] (fun W => ∃ (x y : Ex) (s1 : Pa.Ps) (nn : Nat) (A : Option Addr) (cap : Nat), Hid (RowQ part [2] m N U V w X x y s1 nn A cap W)) (fun W => lenQ m W)
 case atStart => exact ⟨_, _, _, _, _, _, HS1⟩
 case round =>
  obtain ⟨x, y, s2, nn, A, cap, HS⟩ := hrel
  have HT := Lib.hid (qtake_any m s2 (Pa.begins 2) wr HS.out.rs)
  obtain ⟨t2, ht⟩ : ∃ z, (Pa.takeW (Pa.begins 2) s2).1 = z := ⟨_, rfl⟩
  obtain ⟨s3, hs⟩ : ∃ z, (Pa.takeW (Pa.begins 2) s2).2 = z := ⟨_, rfl⟩
  obtain ⟨_, hyes, hno⟩ := Pa.takeW_le (Pa.begins 2) HS.out.rs.fin
  rw [ht, hs] at HT hyes hno
  have HK := Lib.hid (show Pa.operP [2] s2 = if t2 then (2, s3) else (0, s2) by rw [oper_take _ _ (by decide), ht, hs])
  clear ht hs
  obtain ⟨hd, l⟩ := y
  cases t2 with
  | false =>
   obtain rfl := hno rfl
   clear hyes hno
   go_wp2_with fail
   refine HT.out.mono ?_
   rintro e w1 ⟨rfl, hR, hM⟩
   have HR1 := Lib.hid hR
   have HB1 := Lib.hid (HS.out.but.trans hM)
   have HU1 := Lib.hid (HS.out.bu.but HmU.out hM)
   have HV1 := Lib.hid (HS.out.bv.but (Nat.lt_trans HmU.out HUV.out) hM)
   have HE1 := Lib.hid (show exC (Bv U V w1.heap.size) w1 (.mk hd l) (xcell (hd, A, l.length, cap)) from exC_ok.go (fun k hk => hM.block k hk.2.1 (by have := hk.1; have := HmU.out; omega)) (fun k hk => ⟨hk.1, Nat.lt_of_lt_of_le hk.2.1 hM.size, hk.2.2⟩) HS.out.ex)
   clear hR hM
   have HXe := Lib.hid (show X = (x, s3) by rw [← HS.out.eq, Pa.rowP_stop (by rw [HK.out]; rfl)])
   have HOk := Lib.hid (show s3.bad = false → .mk hd l = x from HS.out.ok)
   have d0 : (w1).cell? ⟨V, 0, none⟩ = some (.int .i64 hd.k) := (HV1.out).cell 0
   have d1 : (w1).cell? ⟨V, 1, none⟩ = some (.int .i64 hd.n) := (HV1.out).cell 1
   have d2 : (w1).cell? ⟨V, 2, none⟩ = some (.int .i64 hd.vk) := (HV1.out).cell 2
   have d3 : (w1).cell? ⟨V, 3, none⟩ = some (.int .i64 hd.vn) := (HV1.out).cell 3
   have d4 : (w1).cell? ⟨V, 4, none⟩ = some (.string hd.vs) := (HV1.out).cell 4
   have d5 : (w1).cell? ⟨V, 5, none⟩ = some (.string hd.tab) := (HV1.out).cell 5
   have d6 : (w1).cell? ⟨V, 6, none⟩ = some (.string hd.col) := (HV1.out).cell 6
   have d7 : (w1).cell? ⟨V, 7, none⟩ = some (.slice A l.length cap) := (HV1.out).cell 7
   have fd0 := (HV1.out).frozen 0
   have fd1 := (HV1.out).frozen 1
   have fd2 := (HV1.out).frozen 2
   have fd3 := (HV1.out).frozen 3
   have fd4 := (HV1.out).frozen 4
   have fd5 := (HV1.out).frozen 5
   have fd6 := (HV1.out).frozen 6
   have fd7 := (HV1.out).frozen 7
   obtain ⟨c0, c1, c2, c3, c4, c5, c6, c7⟩ := cl8 (w := w1) (HU1.out)
   have fc0 := (HU1.out).frozen 0
   have fc1 := (HU1.out).frozen 1
   have fc2 := (HU1.out).frozen 2
   have fc3 := (HU1.out).frozen 3
   have fc4 := (HU1.out).frozen 4
   have fc5 := (HU1.out).frozen 5
   have fc6 := (HU1.out).frozen 6
   have fc7 := (HU1.out).frozen 7
   have hUneV : U ≠ V := Nat.ne_of_lt HUV.out
   have hVneU : V ≠ U := Nat.ne_of_gt HUV.out
   go_wp2_with fail
   exact bodyPost_ret (v := XV hd A l.length cap) (by simp [results, Tryz.results63, go_sem, c0, c1, c2, c3, c4, c5, c6, c7]) rfl (by rw [HXe.out]; exact RyE.fin (c := xcell (hd, A, l.length, cap)) exC_ok HUl.out HmU.out HB1.out HR1.out (exC_ok.go (fun _ _ => rfl) (fun k hk => ⟨hk.1, hk.2.1⟩) HE1.out) HOk.out ((OnU.refl _ _).set.set.set.set.set.set.set.set))
  | true =>
   obtain ⟨hb2, hb3, hl3⟩ := hyes rfl
   have HOk0 := Lib.hid (show Ex.mk hd l = x from HS.out.ok hb2)
   have Hl3 := Lib.hid hl3
   have HK2 := Lib.hid (show Pa.operP [2] s2 = (2, s3) by rw [HK.out]; rfl)
   clear hno hyes hb2 hb3 hl3
   go_wp2_with fail
   refine HT.out.mono ?_
   rintro e w1 ⟨rfl, hR, hM⟩
   have HR1 := Lib.hid hR
   have HB1 := Lib.hid (HS.out.but.trans hM)
   have HU1 := Lib.hid (HS.out.bu.but HmU.out hM)
   have HV1 := Lib.hid (HS.out.bv.but (Nat.lt_trans HmU.out HUV.out) hM)
   have HE1 := Lib.hid (show exC (Bv U V w1.heap.size) w1 (.mk hd l) (xcell (hd, A, l.length, cap)) from exC_ok.go (fun k hk => hM.block k hk.2.1 (by have := hk.1; have := HmU.out; omega)) (fun k hk => ⟨hk.1, Nat.lt_of_lt_of_le hk.2.1 hM.size, hk.2.2⟩) HS.out.ex)
   clear hR hM
   have HLs := Lib.hid (show s3.ts.length + 1 ≤ s2.ts.length from (Nat.le_of_eq Hl3.out))
   obtain ⟨nn, rfl⟩ : ∃ k, nn = k + 1 := ⟨nn - 1, by have := HLs.out; have := HS.out.len; omega⟩
   have hs3N : s3.ts.length ≤ N := by have := HLs.out; have := HS.out.most; omega
   obtain ⟨⟨z, s4⟩, hy⟩ : ∃ q, part s3 = q := ⟨_, rfl⟩
   have HY := Lib.hid hy
   have HX2 := Lib.hid (show Pa.rowP part [2] nn (Pa.mkOp 2 [.mk hd l, z]) s4 = X by rw [← HS.out.eq, ← HOk0.out]; rw [rowP_two (by rw [HK2.out]; simp) (by rw [HK2.out]; rfl), HK2.out, HY.out])
   have HLe4 := Lib.hid (show s4.ts.length ≤ s3.ts.length by have := (Hle.out s3 HR1.out.fin).len; rw [HY.out] at this; exact this)
   have HPx := Lib.hid (show ∀ W, Below w1.heap.size w1 W → Calls Tryz.prog 116 #[.pointer (some ⟨m, 0, none⟩)] W (fun e w4 => ∃ (y4 : Ex) (A4 : Option Addr) (cap4 : Nat), e = .returned (XV y4.hd A4 y4.kids.length cap4) ∧ Hid (PartQ m N U V w (.mk hd l) hd A l.length cap y4 z s4 A4 cap4 w4) ∧ V8 w4 V hd A l.length cap) from fun W hW => (HPp.out s3 W (HR1.out.next hW) hs3N).mono (fun e w4 hE => by
    rw [HY.out] at hE
    obtain ⟨y4, A4, cap4, rfl, hC, hy4, hR, hM⟩ := RyE.ev hE
    have hV := (HV1.out.next hW).but (Nat.lt_trans HmU.out HUV.out) hM
    exact ⟨y4, A4, cap4, rfl, Lib.hid ⟨hR, (HB1.out.trans (ButM.of hW)).trans hM, (HU1.out.next hW).but HmU.out hM, hV, exC_ok.go (fun k hk => (hM.block k (Nat.lt_of_lt_of_le hk.2.1 hW.size) (by have := hk.1; have := HmU.out; omega)).trans (hW.block k hk.2.1)) (fun k hk => ⟨hk.1, by have := hk.2.1; have := hW.size; have := hM.size; omega, hk.2.2⟩) HE1.out, exC_ok.go (fun _ _ => rfl) (fun k hk => ⟨by have := hk.1; have := hW.size; have := HU1.out.lt; omega, hk.2, by have := hk.1; have := hW.size; have := HV1.out.lt; omega⟩) hC, hy4⟩, v8_of hV⟩))
   have HMd := Lib.hid (show ∀ (y4 : Ex) (A4 : Option Addr) (cap4 : Nat) (w4 W : World) (_ : Hid (PartQ m N U V w (.mk hd l) hd A l.length cap y4 z s4 A4 cap4 w4)) (_ : W.heap = (w4.alloc (.cells (xcell (hd, A, l.length, cap) ++ xcell (y4.hd, A4, y4.kids.length, cap4)).toArray 37)).heap) (_ : Below w4.heap.size w4 W),
     Calls Tryz.prog 64 #[.int .i64 2, .slice (some ⟨w4.heap.size, 0, none⟩) 2 2] W (fun e w5 => e = .returned (XV (hdO (2 : Nat)) (some ⟨w4.heap.size, 0, none⟩) 2 2) ∧ Hid (MadeQ m U V w (Pa.mkOp 2 [.mk hd l, y4]) (hdO (2 : Nat)) s4 (some ⟨w4.heap.size, 0, none⟩) 2 2 hd A l.length cap w5) ∧ V8 w5 V hd A l.length cap) from fun y4 A4 cap4 w4 W hP hW hb => (refOp_any 2 (some ⟨w4.heap.size, 0, none⟩) 2 2 W).mono (fun e w5 hE => by
    obtain ⟨rfl, hb5⟩ := hE
    exact ⟨rfl, madeq_two hP.out hW hb hb5⟩))
   clear hs3N hy
   have d0 : (w1).cell? ⟨V, 0, none⟩ = some (.int .i64 hd.k) := (HV1.out).cell 0
   have d1 : (w1).cell? ⟨V, 1, none⟩ = some (.int .i64 hd.n) := (HV1.out).cell 1
   have d2 : (w1).cell? ⟨V, 2, none⟩ = some (.int .i64 hd.vk) := (HV1.out).cell 2
   have d3 : (w1).cell? ⟨V, 3, none⟩ = some (.int .i64 hd.vn) := (HV1.out).cell 3
   have d4 : (w1).cell? ⟨V, 4, none⟩ = some (.string hd.vs) := (HV1.out).cell 4
   have d5 : (w1).cell? ⟨V, 5, none⟩ = some (.string hd.tab) := (HV1.out).cell 5
   have d6 : (w1).cell? ⟨V, 6, none⟩ = some (.string hd.col) := (HV1.out).cell 6
   have d7 : (w1).cell? ⟨V, 7, none⟩ = some (.slice A l.length cap) := (HV1.out).cell 7
   have fd0 := (HV1.out).frozen 0
   have fd1 := (HV1.out).frozen 1
   have fd2 := (HV1.out).frozen 2
   have fd3 := (HV1.out).frozen 3
   have fd4 := (HV1.out).frozen 4
   have fd5 := (HV1.out).frozen 5
   have fd6 := (HV1.out).frozen 6
   have fd7 := (HV1.out).frozen 7
   have hUneV : U ≠ V := Nat.ne_of_lt HUV.out
   have hVneU : V ≠ U := Nat.ne_of_gt HUV.out
   go_wp2_with fail
   go_region_with (first
    | (refine (HPx.out _ (by repeat (first | exact Below.refl _ _ | refine Below.drew ?_))).mono ?_; rintro e w4 ⟨y4, A4, cap4, rfl, HP4, d0, d1, d2, d3, d4, d5, d6, d7, fd0, fd1, fd2, fd3, fd4, fd5, fd6, fd7⟩)
    | (refine (HMd.out _ _ _ _ _ HP4 rfl (by repeat (first | exact Below.refl _ _ | refine Below.drew ?_ | refine Below.alloc ?_ (Nat.le_refl _) _))).mono ?_; rintro e w5 ⟨rfl, HP5, d0, d1, d2, d3, d4, d5, d6, d7, fd0, fd1, fd2, fd3, fd4, fd5, fd6, fd7⟩))
   all_goals
    have HSn := Lib.hid (RowQ.step (part := part) (ops := [2]) (N := N) (nn := nn) (n := 2) (x := Pa.mkOp 2 [.mk hd l, z]) rfl (by have := HLs.out; have := HS.out.len; have := HLe4.out; omega) (by have := HLs.out; have := HS.out.most; have := HLe4.out; omega) HmU.out HUV.out (Nat.le_of_eq HUl.out) HP5.out.rs HP5.out.but HP5.out.bu HP5.out.ez (fun hb => by rw [HP4.out.ok hb]; rfl) HX2.out ((OnU.refl V w5).set.set.set.set.set.set.set.set) (box8_set HP5.out.bv _ _ _ _ _ _ _ _))
    go_wp2_with fail
    go_roundw
    case rel => exact ⟨_, _, _, _, _, _, HSn⟩
    case measure => refine Nat.lt_of_le_of_lt (Nat.le_of_eq HSn.out.rs.len) ?_; rw [HS.out.rs.len]; have := HLs.out; have := HLe4.out; omega
end Go.Proofs.YtfjimoccliejdaaGreatDoor
end
section
namespace Go.Proofs.YtfjimoccliejdaaGreatDoor
open Go.RowKit Go.Shelf

set_option maxRecDepth 100000 in
set_option maxHeartbeats 4000000 in
theorem qrow_cmp (part : Pa.Ps → Ex × Pa.Ps) (hle : ∀ s, Pa.Fin s.ts → Pa.Le s (part s).2) (m N : Nat) (HP : OkQ 157 part m N) : OkQ 145 (fun s => Pa.rowP part [4, 5, 6, 7, 8, 9, 16] (part s).2.ts.length (part s).1 (part s).2) m N := by
 intro s w h hN
 have HPp := Lib.hid HP
 have Hle := Lib.hid hle
 clear HP hle
 show Calls _ _ _ _ (RyE exC m w (Pa.rowP part [4, 5, 6, 7, 8, 9, 16] (part s).2.ts.length (part s).1 (part s).2).1 (Pa.rowP part [4, 5, 6, 7, 8, 9, 16] (part s).2.ts.length (part s).1 (part s).2).2)
 have HB := Lib.hid (ba w (.cells #[.int .i64 0, .int .i64 0, .int .i64 0, .int .i64 0, .string ⟨#[]⟩, .string ⟨#[]⟩, .string ⟨#[]⟩, .slice none 0 0] 37))
 have HU := Lib.hid (show BxU _ _ #[.int .i64 0, .int .i64 0, .int .i64 0, .int .i64 0, .string ⟨#[]⟩, .string ⟨#[]⟩, .string ⟨#[]⟩, .slice none 0 0] 37 from (MapKept.heap_alloc w (.cells #[.int .i64 0, .int .i64 0, .int .i64 0, .int .i64 0, .string ⟨#[]⟩, .string ⟨#[]⟩, .string ⟨#[]⟩, .slice none 0 0] 37)).1)
 have H1 := Lib.hid (h.next HB.out)
 have hmU := h.lt
 have HFin := Lib.hid h.fin
 obtain ⟨U, hU⟩ : ∃ U, w.heap.size = U := ⟨_, rfl⟩
 have HUl := Lib.hid hU
 have HSz := Lib.hid (show (w.alloc (.cells #[.int .i64 0, .int .i64 0, .int .i64 0, .int .i64 0, .string ⟨#[]⟩, .string ⟨#[]⟩, .string ⟨#[]⟩, .slice none 0 0] 37)).heap.size = U + 1 by rw [World.size_alloc, hU])
 rw [hU] at HU hmU
 have HmU := Lib.hid hmU
 obtain ⟨X, hX⟩ : ∃ X, Pa.rowP part [4, 5, 6, 7, 8, 9, 16] (part s).2.ts.length (part s).1 (part s).2 = X := ⟨_, rfl⟩
 rw [hX]
 have HX := Lib.hid hX
 clear h hX hmU
 go_enter Tryz.func145, Tryz.ntmps145
 go_wp2_with fail
 generalize w.alloc (.cells #[.int .i64 0, .int .i64 0, .int .i64 0, .int .i64 0, .string ⟨#[]⟩, .string ⟨#[]⟩, .string ⟨#[]⟩, .slice none 0 0] 37) = W1 at HB HU H1 HSz ⊢
 clear hU
 have HM1 := Lib.hid (show ButM m w W1 from ButM.of HB.out)
 have HT1 := Lib.hid (HPp.out s W1 H1.out hN)
 obtain ⟨⟨x1, s1⟩, hs1⟩ : ∃ q, part s = q := ⟨_, rfl⟩
 rw [hs1] at HT1
 have HK1 := Lib.hid hs1
 clear hs1
 simp only at HT1
 go_wp2_with fail
 refine HT1.out.mono ?_
 intro e v1 hE
 obtain ⟨y1, A1, cap1, rfl, hC, hy1, hR, hM⟩ := RyE.ev hE
 clear hE
 have hs1 : s1.ts.length ≤ N := by have := (Hle.out s HFin.out).len; rw [HK1.out] at this; simp only at this; omega
 have HX1 := Lib.hid (show Pa.rowP part [4, 5, 6, 7, 8, 9, 16] s1.ts.length x1 s1 = X by rw [← HX.out, HK1.out])
 obtain ⟨hd1, l1⟩ := y1
 simp only [Ex.hd, Ex.kids] at hC ⊢
 have hbv := ba v1 (xbox hd1 A1 l1.length cap1)
 have hVn := (MapKept.heap_alloc v1 (xbox hd1 A1 l1.length cap1)).1
 obtain ⟨V, hV⟩ : ∃ V, v1.heap.size = V := ⟨_, rfl⟩
 rw [hV] at hVn
 have hUW := HU.out.lt
 have hUV : U < V := by have := hM.size; omega
 have HS1 := Lib.hid (show RowQ part [4, 5, 6, 7, 8, 9, 16] m N U V w X x1 (.mk hd1 l1) s1 s1.ts.length A1 cap1 (v1.alloc (xbox hd1 A1 l1.length cap1)) from ⟨Nat.le_refl _, hs1, hR.next hbv, (HM1.out.trans hM).trans (ButM.of hbv), (HU.out.but HmU.out hM).next hbv, hVn, exC_ok.go (fun k hk => hbv.block k hk.2) (fun k hk => ⟨by have := hk.1; omega, by have := hk.2; have := hbv.size; omega, by have := hk.2; omega⟩) hC, hy1, HX1.out⟩)
 have HV := Lib.hid hV
 have HUV := Lib.hid hUV
 clear hR hM hC hN hbv hVn hUW hs1 hUV hy1
 go_wp2_with fail
 clear hV
 go_loopw [] (fun W => ∃ (x y : Ex) (s1 : Pa.Ps) (nn : Nat) (A : Option Addr) (cap : Nat), Hid (RowQ part [4, 5, 6, 7, 8, 9, 16] m N U V w X x y s1 nn A cap W)) (fun W => lenQ m W)
 case atStart => exact ⟨_, _, _, _, _, _, HS1⟩
 case round =>
  obtain ⟨x, y, s2, nn, A, cap, HS⟩ := hrel
  obtain ⟨hd, l⟩ := y
  obtain ⟨x0, g0, off0, c00, n0, k0, e0, e1, e2, _⟩ := HS.out.rs.head
  clear e0 e1
  obtain ⟨bd, hbd⟩ : ∃ b, s2.bad = b := ⟨_, rfl⟩
  rw [hbd] at e2
  have HBd := Lib.hid hbd
  clear hbd
  cases bd with
  | true =>
   have HZ := Lib.hid (oper_bad (ops := [4, 5, 6, 7, 8, 9, 16]) HS.out.rs.fin HBd.out (by decide))
   have HR0 := Lib.hid HS.out.rs
   have HB0 := Lib.hid HS.out.but
   have HU0 := Lib.hid HS.out.bu
   have HV0 := Lib.hid HS.out.bv
   have HE0 := Lib.hid HS.out.ex
   have HXe := Lib.hid (show X = (x, s2) by rw [← HS.out.eq, Pa.rowP_stop HZ.out])
   have HOk := Lib.hid (show s2.bad = false → .mk hd l = x from HS.out.ok)
   have d0 : (wr).cell? ⟨V, 0, none⟩ = some (.int .i64 hd.k) := (HV0.out).cell 0
   have d1 : (wr).cell? ⟨V, 1, none⟩ = some (.int .i64 hd.n) := (HV0.out).cell 1
   have d2 : (wr).cell? ⟨V, 2, none⟩ = some (.int .i64 hd.vk) := (HV0.out).cell 2
   have d3 : (wr).cell? ⟨V, 3, none⟩ = some (.int .i64 hd.vn) := (HV0.out).cell 3
   have d4 : (wr).cell? ⟨V, 4, none⟩ = some (.string hd.vs) := (HV0.out).cell 4
   have d5 : (wr).cell? ⟨V, 5, none⟩ = some (.string hd.tab) := (HV0.out).cell 5
   have d6 : (wr).cell? ⟨V, 6, none⟩ = some (.string hd.col) := (HV0.out).cell 6
   have d7 : (wr).cell? ⟨V, 7, none⟩ = some (.slice A l.length cap) := (HV0.out).cell 7
   have fd0 := (HV0.out).frozen 0
   have fd1 := (HV0.out).frozen 1
   have fd2 := (HV0.out).frozen 2
   have fd3 := (HV0.out).frozen 3
   have fd4 := (HV0.out).frozen 4
   have fd5 := (HV0.out).frozen 5
   have fd6 := (HV0.out).frozen 6
   have fd7 := (HV0.out).frozen 7
   obtain ⟨c0, c1, c2, c3, c4, c5, c6, c7⟩ := cl8 (w := wr) (HU0.out)
   have fc0 := (HU0.out).frozen 0
   have fc1 := (HU0.out).frozen 1
   have fc2 := (HU0.out).frozen 2
   have fc3 := (HU0.out).frozen 3
   have fc4 := (HU0.out).frozen 4
   have fc5 := (HU0.out).frozen 5
   have fc6 := (HU0.out).frozen 6
   have fc7 := (HU0.out).frozen 7
   have hUneV : U ≠ V := Nat.ne_of_lt HUV.out
   have hVneU : V ≠ U := Nat.ne_of_gt HUV.out
   go_wp2_with fail
   exact bodyPost_ret (v := XV hd A l.length cap) (by simp [results, Tryz.results145, go_sem, c0, c1, c2, c3, c4, c5, c6, c7]) rfl (by rw [HXe.out]; exact RyE.fin (c := xcell (hd, A, l.length, cap)) exC_ok HUl.out HmU.out HB0.out HR0.out (exC_ok.go (fun _ _ => rfl) (fun k hk => ⟨hk.1, hk.2.1⟩) HE0.out) HOk.out ((OnU.refl _ _).set.set.set.set.set.set.set.set))
  | false =>
   have HOk0 := Lib.hid (show Ex.mk hd l = x from HS.out.ok HBd.out)
   have hb1 := ba wr (.cells #[.string ⟨(Pa.begins 4).toArray⟩, .string ⟨(Pa.begins 5).toArray⟩, .string ⟨(Pa.begins 6).toArray⟩, .string ⟨(Pa.begins 7).toArray⟩, .string ⟨(Pa.begins 8).toArray⟩, .string ⟨(Pa.begins 9).toArray⟩] 9)
   have hb2 := ba (wr.alloc (.cells #[.string ⟨(Pa.begins 4).toArray⟩, .string ⟨(Pa.begins 5).toArray⟩, .string ⟨(Pa.begins 6).toArray⟩, .string ⟨(Pa.begins 7).toArray⟩, .string ⟨(Pa.begins 8).toArray⟩, .string ⟨(Pa.begins 9).toArray⟩] 9)) (.cells #[.int .i64 4, .int .i64 5, .int .i64 6, .int .i64 7, .int .i64 8, .int .i64 9] 3)
   have hg1 := (hb2.block wr.heap.size (by rw [World.size_alloc]; omega)).trans (MapKept.heap_alloc wr (.cells #[.string ⟨(Pa.begins 4).toArray⟩, .string ⟨(Pa.begins 5).toArray⟩, .string ⟨(Pa.begins 6).toArray⟩, .string ⟨(Pa.begins 7).toArray⟩, .string ⟨(Pa.begins 8).toArray⟩, .string ⟨(Pa.begins 9).toArray⟩] 9)).1
   have hg2 := (MapKept.heap_alloc (wr.alloc (.cells #[.string ⟨(Pa.begins 4).toArray⟩, .string ⟨(Pa.begins 5).toArray⟩, .string ⟨(Pa.begins 6).toArray⟩, .string ⟨(Pa.begins 7).toArray⟩, .string ⟨(Pa.begins 8).toArray⟩, .string ⟨(Pa.begins 9).toArray⟩] 9)) (.cells #[.int .i64 4, .int .i64 5, .int .i64 6, .int .i64 7, .int .i64 8, .int .i64 9] 3)).1
   rw [World.size_alloc] at hg2
   have hmw := HS.out.rs.lt
   have HT := Lib.hid (qwhich_any m s2 [(Pa.begins 4, 4), (Pa.begins 5, 5), (Pa.begins 6, 6), (Pa.begins 7, 7), (Pa.begins 8, 8), (Pa.begins 9, 9)] wr.heap.size (wr.heap.size + 1) 6 6 _ ((HS.out.rs.next hb1).next hb2) (by decide) hmw (by omega) (fun j x hj => by
    rw [World.cell?, World.cell?, hg1, hg2]
    match j, hj with
    | 0, hj => simp at hj; subst hj; exact ⟨rfl, rfl⟩
    | 1, hj => simp at hj; subst hj; exact ⟨rfl, rfl⟩
    | 2, hj => simp at hj; subst hj; exact ⟨rfl, rfl⟩
    | 3, hj => simp at hj; subst hj; exact ⟨rfl, rfl⟩
    | 4, hj => simp at hj; subst hj; exact ⟨rfl, rfl⟩
    | 5, hj => simp at hj; subst hj; exact ⟨rfl, rfl⟩
    | j + 6, hj => simp at hj))
   have hOC := oper_cmp [4, 5, 6, 7, 8, 9] s2 (by decide)
   obtain ⟨hle0, hyes, hno⟩ := which_le [(Pa.begins 4, 4), (Pa.begins 5, 5), (Pa.begins 6, 6), (Pa.begins 7, 7), (Pa.begins 8, 8), (Pa.begins 9, 9)] HS.out.rs.fin (by decide)
   have hwt := which_oper [4, 5, 6, 7, 8, 9] s2 (by decide)
   have hlt := operP_lt [4, 5, 6, 7, 8, 9] s2 (by decide)
   have hone : (Pa.operP [4, 5, 6, 7, 8, 9] s2).1 ≠ 0 → Pa.isOne (Pa.operP [4, 5, 6, 7, 8, 9] s2).1 = false := opers_two [4, 5, 6, 7, 8, 9] s2 (by decide)
   rw [hwt] at hlt hone
   change _ = if (whichP [(Pa.begins 4, 4), (Pa.begins 5, 5), (Pa.begins 6, 6), (Pa.begins 7, 7), (Pa.begins 8, 8), (Pa.begins 9, 9)] s2).1 ≠ 0 then whichP [(Pa.begins 4, 4), (Pa.begins 5, 5), (Pa.begins 6, 6), (Pa.begins 7, 7), (Pa.begins 8, 8), (Pa.begins 9, 9)] s2 else Pa.operP [16] s2 at hOC
   change (whichP [(Pa.begins 4, 4), (Pa.begins 5, 5), (Pa.begins 6, 6), (Pa.begins 7, 7), (Pa.begins 8, 8), (Pa.begins 9, 9)] s2).1 ≤ 17 at hlt
   change (whichP [(Pa.begins 4, 4), (Pa.begins 5, 5), (Pa.begins 6, 6), (Pa.begins 7, 7), (Pa.begins 8, 8), (Pa.begins 9, 9)] s2).1 ≠ 0 → Pa.isOne (whichP [(Pa.begins 4, 4), (Pa.begins 5, 5), (Pa.begins 6, 6), (Pa.begins 7, 7), (Pa.begins 8, 8), (Pa.begins 9, 9)] s2).1 = false at hone
   obtain ⟨⟨o, s3⟩, ho⟩ : ∃ z, whichP [(Pa.begins 4, 4), (Pa.begins 5, 5), (Pa.begins 6, 6), (Pa.begins 7, 7), (Pa.begins 8, 8), (Pa.begins 9, 9)] s2 = z := ⟨_, rfl⟩
   rw [ho] at HT hOC hyes hno hlt hone
   have HOC := Lib.hid (show Pa.operP [4, 5, 6, 7, 8, 9, 16] s2 = if o ≠ 0 then (o, s3) else Pa.operP [16] s2 from hOC)
   have HMb := Lib.hid (ButM.of (m := m) (bt hb1 hb2))
   have Hyes := Lib.hid hyes
   have Hno := Lib.hid hno
   have Hone := Lib.hid hone
   simp only at HT
   clear hOC hwt ho hyes hno hlt hone hle0 hb1 hb2 hg1 hg2 hmw
   go_wp2_with fail
   refine HT.out.mono ?_
   rintro e w1 ⟨rfl, hR, hM0⟩
   have hM := HMb.out.trans hM0
   clear hM0
   have HR1 := Lib.hid hR
   have HB1 := Lib.hid (HS.out.but.trans hM)
   have HU1 := Lib.hid (HS.out.bu.but HmU.out hM)
   have HV1 := Lib.hid (HS.out.bv.but (Nat.lt_trans HmU.out HUV.out) hM)
   have HE1 := Lib.hid (show exC (Bv U V w1.heap.size) w1 (.mk hd l) (xcell (hd, A, l.length, cap)) from exC_ok.go (fun k hk => hM.block k hk.2.1 (by have := hk.1; have := HmU.out; omega)) (fun k hk => ⟨hk.1, Nat.lt_of_lt_of_le hk.2.1 hM.size, hk.2.2⟩) HS.out.ex)
   clear hR hM
   by_cases hz : o = 0
   ·subst hz
    obtain rfl := Hno.out rfl
    have HT2 := Lib.hid (qtake_any m s3 (Pa.begins 16) w1 HR1.out)
    obtain ⟨t2, ht⟩ : ∃ z, (Pa.takeW (Pa.begins 16) s3).1 = z := ⟨_, rfl⟩
    obtain ⟨s5, hs⟩ : ∃ z, (Pa.takeW (Pa.begins 16) s3).2 = z := ⟨_, rfl⟩
    obtain ⟨_, hyes2, hno2⟩ := Pa.takeW_le (Pa.begins 16) HR1.out.fin
    rw [ht, hs] at HT2 hyes2 hno2
    have HK := Lib.hid (show Pa.operP [4, 5, 6, 7, 8, 9, 16] s3 = if t2 then Pa.nullP s5 else (0, s3) by rw [HOC.out, if_neg (by simp), Pa.operP, ht, hs, if_pos rfl]; rfl)
    clear ht hs
    cases t2 with
    | false =>
     obtain rfl := hno2 rfl
     clear hyes2 hno2
     go_wp2_with fail
     refine HT2.out.mono ?_
     rintro e w2 ⟨rfl, hR, hM⟩
     have HR2 := Lib.hid hR
     have HB2 := Lib.hid (HB1.out.trans hM)
     have HU2 := Lib.hid (HU1.out.but HmU.out hM)
     have HV2 := Lib.hid (HV1.out.but (Nat.lt_trans HmU.out HUV.out) hM)
     have HE2 := Lib.hid (show exC (Bv U V w2.heap.size) w2 (.mk hd l) (xcell (hd, A, l.length, cap)) from exC_ok.go (fun k hk => hM.block k hk.2.1 (by have := hk.1; have := HmU.out; omega)) (fun k hk => ⟨hk.1, Nat.lt_of_lt_of_le hk.2.1 hM.size, hk.2.2⟩) HE1.out)
     clear hR hM
     have HXe := Lib.hid (show X = (x, s5) by rw [← HS.out.eq, Pa.rowP_stop (by rw [HK.out]; rfl)])
     have HOk := Lib.hid (show s5.bad = false → .mk hd l = x from HS.out.ok)
     have d0 : (w2).cell? ⟨V, 0, none⟩ = some (.int .i64 hd.k) := (HV2.out).cell 0
     have d1 : (w2).cell? ⟨V, 1, none⟩ = some (.int .i64 hd.n) := (HV2.out).cell 1
     have d2 : (w2).cell? ⟨V, 2, none⟩ = some (.int .i64 hd.vk) := (HV2.out).cell 2
     have d3 : (w2).cell? ⟨V, 3, none⟩ = some (.int .i64 hd.vn) := (HV2.out).cell 3
     have d4 : (w2).cell? ⟨V, 4, none⟩ = some (.string hd.vs) := (HV2.out).cell 4
     have d5 : (w2).cell? ⟨V, 5, none⟩ = some (.string hd.tab) := (HV2.out).cell 5
     have d6 : (w2).cell? ⟨V, 6, none⟩ = some (.string hd.col) := (HV2.out).cell 6
     have d7 : (w2).cell? ⟨V, 7, none⟩ = some (.slice A l.length cap) := (HV2.out).cell 7
     have fd0 := (HV2.out).frozen 0
     have fd1 := (HV2.out).frozen 1
     have fd2 := (HV2.out).frozen 2
     have fd3 := (HV2.out).frozen 3
     have fd4 := (HV2.out).frozen 4
     have fd5 := (HV2.out).frozen 5
     have fd6 := (HV2.out).frozen 6
     have fd7 := (HV2.out).frozen 7
     obtain ⟨c0, c1, c2, c3, c4, c5, c6, c7⟩ := cl8 (w := w2) (HU2.out)
     have fc0 := (HU2.out).frozen 0
     have fc1 := (HU2.out).frozen 1
     have fc2 := (HU2.out).frozen 2
     have fc3 := (HU2.out).frozen 3
     have fc4 := (HU2.out).frozen 4
     have fc5 := (HU2.out).frozen 5
     have fc6 := (HU2.out).frozen 6
     have fc7 := (HU2.out).frozen 7
     have hUneV : U ≠ V := Nat.ne_of_lt HUV.out
     have hVneU : V ≠ U := Nat.ne_of_gt HUV.out
     go_wp2_with fail
     exact bodyPost_ret (v := XV hd A l.length cap) (by simp [results, Tryz.results145, go_sem, c0, c1, c2, c3, c4, c5, c6, c7]) rfl (by rw [HXe.out]; exact RyE.fin (c := xcell (hd, A, l.length, cap)) exC_ok HUl.out HmU.out HB2.out HR2.out (exC_ok.go (fun _ _ => rfl) (fun k hk => ⟨hk.1, hk.2.1⟩) HE2.out) HOk.out ((OnU.refl _ _).set.set.set.set.set.set.set.set))
    | true =>
     have Hl5 := Lib.hid (hyes2 rfl).2.2
     clear hyes2 hno2
     have HTn := Lib.hid (fun W hR => qtake_any m s5 Pa.wNOT W hR)
     have hfn := HR1.out.fin
     obtain ⟨tn, htn⟩ : ∃ z, (Pa.takeW Pa.wNOT s5).1 = z := ⟨_, rfl⟩
     obtain ⟨s6, hs6⟩ : ∃ z, (Pa.takeW Pa.wNOT s5).2 = z := ⟨_, rfl⟩
     rw [htn, hs6] at HTn
     obtain ⟨s7, hs7⟩ : ∃ z, Pa.mustW Pa.wNULL s6 = z := ⟨_, rfl⟩
     have HK2 := Lib.hid (show Pa.operP [4, 5, 6, 7, 8, 9, 16] s3 = (if tn then 17 else 16, s7) by rw [HK.out, if_pos rfl, Pa.nullP, htn, hs6, hs7])
     have HN6 := Lib.hid htn
     have HN7 := Lib.hid hs6
     have HN8 := Lib.hid hs7
     clear htn hs6 hs7 hfn
     go_wp2_with fail
     refine HT2.out.mono ?_
     rintro e w2 ⟨rfl, hR, hM⟩
     have HR2 := Lib.hid hR
     have HB2 := Lib.hid (HB1.out.trans hM)
     have HU2 := Lib.hid (HU1.out.but HmU.out hM)
     have HV2 := Lib.hid (HV1.out.but (Nat.lt_trans HmU.out HUV.out) hM)
     have HE2 := Lib.hid (show exC (Bv U V w2.heap.size) w2 (.mk hd l) (xcell (hd, A, l.length, cap)) from exC_ok.go (fun k hk => hM.block k hk.2.1 (by have := hk.1; have := HmU.out; omega)) (fun k hk => ⟨hk.1, Nat.lt_of_lt_of_le hk.2.1 hM.size, hk.2.2⟩) HE1.out)
     clear hR hM
     have HLs := Lib.hid (show s7.ts.length + 1 ≤ s3.ts.length by
      have h1 := (Pa.takeW_le Pa.wNOT HR2.out.fin).1
      have h2 := (Pa.mustW_le Pa.wNULL h1.fin).len
      have h3 := h1.len
      rw [HN7.out] at h2 h3
      rw [HN8.out] at h2
      have := Hl5.out
      omega)
     obtain ⟨nn, rfl⟩ : ∃ k, nn = k + 1 := ⟨nn - 1, by have := HLs.out; have := HS.out.len; omega⟩
     have HTn2 := Lib.hid (HTn.out w2 HR2.out)
     cases tn with
     | true =>
      go_wp2_with fail
      refine HTn2.out.mono ?_
      rintro e w3 ⟨rfl, hR, hM⟩
      have HR3 := Lib.hid hR
      have HB3 := Lib.hid (HB2.out.trans hM)
      have HU3 := Lib.hid (HU2.out.but HmU.out hM)
      have HV3 := Lib.hid (HV2.out.but (Nat.lt_trans HmU.out HUV.out) hM)
      have HE3 := Lib.hid (show exC (Bv U V w3.heap.size) w3 (.mk hd l) (xcell (hd, A, l.length, cap)) from exC_ok.go (fun k hk => hM.block k hk.2.1 (by have := hk.1; have := HmU.out; omega)) (fun k hk => ⟨hk.1, Nat.lt_of_lt_of_le hk.2.1 hM.size, hk.2.2⟩) HE2.out)
      clear hR hM
      have HTm := Lib.hid (qmust_any m s6 Pa.wNULL w3 HR3.out)
      rw [HN8.out] at HTm
      go_wp2_with fail
      refine HTm.out.mono ?_
      rintro e w4 ⟨rfl, hR, hM⟩
      have HR4 := Lib.hid hR
      have HB4 := Lib.hid (HB3.out.trans hM)
      have HU4 := Lib.hid (HU3.out.but HmU.out hM)
      have HV4 := Lib.hid (HV3.out.but (Nat.lt_trans HmU.out HUV.out) hM)
      have HE4 := Lib.hid (show exC (Bv U V w4.heap.size) w4 (.mk hd l) (xcell (hd, A, l.length, cap)) from exC_ok.go (fun k hk => hM.block k hk.2.1 (by have := hk.1; have := HmU.out; omega)) (fun k hk => ⟨hk.1, Nat.lt_of_lt_of_le hk.2.1 hM.size, hk.2.2⟩) HE3.out)
      clear hR hM
      have d0 : (w4).cell? ⟨V, 0, none⟩ = some (.int .i64 hd.k) := (HV4.out).cell 0
      have d1 : (w4).cell? ⟨V, 1, none⟩ = some (.int .i64 hd.n) := (HV4.out).cell 1
      have d2 : (w4).cell? ⟨V, 2, none⟩ = some (.int .i64 hd.vk) := (HV4.out).cell 2
      have d3 : (w4).cell? ⟨V, 3, none⟩ = some (.int .i64 hd.vn) := (HV4.out).cell 3
      have d4 : (w4).cell? ⟨V, 4, none⟩ = some (.string hd.vs) := (HV4.out).cell 4
      have d5 : (w4).cell? ⟨V, 5, none⟩ = some (.string hd.tab) := (HV4.out).cell 5
      have d6 : (w4).cell? ⟨V, 6, none⟩ = some (.string hd.col) := (HV4.out).cell 6
      have d7 : (w4).cell? ⟨V, 7, none⟩ = some (.slice A l.length cap) := (HV4.out).cell 7
      have fd0 := (HV4.out).frozen 0
      have fd1 := (HV4.out).frozen 1
      have fd2 := (HV4.out).frozen 2
      have fd3 := (HV4.out).frozen 3
      have fd4 := (HV4.out).frozen 4
      have fd5 := (HV4.out).frozen 5
      have fd6 := (HV4.out).frozen 6
      have fd7 := (HV4.out).frozen 7
      have hUneV : U ≠ V := Nat.ne_of_lt HUV.out
      have hVneU : V ≠ U := Nat.ne_of_gt HUV.out
      go_wp2_with fail
      refine (refOp_any 17 (some ⟨w4.heap.size, 0, none⟩) 1 1 _).mono ?_
      rintro e w5 ⟨rfl, hb5⟩
      obtain ⟨HP5, e0, e1, e2, e3, e4, e5, e6, e7, fe0, fe1, fe2, fe3, fe4, fe5, fe6, fe7⟩ := madeq_one (o := 17) HR4.out HB4.out HU4.out HV4.out HE4.out hb5
      clear hb5 d0 fd0 d1 fd1 d2 fd2 d3 fd3 d4 fd4 d5 fd5 d6 fd6 d7 fd7
      have HX2 := Lib.hid (show Pa.rowP part [4, 5, 6, 7, 8, 9, 16] nn (Pa.mkOp 17 [.mk hd l]) s7 = X by rw [← HS.out.eq, ← HOk0.out, rowP_one (by rw [HK2.out]; simp) (by rw [HK2.out]; rfl), HK2.out]; rfl)
      have HSn := Lib.hid (RowQ.step (part := part) (ops := [4, 5, 6, 7, 8, 9, 16]) (N := N) (nn := nn) (n := 1) (x := Pa.mkOp 17 [.mk hd l]) rfl (by have := HLs.out; have := HS.out.len; omega) (by have := HLs.out; have := HS.out.most; omega) HmU.out HUV.out (Nat.le_of_eq HUl.out) HP5.out.rs HP5.out.but HP5.out.bu HP5.out.ez (fun _ => rfl) HX2.out ((OnU.refl V w5).set.set.set.set.set.set.set.set) (box8_set HP5.out.bv _ _ _ _ _ _ _ _))
      go_wp2_with fail
      go_roundw
      case rel => exact ⟨_, _, _, _, _, _, HSn⟩
      case measure => refine Nat.lt_of_le_of_lt (Nat.le_of_eq HSn.out.rs.len) ?_; rw [HS.out.rs.len]; have := HLs.out; omega
     | false =>
      go_wp2_with fail
      refine HTn2.out.mono ?_
      rintro e w3 ⟨rfl, hR, hM⟩
      have HR3 := Lib.hid hR
      have HB3 := Lib.hid (HB2.out.trans hM)
      have HU3 := Lib.hid (HU2.out.but HmU.out hM)
      have HV3 := Lib.hid (HV2.out.but (Nat.lt_trans HmU.out HUV.out) hM)
      have HE3 := Lib.hid (show exC (Bv U V w3.heap.size) w3 (.mk hd l) (xcell (hd, A, l.length, cap)) from exC_ok.go (fun k hk => hM.block k hk.2.1 (by have := hk.1; have := HmU.out; omega)) (fun k hk => ⟨hk.1, Nat.lt_of_lt_of_le hk.2.1 hM.size, hk.2.2⟩) HE2.out)
      clear hR hM
      have HTm := Lib.hid (qmust_any m s6 Pa.wNULL w3 HR3.out)
      rw [HN8.out] at HTm
      go_wp2_with fail
      refine HTm.out.mono ?_
      rintro e w4 ⟨rfl, hR, hM⟩
      have HR4 := Lib.hid hR
      have HB4 := Lib.hid (HB3.out.trans hM)
      have HU4 := Lib.hid (HU3.out.but HmU.out hM)
      have HV4 := Lib.hid (HV3.out.but (Nat.lt_trans HmU.out HUV.out) hM)
      have HE4 := Lib.hid (show exC (Bv U V w4.heap.size) w4 (.mk hd l) (xcell (hd, A, l.length, cap)) from exC_ok.go (fun k hk => hM.block k hk.2.1 (by have := hk.1; have := HmU.out; omega)) (fun k hk => ⟨hk.1, Nat.lt_of_lt_of_le hk.2.1 hM.size, hk.2.2⟩) HE3.out)
      clear hR hM
      have d0 : (w4).cell? ⟨V, 0, none⟩ = some (.int .i64 hd.k) := (HV4.out).cell 0
      have d1 : (w4).cell? ⟨V, 1, none⟩ = some (.int .i64 hd.n) := (HV4.out).cell 1
      have d2 : (w4).cell? ⟨V, 2, none⟩ = some (.int .i64 hd.vk) := (HV4.out).cell 2
      have d3 : (w4).cell? ⟨V, 3, none⟩ = some (.int .i64 hd.vn) := (HV4.out).cell 3
      have d4 : (w4).cell? ⟨V, 4, none⟩ = some (.string hd.vs) := (HV4.out).cell 4
      have d5 : (w4).cell? ⟨V, 5, none⟩ = some (.string hd.tab) := (HV4.out).cell 5
      have d6 : (w4).cell? ⟨V, 6, none⟩ = some (.string hd.col) := (HV4.out).cell 6
      have d7 : (w4).cell? ⟨V, 7, none⟩ = some (.slice A l.length cap) := (HV4.out).cell 7
      have fd0 := (HV4.out).frozen 0
      have fd1 := (HV4.out).frozen 1
      have fd2 := (HV4.out).frozen 2
      have fd3 := (HV4.out).frozen 3
      have fd4 := (HV4.out).frozen 4
      have fd5 := (HV4.out).frozen 5
      have fd6 := (HV4.out).frozen 6
      have fd7 := (HV4.out).frozen 7
      have hUneV : U ≠ V := Nat.ne_of_lt HUV.out
      have hVneU : V ≠ U := Nat.ne_of_gt HUV.out
      go_wp2_with fail
      refine (refOp_any 16 (some ⟨w4.heap.size, 0, none⟩) 1 1 _).mono ?_
      rintro e w5 ⟨rfl, hb5⟩
      obtain ⟨HP5, e0, e1, e2, e3, e4, e5, e6, e7, fe0, fe1, fe2, fe3, fe4, fe5, fe6, fe7⟩ := madeq_one (o := 16) HR4.out HB4.out HU4.out HV4.out HE4.out hb5
      clear hb5 d0 fd0 d1 fd1 d2 fd2 d3 fd3 d4 fd4 d5 fd5 d6 fd6 d7 fd7
      have HX2 := Lib.hid (show Pa.rowP part [4, 5, 6, 7, 8, 9, 16] nn (Pa.mkOp 16 [.mk hd l]) s7 = X by rw [← HS.out.eq, ← HOk0.out, rowP_one (by rw [HK2.out]; simp) (by rw [HK2.out]; rfl), HK2.out]; rfl)
      have HSn := Lib.hid (RowQ.step (part := part) (ops := [4, 5, 6, 7, 8, 9, 16]) (N := N) (nn := nn) (n := 1) (x := Pa.mkOp 16 [.mk hd l]) rfl (by have := HLs.out; have := HS.out.len; omega) (by have := HLs.out; have := HS.out.most; omega) HmU.out HUV.out (Nat.le_of_eq HUl.out) HP5.out.rs HP5.out.but HP5.out.bu HP5.out.ez (fun _ => rfl) HX2.out ((OnU.refl V w5).set.set.set.set.set.set.set.set) (box8_set HP5.out.bv _ _ _ _ _ _ _ _))
      go_wp2_with fail
      go_roundw
      case rel => exact ⟨_, _, _, _, _, _, HSn⟩
      case measure => refine Nat.lt_of_le_of_lt (Nat.le_of_eq HSn.out.rs.len) ?_; rw [HS.out.rs.len]; have := HLs.out; omega
   ·have hzI : (o : Int) > 0 := by omega
    have HZ := Lib.hid hz
    have HK := Lib.hid (show Pa.operP [4, 5, 6, 7, 8, 9, 16] s2 = (o, s3) by rw [HOC.out, if_pos hz])
    have HOne := Lib.hid (Hone.out hz)
    clear hz
    have HLs := Lib.hid (show s3.ts.length + 1 ≤ s2.ts.length from (Hyes.out HZ.out).2)
    obtain ⟨nn, rfl⟩ : ∃ k, nn = k + 1 := ⟨nn - 1, by have := HLs.out; have := HS.out.len; omega⟩
    have hs3N : s3.ts.length ≤ N := by have := HLs.out; have := HS.out.most; omega
    obtain ⟨⟨z, s4⟩, hy⟩ : ∃ q, part s3 = q := ⟨_, rfl⟩
    have HY := Lib.hid hy
    have HX2 := Lib.hid (show Pa.rowP part [4, 5, 6, 7, 8, 9, 16] nn (Pa.mkOp o [.mk hd l, z]) s4 = X by rw [← HS.out.eq, ← HOk0.out]; rw [rowP_two (by rw [HK.out]; exact HZ.out) (by rw [HK.out]; exact HOne.out), HK.out, HY.out])
    have HLe4 := Lib.hid (show s4.ts.length ≤ s3.ts.length by have := (Hle.out s3 HR1.out.fin).len; rw [HY.out] at this; exact this)
    have HPx := Lib.hid (show ∀ W, Below w1.heap.size w1 W → Calls Tryz.prog 157 #[.pointer (some ⟨m, 0, none⟩)] W (fun e w4 => ∃ (y4 : Ex) (A4 : Option Addr) (cap4 : Nat), e = .returned (XV y4.hd A4 y4.kids.length cap4) ∧ Hid (PartQ m N U V w (.mk hd l) hd A l.length cap y4 z s4 A4 cap4 w4) ∧ V8 w4 V hd A l.length cap) from fun W hW => (HPp.out s3 W (HR1.out.next hW) hs3N).mono (fun e w4 hE => by
     rw [HY.out] at hE
     obtain ⟨y4, A4, cap4, rfl, hC, hy4, hR, hM⟩ := RyE.ev hE
     have hV := (HV1.out.next hW).but (Nat.lt_trans HmU.out HUV.out) hM
     exact ⟨y4, A4, cap4, rfl, Lib.hid ⟨hR, (HB1.out.trans (ButM.of hW)).trans hM, (HU1.out.next hW).but HmU.out hM, hV, exC_ok.go (fun k hk => (hM.block k (Nat.lt_of_lt_of_le hk.2.1 hW.size) (by have := hk.1; have := HmU.out; omega)).trans (hW.block k hk.2.1)) (fun k hk => ⟨hk.1, by have := hk.2.1; have := hW.size; have := hM.size; omega, hk.2.2⟩) HE1.out, exC_ok.go (fun _ _ => rfl) (fun k hk => ⟨by have := hk.1; have := hW.size; have := HU1.out.lt; omega, hk.2, by have := hk.1; have := hW.size; have := HV1.out.lt; omega⟩) hC, hy4⟩, v8_of hV⟩))
    have HMd := Lib.hid (show ∀ (y4 : Ex) (A4 : Option Addr) (cap4 : Nat) (w4 W : World) (_ : Hid (PartQ m N U V w (.mk hd l) hd A l.length cap y4 z s4 A4 cap4 w4)) (_ : W.heap = (w4.alloc (.cells (xcell (hd, A, l.length, cap) ++ xcell (y4.hd, A4, y4.kids.length, cap4)).toArray 37)).heap) (_ : Below w4.heap.size w4 W),
      Calls Tryz.prog 64 #[.int .i64 o, .slice (some ⟨w4.heap.size, 0, none⟩) 2 2] W (fun e w5 => e = .returned (XV (hdO (o : Nat)) (some ⟨w4.heap.size, 0, none⟩) 2 2) ∧ Hid (MadeQ m U V w (Pa.mkOp o [.mk hd l, y4]) (hdO (o : Nat)) s4 (some ⟨w4.heap.size, 0, none⟩) 2 2 hd A l.length cap w5) ∧ V8 w5 V hd A l.length cap) from fun y4 A4 cap4 w4 W hP hW hb => (refOp_any o (some ⟨w4.heap.size, 0, none⟩) 2 2 W).mono (fun e w5 hE => by
     obtain ⟨rfl, hb5⟩ := hE
     exact ⟨rfl, madeq_two hP.out hW hb hb5⟩))
    clear hs3N hy
    have d0 : (w1).cell? ⟨V, 0, none⟩ = some (.int .i64 hd.k) := (HV1.out).cell 0
    have d1 : (w1).cell? ⟨V, 1, none⟩ = some (.int .i64 hd.n) := (HV1.out).cell 1
    have d2 : (w1).cell? ⟨V, 2, none⟩ = some (.int .i64 hd.vk) := (HV1.out).cell 2
    have d3 : (w1).cell? ⟨V, 3, none⟩ = some (.int .i64 hd.vn) := (HV1.out).cell 3
    have d4 : (w1).cell? ⟨V, 4, none⟩ = some (.string hd.vs) := (HV1.out).cell 4
    have d5 : (w1).cell? ⟨V, 5, none⟩ = some (.string hd.tab) := (HV1.out).cell 5
    have d6 : (w1).cell? ⟨V, 6, none⟩ = some (.string hd.col) := (HV1.out).cell 6
    have d7 : (w1).cell? ⟨V, 7, none⟩ = some (.slice A l.length cap) := (HV1.out).cell 7
    have fd0 := (HV1.out).frozen 0
    have fd1 := (HV1.out).frozen 1
    have fd2 := (HV1.out).frozen 2
    have fd3 := (HV1.out).frozen 3
    have fd4 := (HV1.out).frozen 4
    have fd5 := (HV1.out).frozen 5
    have fd6 := (HV1.out).frozen 6
    have fd7 := (HV1.out).frozen 7
    have hUneV : U ≠ V := Nat.ne_of_lt HUV.out
    have hVneU : V ≠ U := Nat.ne_of_gt HUV.out
    go_wp2_with fail
    go_region_with (first
     | (refine (HPx.out _ (by repeat (first | exact Below.refl _ _ | refine Below.drew ?_))).mono ?_; rintro e w4 ⟨y4, A4, cap4, rfl, HP4, d0, d1, d2, d3, d4, d5, d6, d7, fd0, fd1, fd2, fd3, fd4, fd5, fd6, fd7⟩)
     | (refine (HMd.out _ _ _ _ _ HP4 rfl (by repeat (first | exact Below.refl _ _ | refine Below.drew ?_ | refine Below.alloc ?_ (Nat.le_refl _) _))).mono ?_; rintro e w5 ⟨rfl, HP5, d0, d1, d2, d3, d4, d5, d6, d7, fd0, fd1, fd2, fd3, fd4, fd5, fd6, fd7⟩))
    all_goals
     have HSn := Lib.hid (RowQ.step (part := part) (ops := [4, 5, 6, 7, 8, 9, 16]) (N := N) (nn := nn) (n := 2) (x := Pa.mkOp o [.mk hd l, z]) rfl (by have := HLs.out; have := HS.out.len; have := HLe4.out; omega) (by have := HLs.out; have := HS.out.most; have := HLe4.out; omega) HmU.out HUV.out (Nat.le_of_eq HUl.out) HP5.out.rs HP5.out.but HP5.out.bu HP5.out.ez (fun hb => by rw [HP4.out.ok hb]; rfl) HX2.out ((OnU.refl V w5).set.set.set.set.set.set.set.set) (box8_set HP5.out.bv _ _ _ _ _ _ _ _))
     go_wp2_with fail
     go_roundw
     case rel => exact ⟨_, _, _, _, _, _, HSn⟩
     case measure => refine Nat.lt_of_le_of_lt (Nat.le_of_eq HSn.out.rs.len) ?_; rw [HS.out.rs.len]; have := HLs.out; have := HLe4.out; omega
end Go.Proofs.YtfjimoccliejdaaGreatDoor
end
section
namespace Go.Proofs.YtfjimoccliejdaaGreatDoor
open Go.RowKit Go.Shelf

set_option maxRecDepth 100000 in
set_option maxHeartbeats 4000000 in
theorem qrow_sum (part : Pa.Ps → Ex × Pa.Ps) (hle : ∀ s, Pa.Fin s.ts → Pa.Le s (part s).2) (m N : Nat) (HP : OkQ 163 part m N) : OkQ 157 (fun s => Pa.rowP part [10, 11] (part s).2.ts.length (part s).1 (part s).2) m N := by
 intro s w h hN
 have HPp := Lib.hid HP
 have Hle := Lib.hid hle
 clear HP hle
 show Calls _ _ _ _ (RyE exC m w (Pa.rowP part [10, 11] (part s).2.ts.length (part s).1 (part s).2).1 (Pa.rowP part [10, 11] (part s).2.ts.length (part s).1 (part s).2).2)
 have HB := Lib.hid (ba w (.cells #[.int .i64 0, .int .i64 0, .int .i64 0, .int .i64 0, .string ⟨#[]⟩, .string ⟨#[]⟩, .string ⟨#[]⟩, .slice none 0 0] 37))
 have HU := Lib.hid (show BxU _ _ #[.int .i64 0, .int .i64 0, .int .i64 0, .int .i64 0, .string ⟨#[]⟩, .string ⟨#[]⟩, .string ⟨#[]⟩, .slice none 0 0] 37 from (MapKept.heap_alloc w (.cells #[.int .i64 0, .int .i64 0, .int .i64 0, .int .i64 0, .string ⟨#[]⟩, .string ⟨#[]⟩, .string ⟨#[]⟩, .slice none 0 0] 37)).1)
 have H1 := Lib.hid (h.next HB.out)
 have hmU := h.lt
 have HFin := Lib.hid h.fin
 obtain ⟨U, hU⟩ : ∃ U, w.heap.size = U := ⟨_, rfl⟩
 have HUl := Lib.hid hU
 have HSz := Lib.hid (show (w.alloc (.cells #[.int .i64 0, .int .i64 0, .int .i64 0, .int .i64 0, .string ⟨#[]⟩, .string ⟨#[]⟩, .string ⟨#[]⟩, .slice none 0 0] 37)).heap.size = U + 1 by rw [World.size_alloc, hU])
 rw [hU] at HU hmU
 have HmU := Lib.hid hmU
 obtain ⟨X, hX⟩ : ∃ X, Pa.rowP part [10, 11] (part s).2.ts.length (part s).1 (part s).2 = X := ⟨_, rfl⟩
 rw [hX]
 have HX := Lib.hid hX
 clear h hX hmU
 go_enter Tryz.func157, Tryz.ntmps157
 go_wp2_with fail
 generalize w.alloc (.cells #[.int .i64 0, .int .i64 0, .int .i64 0, .int .i64 0, .string ⟨#[]⟩, .string ⟨#[]⟩, .string ⟨#[]⟩, .slice none 0 0] 37) = W1 at HB HU H1 HSz ⊢
 clear hU
 have HM1 := Lib.hid (show ButM m w W1 from ButM.of HB.out)
 have HT1 := Lib.hid (HPp.out s W1 H1.out hN)
 obtain ⟨⟨x1, s1⟩, hs1⟩ : ∃ q, part s = q := ⟨_, rfl⟩
 rw [hs1] at HT1
 have HK1 := Lib.hid hs1
 clear hs1
 simp only at HT1
 go_wp2_with fail
 refine HT1.out.mono ?_
 intro e v1 hE
 obtain ⟨y1, A1, cap1, rfl, hC, hy1, hR, hM⟩ := RyE.ev hE
 clear hE
 have hs1 : s1.ts.length ≤ N := by have := (Hle.out s HFin.out).len; rw [HK1.out] at this; simp only at this; omega
 have HX1 := Lib.hid (show Pa.rowP part [10, 11] s1.ts.length x1 s1 = X by rw [← HX.out, HK1.out])
 obtain ⟨hd1, l1⟩ := y1
 simp only [Ex.hd, Ex.kids] at hC ⊢
 have hbv := ba v1 (xbox hd1 A1 l1.length cap1)
 have hVn := (MapKept.heap_alloc v1 (xbox hd1 A1 l1.length cap1)).1
 obtain ⟨V, hV⟩ : ∃ V, v1.heap.size = V := ⟨_, rfl⟩
 rw [hV] at hVn
 have hUW := HU.out.lt
 have hUV : U < V := by have := hM.size; omega
 have HS1 := Lib.hid (show RowQ part [10, 11] m N U V w X x1 (.mk hd1 l1) s1 s1.ts.length A1 cap1 (v1.alloc (xbox hd1 A1 l1.length cap1)) from ⟨Nat.le_refl _, hs1, hR.next hbv, (HM1.out.trans hM).trans (ButM.of hbv), (HU.out.but HmU.out hM).next hbv, hVn, exC_ok.go (fun k hk => hbv.block k hk.2) (fun k hk => ⟨by have := hk.1; omega, by have := hk.2; have := hbv.size; omega, by have := hk.2; omega⟩) hC, hy1, HX1.out⟩)
 have HV := Lib.hid hV
 have HUV := Lib.hid hUV
 clear hR hM hC hN hbv hVn hUW hs1 hUV hy1
 go_wp2_with fail
 clear hV
 go_loopw [] (fun W => ∃ (x y : Ex) (s1 : Pa.Ps) (nn : Nat) (A : Option Addr) (cap : Nat), Hid (RowQ part [10, 11] m N U V w X x y s1 nn A cap W)) (fun W => lenQ m W)
 case atStart => exact ⟨_, _, _, _, _, _, HS1⟩
 case round =>
  obtain ⟨x, y, s2, nn, A, cap, HS⟩ := hrel
  obtain ⟨hd, l⟩ := y
  obtain ⟨x0, g0, off0, c00, n0, k0, e0, e1, e2, _⟩ := HS.out.rs.head
  clear e0 e1
  obtain ⟨bd, hbd⟩ : ∃ b, s2.bad = b := ⟨_, rfl⟩
  rw [hbd] at e2
  have HBd := Lib.hid hbd
  clear hbd
  cases bd with
  | true =>
   have HZ := Lib.hid (oper_bad (ops := [10, 11]) HS.out.rs.fin HBd.out (by decide))
   have HR0 := Lib.hid HS.out.rs
   have HB0 := Lib.hid HS.out.but
   have HU0 := Lib.hid HS.out.bu
   have HV0 := Lib.hid HS.out.bv
   have HE0 := Lib.hid HS.out.ex
   have HXe := Lib.hid (show X = (x, s2) by rw [← HS.out.eq, Pa.rowP_stop HZ.out])
   have HOk := Lib.hid (show s2.bad = false → .mk hd l = x from HS.out.ok)
   have d0 : (wr).cell? ⟨V, 0, none⟩ = some (.int .i64 hd.k) := (HV0.out).cell 0
   have d1 : (wr).cell? ⟨V, 1, none⟩ = some (.int .i64 hd.n) := (HV0.out).cell 1
   have d2 : (wr).cell? ⟨V, 2, none⟩ = some (.int .i64 hd.vk) := (HV0.out).cell 2
   have d3 : (wr).cell? ⟨V, 3, none⟩ = some (.int .i64 hd.vn) := (HV0.out).cell 3
   have d4 : (wr).cell? ⟨V, 4, none⟩ = some (.string hd.vs) := (HV0.out).cell 4
   have d5 : (wr).cell? ⟨V, 5, none⟩ = some (.string hd.tab) := (HV0.out).cell 5
   have d6 : (wr).cell? ⟨V, 6, none⟩ = some (.string hd.col) := (HV0.out).cell 6
   have d7 : (wr).cell? ⟨V, 7, none⟩ = some (.slice A l.length cap) := (HV0.out).cell 7
   have fd0 := (HV0.out).frozen 0
   have fd1 := (HV0.out).frozen 1
   have fd2 := (HV0.out).frozen 2
   have fd3 := (HV0.out).frozen 3
   have fd4 := (HV0.out).frozen 4
   have fd5 := (HV0.out).frozen 5
   have fd6 := (HV0.out).frozen 6
   have fd7 := (HV0.out).frozen 7
   obtain ⟨c0, c1, c2, c3, c4, c5, c6, c7⟩ := cl8 (w := wr) (HU0.out)
   have fc0 := (HU0.out).frozen 0
   have fc1 := (HU0.out).frozen 1
   have fc2 := (HU0.out).frozen 2
   have fc3 := (HU0.out).frozen 3
   have fc4 := (HU0.out).frozen 4
   have fc5 := (HU0.out).frozen 5
   have fc6 := (HU0.out).frozen 6
   have fc7 := (HU0.out).frozen 7
   have hUneV : U ≠ V := Nat.ne_of_lt HUV.out
   have hVneU : V ≠ U := Nat.ne_of_gt HUV.out
   go_wp2_with fail
   exact bodyPost_ret (v := XV hd A l.length cap) (by simp [results, Tryz.results157, go_sem, c0, c1, c2, c3, c4, c5, c6, c7]) rfl (by rw [HXe.out]; exact RyE.fin (c := xcell (hd, A, l.length, cap)) exC_ok HUl.out HmU.out HB0.out HR0.out (exC_ok.go (fun _ _ => rfl) (fun k hk => ⟨hk.1, hk.2.1⟩) HE0.out) HOk.out ((OnU.refl _ _).set.set.set.set.set.set.set.set))
  | false =>
   have HOk0 := Lib.hid (show Ex.mk hd l = x from HS.out.ok HBd.out)
   have hb1 := ba wr (.cells #[.string ⟨(Pa.begins 10).toArray⟩, .string ⟨(Pa.begins 11).toArray⟩] 9)
   have hb2 := ba (wr.alloc (.cells #[.string ⟨(Pa.begins 10).toArray⟩, .string ⟨(Pa.begins 11).toArray⟩] 9)) (.cells #[.int .i64 10, .int .i64 11] 3)
   have hg1 := (hb2.block wr.heap.size (by rw [World.size_alloc]; omega)).trans (MapKept.heap_alloc wr (.cells #[.string ⟨(Pa.begins 10).toArray⟩, .string ⟨(Pa.begins 11).toArray⟩] 9)).1
   have hg2 := (MapKept.heap_alloc (wr.alloc (.cells #[.string ⟨(Pa.begins 10).toArray⟩, .string ⟨(Pa.begins 11).toArray⟩] 9)) (.cells #[.int .i64 10, .int .i64 11] 3)).1
   rw [World.size_alloc] at hg2
   have hmw := HS.out.rs.lt
   have HT := Lib.hid (qwhich_any m s2 [(Pa.begins 10, 10), (Pa.begins 11, 11)] wr.heap.size (wr.heap.size + 1) 2 2 _ ((HS.out.rs.next hb1).next hb2) (by decide) hmw (by omega) (fun j x hj => by
    rw [World.cell?, World.cell?, hg1, hg2]
    match j, hj with
    | 0, hj => simp at hj; subst hj; exact ⟨rfl, rfl⟩
    | 1, hj => simp at hj; subst hj; exact ⟨rfl, rfl⟩
    | j + 2, hj => simp at hj))
   have hWE := which_oper [10, 11] s2 (by decide)
   obtain ⟨⟨o, s3⟩, ho⟩ : ∃ z, whichP [(Pa.begins 10, 10), (Pa.begins 11, 11)] s2 = z := ⟨_, rfl⟩
   have HK := Lib.hid (show Pa.operP [10, 11] s2 = (o, s3) from hWE.trans ho)
   obtain ⟨_, hyes, hno⟩ := Pa.operP_le [10, 11] HS.out.rs.fin (by decide)
   have hlt := operP_lt [10, 11] s2 (by decide)
   rw [HK.out] at hyes hno hlt
   rw [ho] at HT
   have HMb := Lib.hid (ButM.of (m := m) (bt hb1 hb2))
   have Hyes := Lib.hid hyes
   have Hno := Lib.hid hno
   have Hlt := Lib.hid hlt
   simp only at HT
   clear hWE ho hyes hno hlt hb1 hb2 hg1 hg2 hmw
   go_wp2_with fail
   refine HT.out.mono ?_
   rintro e w1 ⟨rfl, hR, hM0⟩
   have hM := HMb.out.trans hM0
   clear hM0
   have HR1 := Lib.hid hR
   have HB1 := Lib.hid (HS.out.but.trans hM)
   have HU1 := Lib.hid (HS.out.bu.but HmU.out hM)
   have HV1 := Lib.hid (HS.out.bv.but (Nat.lt_trans HmU.out HUV.out) hM)
   have HE1 := Lib.hid (show exC (Bv U V w1.heap.size) w1 (.mk hd l) (xcell (hd, A, l.length, cap)) from exC_ok.go (fun k hk => hM.block k hk.2.1 (by have := hk.1; have := HmU.out; omega)) (fun k hk => ⟨hk.1, Nat.lt_of_lt_of_le hk.2.1 hM.size, hk.2.2⟩) HS.out.ex)
   clear hR hM
   by_cases hz : o = 0
   ·subst hz
    obtain rfl := Hno.out rfl
    have HXe := Lib.hid (show X = (x, s3) by rw [← HS.out.eq, Pa.rowP_stop (by rw [HK.out])])
    have HOk := Lib.hid (show s3.bad = false → .mk hd l = x from HS.out.ok)
    have d0 : (w1).cell? ⟨V, 0, none⟩ = some (.int .i64 hd.k) := (HV1.out).cell 0
    have d1 : (w1).cell? ⟨V, 1, none⟩ = some (.int .i64 hd.n) := (HV1.out).cell 1
    have d2 : (w1).cell? ⟨V, 2, none⟩ = some (.int .i64 hd.vk) := (HV1.out).cell 2
    have d3 : (w1).cell? ⟨V, 3, none⟩ = some (.int .i64 hd.vn) := (HV1.out).cell 3
    have d4 : (w1).cell? ⟨V, 4, none⟩ = some (.string hd.vs) := (HV1.out).cell 4
    have d5 : (w1).cell? ⟨V, 5, none⟩ = some (.string hd.tab) := (HV1.out).cell 5
    have d6 : (w1).cell? ⟨V, 6, none⟩ = some (.string hd.col) := (HV1.out).cell 6
    have d7 : (w1).cell? ⟨V, 7, none⟩ = some (.slice A l.length cap) := (HV1.out).cell 7
    have fd0 := (HV1.out).frozen 0
    have fd1 := (HV1.out).frozen 1
    have fd2 := (HV1.out).frozen 2
    have fd3 := (HV1.out).frozen 3
    have fd4 := (HV1.out).frozen 4
    have fd5 := (HV1.out).frozen 5
    have fd6 := (HV1.out).frozen 6
    have fd7 := (HV1.out).frozen 7
    obtain ⟨c0, c1, c2, c3, c4, c5, c6, c7⟩ := cl8 (w := w1) (HU1.out)
    have fc0 := (HU1.out).frozen 0
    have fc1 := (HU1.out).frozen 1
    have fc2 := (HU1.out).frozen 2
    have fc3 := (HU1.out).frozen 3
    have fc4 := (HU1.out).frozen 4
    have fc5 := (HU1.out).frozen 5
    have fc6 := (HU1.out).frozen 6
    have fc7 := (HU1.out).frozen 7
    have hUneV : U ≠ V := Nat.ne_of_lt HUV.out
    have hVneU : V ≠ U := Nat.ne_of_gt HUV.out
    go_wp2_with fail
    exact bodyPost_ret (v := XV hd A l.length cap) (by simp [results, Tryz.results157, go_sem, c0, c1, c2, c3, c4, c5, c6, c7]) rfl (by rw [HXe.out]; exact RyE.fin (c := xcell (hd, A, l.length, cap)) exC_ok HUl.out HmU.out HB1.out HR1.out (exC_ok.go (fun _ _ => rfl) (fun k hk => ⟨hk.1, hk.2.1⟩) HE1.out) HOk.out ((OnU.refl _ _).set.set.set.set.set.set.set.set))
   ·have hzI : ((o : Int) == 0) = false := by rw [beq_eq_false_iff_ne]; omega
    have HZ := Lib.hid hz
    have HOne := Lib.hid (show Pa.isOne o = false from by
     have h : ∀ (ops : List Nat) (s : Pa.Ps), (∀ p ∈ ops, p ≠ 16 ∧ Pa.isOne p = false) → (Pa.operP ops s).1 ≠ 0 → Pa.isOne (Pa.operP ops s).1 = false := fun ops s h => opers_two ops s h
     have := h [10, 11] s2 (by decide) (by rw [HK.out]; exact hz)
     rwa [HK.out] at this)
    clear hz
    have HLs := Lib.hid (show s3.ts.length + 1 ≤ s2.ts.length from (Hyes.out HZ.out).2)
    obtain ⟨nn, rfl⟩ : ∃ k, nn = k + 1 := ⟨nn - 1, by have := HLs.out; have := HS.out.len; omega⟩
    have hs3N : s3.ts.length ≤ N := by have := HLs.out; have := HS.out.most; omega
    obtain ⟨⟨z, s4⟩, hy⟩ : ∃ q, part s3 = q := ⟨_, rfl⟩
    have HY := Lib.hid hy
    have HX2 := Lib.hid (show Pa.rowP part [10, 11] nn (Pa.mkOp o [.mk hd l, z]) s4 = X by rw [← HS.out.eq, ← HOk0.out]; rw [rowP_two (by rw [HK.out]; exact HZ.out) (by rw [HK.out]; exact HOne.out), HK.out, HY.out])
    have HLe4 := Lib.hid (show s4.ts.length ≤ s3.ts.length by have := (Hle.out s3 HR1.out.fin).len; rw [HY.out] at this; exact this)
    have HPx := Lib.hid (show ∀ W, Below w1.heap.size w1 W → Calls Tryz.prog 163 #[.pointer (some ⟨m, 0, none⟩)] W (fun e w4 => ∃ (y4 : Ex) (A4 : Option Addr) (cap4 : Nat), e = .returned (XV y4.hd A4 y4.kids.length cap4) ∧ Hid (PartQ m N U V w (.mk hd l) hd A l.length cap y4 z s4 A4 cap4 w4) ∧ V8 w4 V hd A l.length cap) from fun W hW => (HPp.out s3 W (HR1.out.next hW) hs3N).mono (fun e w4 hE => by
     rw [HY.out] at hE
     obtain ⟨y4, A4, cap4, rfl, hC, hy4, hR, hM⟩ := RyE.ev hE
     have hV := (HV1.out.next hW).but (Nat.lt_trans HmU.out HUV.out) hM
     exact ⟨y4, A4, cap4, rfl, Lib.hid ⟨hR, (HB1.out.trans (ButM.of hW)).trans hM, (HU1.out.next hW).but HmU.out hM, hV, exC_ok.go (fun k hk => (hM.block k (Nat.lt_of_lt_of_le hk.2.1 hW.size) (by have := hk.1; have := HmU.out; omega)).trans (hW.block k hk.2.1)) (fun k hk => ⟨hk.1, by have := hk.2.1; have := hW.size; have := hM.size; omega, hk.2.2⟩) HE1.out, exC_ok.go (fun _ _ => rfl) (fun k hk => ⟨by have := hk.1; have := hW.size; have := HU1.out.lt; omega, hk.2, by have := hk.1; have := hW.size; have := HV1.out.lt; omega⟩) hC, hy4⟩, v8_of hV⟩))
    have HMd := Lib.hid (show ∀ (y4 : Ex) (A4 : Option Addr) (cap4 : Nat) (w4 W : World) (_ : Hid (PartQ m N U V w (.mk hd l) hd A l.length cap y4 z s4 A4 cap4 w4)) (_ : W.heap = (w4.alloc (.cells (xcell (hd, A, l.length, cap) ++ xcell (y4.hd, A4, y4.kids.length, cap4)).toArray 37)).heap) (_ : Below w4.heap.size w4 W),
      Calls Tryz.prog 64 #[.int .i64 o, .slice (some ⟨w4.heap.size, 0, none⟩) 2 2] W (fun e w5 => e = .returned (XV (hdO (o : Nat)) (some ⟨w4.heap.size, 0, none⟩) 2 2) ∧ Hid (MadeQ m U V w (Pa.mkOp o [.mk hd l, y4]) (hdO (o : Nat)) s4 (some ⟨w4.heap.size, 0, none⟩) 2 2 hd A l.length cap w5) ∧ V8 w5 V hd A l.length cap) from fun y4 A4 cap4 w4 W hP hW hb => (refOp_any o (some ⟨w4.heap.size, 0, none⟩) 2 2 W).mono (fun e w5 hE => by
     obtain ⟨rfl, hb5⟩ := hE
     exact ⟨rfl, madeq_two hP.out hW hb hb5⟩))
    clear hs3N hy
    have d0 : (w1).cell? ⟨V, 0, none⟩ = some (.int .i64 hd.k) := (HV1.out).cell 0
    have d1 : (w1).cell? ⟨V, 1, none⟩ = some (.int .i64 hd.n) := (HV1.out).cell 1
    have d2 : (w1).cell? ⟨V, 2, none⟩ = some (.int .i64 hd.vk) := (HV1.out).cell 2
    have d3 : (w1).cell? ⟨V, 3, none⟩ = some (.int .i64 hd.vn) := (HV1.out).cell 3
    have d4 : (w1).cell? ⟨V, 4, none⟩ = some (.string hd.vs) := (HV1.out).cell 4
    have d5 : (w1).cell? ⟨V, 5, none⟩ = some (.string hd.tab) := (HV1.out).cell 5
    have d6 : (w1).cell? ⟨V, 6, none⟩ = some (.string hd.col) := (HV1.out).cell 6
    have d7 : (w1).cell? ⟨V, 7, none⟩ = some (.slice A l.length cap) := (HV1.out).cell 7
    have fd0 := (HV1.out).frozen 0
    have fd1 := (HV1.out).frozen 1
    have fd2 := (HV1.out).frozen 2
    have fd3 := (HV1.out).frozen 3
    have fd4 := (HV1.out).frozen 4
    have fd5 := (HV1.out).frozen 5
    have fd6 := (HV1.out).frozen 6
    have fd7 := (HV1.out).frozen 7
    have hUneV : U ≠ V := Nat.ne_of_lt HUV.out
    have hVneU : V ≠ U := Nat.ne_of_gt HUV.out
    go_wp2_with fail
    go_region_with (first
     | (refine (HPx.out _ (by repeat (first | exact Below.refl _ _ | refine Below.drew ?_))).mono ?_; rintro e w4 ⟨y4, A4, cap4, rfl, HP4, d0, d1, d2, d3, d4, d5, d6, d7, fd0, fd1, fd2, fd3, fd4, fd5, fd6, fd7⟩)
     | (refine (HMd.out _ _ _ _ _ HP4 rfl (by repeat (first | exact Below.refl _ _ | refine Below.drew ?_ | refine Below.alloc ?_ (Nat.le_refl _) _))).mono ?_; rintro e w5 ⟨rfl, HP5, d0, d1, d2, d3, d4, d5, d6, d7, fd0, fd1, fd2, fd3, fd4, fd5, fd6, fd7⟩))
    all_goals
     have HSn := Lib.hid (RowQ.step (part := part) (ops := [10, 11]) (N := N) (nn := nn) (n := 2) (x := Pa.mkOp o [.mk hd l, z]) rfl (by have := HLs.out; have := HS.out.len; have := HLe4.out; omega) (by have := HLs.out; have := HS.out.most; have := HLe4.out; omega) HmU.out HUV.out (Nat.le_of_eq HUl.out) HP5.out.rs HP5.out.but HP5.out.bu HP5.out.ez (fun hb => by rw [HP4.out.ok hb]; rfl) HX2.out ((OnU.refl V w5).set.set.set.set.set.set.set.set) (box8_set HP5.out.bv _ _ _ _ _ _ _ _))
     go_wp2_with fail
     go_roundw
     case rel => exact ⟨_, _, _, _, _, _, HSn⟩
     case measure => refine Nat.lt_of_le_of_lt (Nat.le_of_eq HSn.out.rs.len) ?_; rw [HS.out.rs.len]; have := HLs.out; have := HLe4.out; omega
end Go.Proofs.YtfjimoccliejdaaGreatDoor
end
