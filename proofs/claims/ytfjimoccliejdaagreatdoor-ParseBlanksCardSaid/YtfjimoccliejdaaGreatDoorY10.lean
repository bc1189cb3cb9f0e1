/-
  Rules of expressions: a row of operators whose parts the rule 'unary' reads.
Rules of expressions: the levels, one out of the next one.
Rules of expressions: what is enclosed, aggregates, first ones; all levels.
-/
import Derived.Test.YtfjimoccliejdaaGreatDoorY9
section
namespace Go.Proofs.YtfjimoccliejdaaGreatDoor
open Go.RowKit Go.Shelf

set_option maxRecDepth 100000 in
set_option maxHeartbeats 4000000 in
theorem row_unary (part : Pa.Ps → Ex × Pa.Ps) (hle : ∀ s, Pa.Fin s.ts → Pa.Le s (part s).2) (m N : Nat) (HP : Ok 165 part m N) (ops : List Nat) (hops : ∀ op ∈ ops, op < 17) (hnz : ∀ op ∈ ops, op ≠ 0) (hl : ops.length ≤ 100) (s : Pa.Ps) (g c : Nat) (w : World) (h : RS m w s) (hN : s.ts.length ≤ N) (hgm : m < g) (hO : ∀ (j op : Nat), ops[j]? = some op → w.cell? ⟨g, j, none⟩ = some (.int .i64 op)) :
    Calls Tryz.prog 60 #[.pointer (some ⟨m, 0, none⟩), .func (.func 165) #[.pointer (some ⟨m, 0, none⟩)] #[], .slice (some ⟨g, 0, none⟩) ops.length c] w (RuE exC m w (Pa.rowP part ops (part s).2.ts.length (part s).1 (part s).2).1 (Pa.rowP part ops (part s).2.ts.length (part s).1 (part s).2).2) := by
  have HPp := Lib.hid HP
  have HO := Lib.hid hO
  have HOps := Lib.hid (And.intro hops hnz)
  have Hle := Lib.hid hle
  clear HP hO hops hnz hle
  have HB := Lib.hid (ba w (.cells #[.int .i64 0, .int .i64 0, .int .i64 0, .int .i64 0, .string ⟨#[]⟩, .string ⟨#[]⟩, .string ⟨#[]⟩, .slice none 0 0] 37))
  have HU := Lib.hid (show BxU _ _ #[.int .i64 0, .int .i64 0, .int .i64 0, .int .i64 0, .string ⟨#[]⟩, .string ⟨#[]⟩, .string ⟨#[]⟩, .slice none 0 0] 37 from (MapKept.heap_alloc w (.cells #[.int .i64 0, .int .i64 0, .int .i64 0, .int .i64 0, .string ⟨#[]⟩, .string ⟨#[]⟩, .string ⟨#[]⟩, .slice none 0 0] 37)).1)
  have H1 := Lib.hid (h.next HB.out)
  have hmU := h.lt
  have HFin := Lib.hid h.fin
  obtain ⟨U, hU⟩ : ∃ U, w.heap.size = U := ⟨_, rfl⟩
  have HUl := Lib.hid hU
  rw [hU] at HU hmU
  have HmU := Lib.hid hmU
  obtain ⟨X, hX⟩ : ∃ X, Pa.rowP part ops (part s).2.ts.length (part s).1 (part s).2 = X := ⟨_, rfl⟩
  rw [hX]
  have HX := Lib.hid hX
  clear h hX hmU
  go_enter Tryz.func60, Tryz.ntmps60
  go_wp2_with fail
  generalize w.alloc (.cells #[.int .i64 0, .int .i64 0, .int .i64 0, .int .i64 0, .string ⟨#[]⟩, .string ⟨#[]⟩, .string ⟨#[]⟩, .slice none 0 0] 37) = W1 at HB HU H1 ⊢
  clear hU
  have HM1 := Lib.hid (show ButM m w W1 from ButM.of HB.out)
  have HT1 := Lib.hid (HPp.out s W1 H1.out hN)
  obtain ⟨⟨x1, s1⟩, hs1⟩ : ∃ q, part s = q := ⟨_, rfl⟩
  rw [hs1] at HT1
  have HK1 := Lib.hid hs1
  clear hs1
  simp only at HT1
  go_wp2_with fail
  refine HT1.out.mono ?_
  intro e v1 hE
  obtain ⟨A1, cap1, rfl, hC, hR, hM⟩ := RuE.ev hE
  clear hE
  have hs1 : s1.ts.length ≤ N := by have := (Hle.out s HFin.out).len; rw [HK1.out] at this; simp only at this; omega
  have HX1 := Lib.hid (show Pa.rowP part ops s1.ts.length x1 s1 = X by rw [← HX.out, HK1.out])
  obtain ⟨hd1, l1⟩ := x1
  simp only [Ex.hd, Ex.kids] at hC ⊢
  have hbv := ba v1 (xbox hd1 A1 l1.length cap1)
  have hVn := (MapKept.heap_alloc v1 (xbox hd1 A1 l1.length cap1)).1
  obtain ⟨V, hV⟩ : ∃ V, v1.heap.size = V := ⟨_, rfl⟩
  rw [hV] at hVn
  have hUW := HU.out.lt
  have hUV : U < V := by have := hM.size; omega
  have HS1 := Lib.hid (show RowS part ops m N U V w X (.mk hd1 l1) s1 s1.ts.length A1 cap1 (v1.alloc (xbox hd1 A1 l1.length cap1)) from ⟨Nat.le_refl _, hs1, hR.next hbv, (HM1.out.trans hM).trans (ButM.of hbv), (HU.out.but HmU.out hM).next hbv, hVn, exC_ok.go (fun k hk => hbv.block k hk.2) (fun k hk => ⟨by have := hk.1; omega, by have := hk.2; have := hbv.size; omega, by have := hk.2; omega⟩) hC, HX1.out⟩)
  have HV := Lib.hid hV
  have HUV := Lib.hid hUV
  clear hR hM hC hN hbv hVn hUW hs1 hUV
  go_wp2_with fail
  clear hV
  go_loopw [8] (fun _ W => ∃ (x : Ex) (s1 : Pa.Ps) (nn : Nat) (A : Option Addr) (cap : Nat), Hid (RowS part ops m N U V w X x s1 nn A cap W)) (fun _ W => lenR m W)
  case atStart => exact ⟨_, _, _, _, _, HS1⟩
  case round =>
    obtain ⟨x, s2, nn, A, cap, HS⟩ := hrel
    have hOw : ∀ (j op : Nat), ops[j]? = some op → wr.cell? ⟨g, j, none⟩ = some (.int .i64 op) := fun j op hj => HS.out.but.cell (Nat.ne_of_gt hgm) (HO.out j op hj)
    have HT := Lib.hid (oper_any m s2 ops g c wr HS.out.rs HOps.out.1 hOw hgm hl)
    obtain ⟨hle2, hnz2, hz2⟩ := Pa.operP_le ops HS.out.rs.fin HOps.out.2
    have hlt := operP_lt ops s2 HOps.out.1
    obtain ⟨o, ho⟩ : ∃ o, (Pa.operP ops s2).1 = o := ⟨_, rfl⟩
    obtain ⟨s3, hs3⟩ : ∃ s3, (Pa.operP ops s2).2 = s3 := ⟨_, rfl⟩
    rw [ho, hs3] at HT hnz2 hz2
    rw [ho] at hlt
    rw [hs3] at hle2
    have HK := Lib.hid (show Pa.operP ops s2 = (o, s3) by rw [← ho, ← hs3])
    have HLE := Lib.hid hle2
    have HNZ := Lib.hid hnz2
    have HZ := Lib.hid hz2
    clear hOw hle2 hnz2 hz2 ho hs3
    go_wp2_with fail
    refine HT.out.mono ?_
    rintro e w1 ⟨rfl, hR, hM⟩
    have HR1 := Lib.hid hR
    have HB1 := Lib.hid (HS.out.but.trans hM)
    have HU1 := Lib.hid (HS.out.bu.but HmU.out hM)
    have hmV : m < V := Nat.lt_trans HmU.out HUV.out
    have HV1 := Lib.hid (HS.out.bv.but hmV hM)
    have HE1 := Lib.hid (show exC (Bv U V w1.heap.size) w1 x (xcell (x.hd, A, x.kids.length, cap)) from exC_ok.go (fun k hk => hM.block k hk.2.1 (by have := hk.1; have := HmU.out; omega)) (fun k hk => ⟨hk.1, Nat.lt_of_lt_of_le hk.2.1 hM.size, hk.2.2⟩) HS.out.ex)
    have HmV := Lib.hid hmV
    have hUltV := HUV.out
    have hUneV : U ≠ V := Nat.ne_of_lt hUltV
    have hVneU : V ≠ U := Nat.ne_of_gt hUltV
    clear hR hM hmV hUltV
    obtain ⟨hd, l⟩ := x
    simp only [Ex.hd, Ex.kids] at HV1 HE1
    have d0 : (w1).cell? ⟨V, 0, none⟩ = some (.int .i64 hd.k) := (HV1.out).cell 0
    have d1 : (w1).cell? ⟨V, 1, none⟩ = some (.int .i64 hd.n) := (HV1.out).cell 1
    have d2 : (w1).cell? ⟨V, 2, none⟩ = some (.int .i64 hd.vk) := (HV1.out).cell 2
    have d3 : (w1).cell? ⟨V, 3, none⟩ = some (.int .i64 hd.vn) := (HV1.out).cell 3
    have d4 : (w1).cell? ⟨V, 4, none⟩ = some (.string hd.vs) := (HV1.out).cell 4
    have d5 : (w1).cell? ⟨V, 5, none⟩ = some (.string hd.tab) := (HV1.out).cell 5
    have d6 : (w1).cell? ⟨V, 6, none⟩ = some (.string hd.col) := (HV1.out).cell 6
    have d7 : (w1).cell? ⟨V, 7, none⟩ = some (.slice A l.length cap) := (HV1.out).cell 7
    have fd0 := (HV1.out).frozen 0
    have fd1 := (HV1.out).frozen 1
    have fd2 := (HV1.out).frozen 2
    have fd3 := (HV1.out).frozen 3
    have fd4 := (HV1.out).frozen 4
    have fd5 := (HV1.out).frozen 5
    have fd6 := (HV1.out).frozen 6
    have fd7 := (HV1.out).frozen 7
    by_cases hz : o = 0
    · subst hz
      obtain rfl := HZ.out rfl
      have HXe := Lib.hid (show X = (.mk hd l, s3) by rw [← HS.out.eq, Pa.rowP_stop (by rw [HK.out])])
      have c0 : (w1).cell? ⟨U, 0, none⟩ = some (.int .i64 0) := (HU1.out).cell 0
      have c1 : (w1).cell? ⟨U, 1, none⟩ = some (.int .i64 0) := (HU1.out).cell 1
      have c2 : (w1).cell? ⟨U, 2, none⟩ = some (.int .i64 0) := (HU1.out).cell 2
      have c3 : (w1).cell? ⟨U, 3, none⟩ = some (.int .i64 0) := (HU1.out).cell 3
      have c4 : (w1).cell? ⟨U, 4, none⟩ = some (.string ⟨#[]⟩) := (HU1.out).cell 4
      have c5 : (w1).cell? ⟨U, 5, none⟩ = some (.string ⟨#[]⟩) := (HU1.out).cell 5
      have c6 : (w1).cell? ⟨U, 6, none⟩ = some (.string ⟨#[]⟩) := (HU1.out).cell 6
      have c7 : (w1).cell? ⟨U, 7, none⟩ = some (.slice none 0 0) := (HU1.out).cell 7
      have fc0 := (HU1.out).frozen 0
      have fc1 := (HU1.out).frozen 1
      have fc2 := (HU1.out).frozen 2
      have fc3 := (HU1.out).frozen 3
      have fc4 := (HU1.out).frozen 4
      have fc5 := (HU1.out).frozen 5
      have fc6 := (HU1.out).frozen 6
      have fc7 := (HU1.out).frozen 7
      go_wp2_with fail
      exact bodyPost_ret (v := XV hd A l.length cap) (by simp [results, Tryz.results60, go_sem, c0, c1, c2, c3, c4, c5, c6, c7]) rfl (by rw [HXe.out]; exact RuE.fin (c := xcell (hd, A, l.length, cap)) exC_ok HUl.out HmU.out HB1.out HR1.out (exC_ok.go (fun _ _ => rfl) (fun k hk => ⟨hk.1, hk.2.1⟩) HE1.out) (OnU.refl _ _).set.set.set.set.set.set.set.set)
    · have hzI : ¬ ((o : Int) = 0) := by omega
      have har := isOne_ar hlt
      obtain ⟨nn, rfl⟩ : ∃ k, nn = k + 1 := ⟨nn - 1, by have := (HNZ.out hz).2; have := HS.out.len; omega⟩
      cases hone : Pa.isOne o with
      | true =>
        rw [if_pos hone] at har
        have HX2 := Lib.hid (show Pa.rowP part ops nn (Pa.mkOp o [.mk hd l]) s3 = X by rw [← HS.out.eq, rowP_one (by rw [HK.out]; exact hz) (by rw [HK.out]; exact hone), HK.out])
        have HLs := Lib.hid (show s3.ts.length + 1 ≤ s2.ts.length from (HNZ.out hz).2)
        have HAr := Lib.hid (ev_arity (n := (o : Int)) (w := w1) har)
        clear hone har hz
        go_wp2_with fail
        refine HAr.out.mono ?_
        rintro e w2 ⟨u, rfl, hb, rfl⟩
        have HR2 := Lib.hid (HR1.out.next hb)
        have HB2 := Lib.hid (HB1.out.trans (ButM.of hb))
        have HU2 := Lib.hid (HU1.out.next hb)
        have HV2 := Lib.hid (HV1.out.next hb)
        have HE2 := Lib.hid (show exC (Bv U V w2.heap.size) w2 (.mk hd l) (xcell (hd, A, l.length, cap)) from exC_ok.go (fun k hk => hb.block k hk.2.1) (fun k hk => ⟨hk.1, Nat.lt_of_lt_of_le hk.2.1 hb.size, hk.2.2⟩) HE1.out)
        clear hb d0 fd0 d1 fd1 d2 fd2 d3 fd3 d4 fd4 d5 fd5 d6 fd6 d7 fd7
        have d0 : (w2).cell? ⟨V, 0, none⟩ = some (.int .i64 hd.k) := (HV2.out).cell 0
        have d1 : (w2).cell? ⟨V, 1, none⟩ = some (.int .i64 hd.n) := (HV2.out).cell 1
        have d2 : (w2).cell? ⟨V, 2, none⟩ = some (.int .i64 hd.vk) := (HV2.out).cell 2
        have d3 : (w2).cell? ⟨V, 3, none⟩ = some (.int .i64 hd.vn) := (HV2.out).cell 3
        have d4 : (w2).cell? ⟨V, 4, none⟩ = some (.string hd.vs) := (HV2.out).cell 4
        have d5 : (w2).cell? ⟨V, 5, none⟩ = some (.string hd.tab) := (HV2.out).cell 5
        have d6 : (w2).cell? ⟨V, 6, none⟩ = some (.string hd.col) := (HV2.out).cell 6
        have d7 : (w2).cell? ⟨V, 7, none⟩ = some (.slice A l.length cap) := (HV2.out).cell 7
        have fd0 := (HV2.out).frozen 0
        have fd1 := (HV2.out).frozen 1
        have fd2 := (HV2.out).frozen 2
        have fd3 := (HV2.out).frozen 3
        have fd4 := (HV2.out).frozen 4
        have fd5 := (HV2.out).frozen 5
        have fd6 := (HV2.out).frozen 6
        have fd7 := (HV2.out).frozen 7
        have hE3 := exC_one (B' := Bv U V (w2.heap.size + 1)) (hdO (o : Int)) HE2.out (fun k hk => ⟨hk.2.1, hk.1, Nat.lt_succ_of_lt hk.2.1, hk.2.2⟩) ⟨HU2.out.lt, Nat.lt_succ_self _, Nat.ne_of_gt HV2.out.lt⟩ 37
        have hbx := ba w2 (xbox hd A l.length cap)
        have HE3 := Lib.hid hE3
        have HBx := Lib.hid hbx
        have HR3 := Lib.hid (HR2.out.next hbx)
        have HU3 := Lib.hid (HU2.out.next hbx)
        have HV3 := Lib.hid (HV2.out.next hbx)
        go_wp2_with fail
        refine (pmade_any 3 o (some ⟨w2.heap.size, 0, none⟩) 1 1 _).mono ?_
        rintro e w3 ⟨rfl, hb⟩
        have HR4 := Lib.hid (HR3.out.next hb)
        have HB4 := Lib.hid (HB2.out.trans ((ButM.of hbx).trans (ButM.of hb)))
        have HU4 := Lib.hid (HU3.out.next hb)
        have HV4 := Lib.hid (HV3.out.next hb)
        have HE4 := Lib.hid (show exC (Bv U V w3.heap.size) w3 (Pa.mkOp o [.mk hd l]) (xcell (hdO (o : Int), some ⟨w2.heap.size, 0, none⟩, 1, 1)) from exC_ok.go (fun k hk => hb.block k (by rw [World.size_alloc]; exact hk.2.1)) (fun k hk => ⟨hk.1, by have := hk.2.1; have := hb.size; rw [World.size_alloc] at this; omega, hk.2.2⟩) hE3)
        clear hb hbx hE3 d0 fd0 d1 fd1 d2 fd2 d3 fd3 d4 fd4 d5 fd5 d6 fd6 d7 fd7
        have d0 : (w3).cell? ⟨V, 0, none⟩ = some (.int .i64 hd.k) := (HV4.out).cell 0
        have d1 : (w3).cell? ⟨V, 1, none⟩ = some (.int .i64 hd.n) := (HV4.out).cell 1
        have d2 : (w3).cell? ⟨V, 2, none⟩ = some (.int .i64 hd.vk) := (HV4.out).cell 2
        have d3 : (w3).cell? ⟨V, 3, none⟩ = some (.int .i64 hd.vn) := (HV4.out).cell 3
        have d4 : (w3).cell? ⟨V, 4, none⟩ = some (.string hd.vs) := (HV4.out).cell 4
        have d5 : (w3).cell? ⟨V, 5, none⟩ = some (.string hd.tab) := (HV4.out).cell 5
        have d6 : (w3).cell? ⟨V, 6, none⟩ = some (.string hd.col) := (HV4.out).cell 6
        have d7 : (w3).cell? ⟨V, 7, none⟩ = some (.slice A l.length cap) := (HV4.out).cell 7
        have fd0 := (HV4.out).frozen 0
        have fd1 := (HV4.out).frozen 1
        have fd2 := (HV4.out).frozen 2
        have fd3 := (HV4.out).frozen 3
        have fd4 := (HV4.out).frozen 4
        have fd5 := (HV4.out).frozen 5
        have fd6 := (HV4.out).frozen 6
        have fd7 := (HV4.out).frozen 7
        have HSn := Lib.hid (RowS.step (part := part) (ops := ops) (N := N) (nn := nn) (n := 1) rfl (by have := HLs.out; have := HS.out.len; omega) (by have := HLs.out; have := HS.out.most; omega) HmU.out HUV.out (Nat.le_of_eq HUl.out) HR4.out HB4.out HU4.out HE4.out HX2.out ((OnU.refl V w3).set.set.set.set.set.set.set.set) (box8_set HV4.out _ _ _ _ _ _ _ _))
        go_wp2_with fail
        go_roundw
        case rel => exact ⟨_, _, _, _, _, HSn⟩
        case measure => rw [HSn.out.rs.len, HS.out.rs.len]; have := HLs.out; omega
      | false =>
        rw [if_neg (by simp [hone]), if_neg hz] at har
        have HLs := Lib.hid (show s3.ts.length + 1 ≤ s2.ts.length from (HNZ.out hz).2)
        have hs3N : s3.ts.length ≤ N := by have := HLs.out; have := HS.out.most; omega
        obtain ⟨⟨y, s4⟩, hy⟩ : ∃ q, part s3 = q := ⟨_, rfl⟩
        have HY := Lib.hid hy
        have HX2 := Lib.hid (show Pa.rowP part ops nn (Pa.mkOp o [.mk hd l, y]) s4 = X by rw [← HS.out.eq, rowP_two (by rw [HK.out]; exact hz) (by rw [HK.out]; exact hone), HK.out, HY.out])
        have HLe4 := Lib.hid (show s4.ts.length ≤ s3.ts.length by have := (Hle.out s3 HR1.out.fin).len; rw [HY.out] at this; exact this)
        have HAr := Lib.hid (ev_arity (n := (o : Int)) (w := w1) har)
        clear hone har hz hy
        go_wp2_with fail
        refine HAr.out.mono ?_
        rintro e w2 ⟨u, rfl, hb, rfl⟩
        have HR2 := Lib.hid (HR1.out.next hb)
        have HB2 := Lib.hid (HB1.out.trans (ButM.of hb))
        have HU2 := Lib.hid (HU1.out.next hb)
        have HV2 := Lib.hid (HV1.out.next hb)
        have HE2 := Lib.hid (show exC (Bv U V w2.heap.size) w2 (.mk hd l) (xcell (hd, A, l.length, cap)) from exC_ok.go (fun k hk => hb.block k hk.2.1) (fun k hk => ⟨hk.1, Nat.lt_of_lt_of_le hk.2.1 hb.size, hk.2.2⟩) HE1.out)
        have HPx := Lib.hid (show ∀ W, Below w2.heap.size w2 W → Calls Tryz.prog 165 #[.pointer (some ⟨m, 0, none⟩)] W (fun e w4 => ∃ A4 cap4, e = .returned (XV y.hd A4 y.kids.length cap4) ∧ Hid (PartS m N U V w (.mk hd l) hd A l.length cap y s4 A4 cap4 w4) ∧ V8 w4 V hd A l.length cap) from fun W hW => (HPp.out s3 W (HR2.out.next hW) hs3N).mono (fun e w4 hE => by
          rw [HY.out] at hE
          obtain ⟨A4, cap4, rfl, hC, hR, hM⟩ := RuE.ev hE
          have hV := (HV2.out.next hW).but HmV.out hM
          exact ⟨A4, cap4, rfl, Lib.hid ⟨hR, (HB2.out.trans (ButM.of hW)).trans hM, (HU2.out.next hW).but HmU.out hM, hV, exC_ok.go (fun k hk => (hM.block k (Nat.lt_of_lt_of_le hk.2.1 hW.size) (by have := hk.1; have := HmU.out; omega)).trans (hW.block k hk.2.1)) (fun k hk => ⟨hk.1, by have := hk.2.1; have := hW.size; have := hM.size; omega, hk.2.2⟩) HE2.out, exC_ok.go (fun _ _ => rfl) (fun k hk => ⟨by have := hk.1; have := hW.size; have := HU2.out.lt; omega, hk.2, by have := hk.1; have := hW.size; have := HV2.out.lt; omega⟩) hC⟩, v8_of hV⟩))
        have HMd := Lib.hid (show ∀ (A4 : Option Addr) (cap4 : Nat) (w4 W : World) (_ : Hid (PartS m N U V w (.mk hd l) hd A l.length cap y s4 A4 cap4 w4)) (_ : W.heap = (w4.alloc (.cells (xcell (hd, A, l.length, cap) ++ xcell (y.hd, A4, y.kids.length, cap4)).toArray 37)).heap) (_ : Below w4.heap.size w4 W),
            Calls Tryz.prog 112 #[.int .i64 3, .int .i64 o, .slice (some ⟨w4.heap.size, 0, none⟩) 2 2] W (fun e w5 => e = .returned (XV (hdO (o : Int)) (some ⟨w4.heap.size, 0, none⟩) 2 2) ∧ Hid (MadeS m U V w (Pa.mkOp o [.mk hd l, y]) (hdO (o : Int)) s4 (some ⟨w4.heap.size, 0, none⟩) 2 2 hd A l.length cap w5) ∧ V8 w5 V hd A l.length cap) from fun A4 cap4 w4 W hP hW hb => (pmade_any 3 o (some ⟨w4.heap.size, 0, none⟩) 2 2 W).mono (fun e w5 hE => by
          obtain ⟨rfl, hb5⟩ := hE
          exact ⟨rfl, made_two hP.out hW hb hb5⟩))
        clear hb hs3N d0 fd0 d1 fd1 d2 fd2 d3 fd3 d4 fd4 d5 fd5 d6 fd6 d7 fd7
        have d0 : (w2).cell? ⟨V, 0, none⟩ = some (.int .i64 hd.k) := (HV2.out).cell 0
        have d1 : (w2).cell? ⟨V, 1, none⟩ = some (.int .i64 hd.n) := (HV2.out).cell 1
        have d2 : (w2).cell? ⟨V, 2, none⟩ = some (.int .i64 hd.vk) := (HV2.out).cell 2
        have d3 : (w2).cell? ⟨V, 3, none⟩ = some (.int .i64 hd.vn) := (HV2.out).cell 3
        have d4 : (w2).cell? ⟨V, 4, none⟩ = some (.string hd.vs) := (HV2.out).cell 4
        have d5 : (w2).cell? ⟨V, 5, none⟩ = some (.string hd.tab) := (HV2.out).cell 5
        have d6 : (w2).cell? ⟨V, 6, none⟩ = some (.string hd.col) := (HV2.out).cell 6
        have d7 : (w2).cell? ⟨V, 7, none⟩ = some (.slice A l.length cap) := (HV2.out).cell 7
        have fd0 := (HV2.out).frozen 0
        have fd1 := (HV2.out).frozen 1
        have fd2 := (HV2.out).frozen 2
        have fd3 := (HV2.out).frozen 3
        have fd4 := (HV2.out).frozen 4
        have fd5 := (HV2.out).frozen 5
        have fd6 := (HV2.out).frozen 6
        have fd7 := (HV2.out).frozen 7
        go_wp2_with fail
        go_region_with (first
          | (refine (HPx.out _ (by repeat (first | exact Below.refl _ _ | refine Below.drew ?_))).mono ?_; rintro e w4 ⟨A4, cap4, rfl, HP4, d0, d1, d2, d3, d4, d5, d6, d7, fd0, fd1, fd2, fd3, fd4, fd5, fd6, fd7⟩)
          | (refine (HMd.out _ _ _ _ HP4 rfl (by repeat (first | exact Below.refl _ _ | refine Below.drew ?_ | refine Below.alloc ?_ (Nat.le_refl _) _))).mono ?_; rintro e w5 ⟨rfl, HP5, d0, d1, d2, d3, d4, d5, d6, d7, fd0, fd1, fd2, fd3, fd4, fd5, fd6, fd7⟩))
        all_goals
          have HSn := Lib.hid (RowS.step (part := part) (ops := ops) (N := N) (nn := nn) (n := 2) rfl (by have := HLs.out; have := HS.out.len; have := HLe4.out; omega) (by have := HLs.out; have := HS.out.most; have := HLe4.out; omega) HmU.out HUV.out (Nat.le_of_eq HUl.out) HP5.out.rs HP5.out.but HP5.out.bu HP5.out.ez HX2.out ((OnU.refl V w5).set.set.set.set.set.set.set.set) (box8_set HP5.out.bv _ _ _ _ _ _ _ _))
          go_wp2_with fail
          go_roundw
          case rel => exact ⟨_, _, _, _, _, HSn⟩
          case measure => rw [HSn.out.rs.len, HS.out.rs.len]; have := HLs.out; have := HLe4.out; omega
end Go.Proofs.YtfjimoccliejdaaGreatDoor
end
section
namespace Go.Proofs.YtfjimoccliejdaaGreatDoor
open Go.RowKit Go.Shelf

theorem lev_or (F : Nat) (s : Pa.Ps) : Pa.lev (F + 1) 0 s = Pa.rowP (Pa.lev F 1) [1] (Pa.lev F 1 s).2.ts.length (Pa.lev F 1 s).1 (Pa.lev F 1 s).2 := by rw [Pa.lev, if_neg (by decide), if_neg (by decide), if_neg (by decide)]; rfl
set_option maxRecDepth 100000 in
set_option maxHeartbeats 4000000 in
theorem por_any (F m N : Nat) (HP : Ok 61 (Pa.lev F 1) m N) : Ok 29 (Pa.lev (F + 1) 0) m N := by
  intro s w h hN
  rw [lev_or]
  have HPp := Lib.hid HP
  clear HP
  have HB := Lib.hid (ba w (.cells #[.int .i64 0, .int .i64 0, .int .i64 0, .int .i64 0, .string ⟨#[]⟩, .string ⟨#[]⟩, .string ⟨#[]⟩, .slice none 0 0] 37))
  have HU := Lib.hid (show BxU _ _ #[.int .i64 0, .int .i64 0, .int .i64 0, .int .i64 0, .string ⟨#[]⟩, .string ⟨#[]⟩, .string ⟨#[]⟩, .slice none 0 0] 37 from (MapKept.heap_alloc w (.cells #[.int .i64 0, .int .i64 0, .int .i64 0, .int .i64 0, .string ⟨#[]⟩, .string ⟨#[]⟩, .string ⟨#[]⟩, .slice none 0 0] 37)).1)
  have H1 := Lib.hid (h.next HB.out)
  have hmU := h.lt
  have HFin := Lib.hid h.fin
  obtain ⟨U, hU⟩ : ∃ U, w.heap.size = U := ⟨_, rfl⟩
  have HUl := Lib.hid hU
  have HSz := Lib.hid (show (w.alloc (.cells #[.int .i64 0, .int .i64 0, .int .i64 0, .int .i64 0, .string ⟨#[]⟩, .string ⟨#[]⟩, .string ⟨#[]⟩, .slice none 0 0] 37)).heap.size = U + 1 by rw [World.size_alloc, hU])
  rw [hU] at HU hmU
  have HmU := Lib.hid hmU
  obtain ⟨X, hX⟩ : ∃ X, Pa.rowP (Pa.lev F 1) [1] (Pa.lev F 1 s).2.ts.length (Pa.lev F 1 s).1 (Pa.lev F 1 s).2 = X := ⟨_, rfl⟩
  rw [hX]
  have HX := Lib.hid hX
  clear h hX hmU
  go_enter Tryz.func29, Tryz.ntmps29
  go_wp2_with fail
  generalize w.alloc (.cells #[.int .i64 0, .int .i64 0, .int .i64 0, .int .i64 0, .string ⟨#[]⟩, .string ⟨#[]⟩, .string ⟨#[]⟩, .slice none 0 0] 37) = W1 at HB HU H1 HSz ⊢
  clear hU
  have HM1 := Lib.hid (show ButM m w W1 from ButM.of HB.out)
  have hbo := ba W1 (.cells #[.int .i64 1] 3)
  have hgo := (MapKept.heap_alloc W1 (.cells #[.int .i64 1] 3)).1
  rw [HSz.out] at hgo
  have HT := Lib.hid (row_and (Pa.lev F 1) (fun s hs => Pa.lev_le F 1 s hs) m N HPp.out [1] (by decide) (by decide) (by decide) s (U + 1) 1 _ (H1.out.next hbo) hN (by have := HmU.out; omega) (fun j op hj => by
    rw [World.cell?, hgo]
    match j, hj with
    | 0, hj => simp at hj; subst hj; rfl
    | j + 1, hj => simp at hj))
  rw [HX.out] at HT
  have HMo := Lib.hid (HM1.out.trans (ButM.of hbo))
  have HUo := Lib.hid (HU.out.next hbo)
  clear hbo hgo hN
  go_wp2_with fail
  refine (HT.out).mono ?_
  intro e v9 hE
  obtain ⟨A9, cap9, rfl, hC, hR, hM⟩ := RuE.ev hE
  clear hE
  have HM9 := Lib.hid (HMo.out.trans hM)
  have HU9 := Lib.hid (HUo.out.but HmU.out hM)
  have HR9 := Lib.hid hR
  have HC9 := Lib.hid (exC_ok.wide (a' := U + 1) (b' := v9.heap.size) (by rw [World.size_alloc, HSz.out]; omega) (Nat.le_refl _) hC)
  clear hC hR hM
  have c0 : (v9).cell? ⟨U, 0, none⟩ = some (.int .i64 0) := (HU9.out).cell 0
  have c1 : (v9).cell? ⟨U, 1, none⟩ = some (.int .i64 0) := (HU9.out).cell 1
  have c2 : (v9).cell? ⟨U, 2, none⟩ = some (.int .i64 0) := (HU9.out).cell 2
  have c3 : (v9).cell? ⟨U, 3, none⟩ = some (.int .i64 0) := (HU9.out).cell 3
  have c4 : (v9).cell? ⟨U, 4, none⟩ = some (.string ⟨#[]⟩) := (HU9.out).cell 4
  have c5 : (v9).cell? ⟨U, 5, none⟩ = some (.string ⟨#[]⟩) := (HU9.out).cell 5
  have c6 : (v9).cell? ⟨U, 6, none⟩ = some (.string ⟨#[]⟩) := (HU9.out).cell 6
  have c7 : (v9).cell? ⟨U, 7, none⟩ = some (.slice none 0 0) := (HU9.out).cell 7
  have fc0 := (HU9.out).frozen 0
  have fc1 := (HU9.out).frozen 1
  have fc2 := (HU9.out).frozen 2
  have fc3 := (HU9.out).frozen 3
  have fc4 := (HU9.out).frozen 4
  have fc5 := (HU9.out).frozen 5
  have fc6 := (HU9.out).frozen 6
  have fc7 := (HU9.out).frozen 7
  go_wp2_with fail
  exact bodyPost_ret (v := XV X.1.hd A9 X.1.kids.length cap9) (by simp [results, Tryz.results29, go_sem, c0, c1, c2, c3, c4, c5, c6, c7]) rfl (RuE.fin (c := xcell (X.1.hd, A9, X.1.kids.length, cap9)) exC_ok HUl.out HmU.out HM9.out HR9.out HC9.out (OnU.refl _ _).set.set.set.set.set.set.set.set)
theorem lev_and (F : Nat) (s : Pa.Ps) : Pa.lev (F + 1) 1 s = Pa.rowP (Pa.lev F 2) [2] (Pa.lev F 2 s).2.ts.length (Pa.lev F 2 s).1 (Pa.lev F 2 s).2 := by rw [Pa.lev, if_neg (by decide), if_neg (by decide), if_neg (by decide)]; rfl
set_option maxRecDepth 100000 in
set_option maxHeartbeats 4000000 in
theorem pand_any (F m N : Nat) (HP : Ok 113 (Pa.lev F 2) m N) : Ok 61 (Pa.lev (F + 1) 1) m N := by
  intro s w h hN
  rw [lev_and]
  have HPp := Lib.hid HP
  clear HP
  have HB := Lib.hid (ba w (.cells #[.int .i64 0, .int .i64 0, .int .i64 0, .int .i64 0, .string ⟨#[]⟩, .string ⟨#[]⟩, .string ⟨#[]⟩, .slice none 0 0] 37))
  have HU := Lib.hid (show BxU _ _ #[.int .i64 0, .int .i64 0, .int .i64 0, .int .i64 0, .string ⟨#[]⟩, .string ⟨#[]⟩, .string ⟨#[]⟩, .slice none 0 0] 37 from (MapKept.heap_alloc w (.cells #[.int .i64 0, .int .i64 0, .int .i64 0, .int .i64 0, .string ⟨#[]⟩, .string ⟨#[]⟩, .string ⟨#[]⟩, .slice none 0 0] 37)).1)
  have H1 := Lib.hid (h.next HB.out)
  have hmU := h.lt
  have HFin := Lib.hid h.fin
  obtain ⟨U, hU⟩ : ∃ U, w.heap.size = U := ⟨_, rfl⟩
  have HUl := Lib.hid hU
  have HSz := Lib.hid (show (w.alloc (.cells #[.int .i64 0, .int .i64 0, .int .i64 0, .int .i64 0, .string ⟨#[]⟩, .string ⟨#[]⟩, .string ⟨#[]⟩, .slice none 0 0] 37)).heap.size = U + 1 by rw [World.size_alloc, hU])
  rw [hU] at HU hmU
  have HmU := Lib.hid hmU
  obtain ⟨X, hX⟩ : ∃ X, Pa.rowP (Pa.lev F 2) [2] (Pa.lev F 2 s).2.ts.length (Pa.lev F 2 s).1 (Pa.lev F 2 s).2 = X := ⟨_, rfl⟩
  rw [hX]
  have HX := Lib.hid hX
  clear h hX hmU
  go_enter Tryz.func61, Tryz.ntmps61
  go_wp2_with fail
  generalize w.alloc (.cells #[.int .i64 0, .int .i64 0, .int .i64 0, .int .i64 0, .string ⟨#[]⟩, .string ⟨#[]⟩, .string ⟨#[]⟩, .slice none 0 0] 37) = W1 at HB HU H1 HSz ⊢
  clear hU
  have HM1 := Lib.hid (show ButM m w W1 from ButM.of HB.out)
  have hbo := ba W1 (.cells #[.int .i64 2] 3)
  have hgo := (MapKept.heap_alloc W1 (.cells #[.int .i64 2] 3)).1
  rw [HSz.out] at hgo
  have HT := Lib.hid (row_not (Pa.lev F 2) (fun s hs => Pa.lev_le F 2 s hs) m N HPp.out [2] (by decide) (by decide) (by decide) s (U + 1) 1 _ (H1.out.next hbo) hN (by have := HmU.out; omega) (fun j op hj => by
    rw [World.cell?, hgo]
    match j, hj with
    | 0, hj => simp at hj; subst hj; rfl
    | j + 1, hj => simp at hj))
  rw [HX.out] at HT
  have HMo := Lib.hid (HM1.out.trans (ButM.of hbo))
  have HUo := Lib.hid (HU.out.next hbo)
  clear hbo hgo hN
  go_wp2_with fail
  refine (HT.out).mono ?_
  intro e v9 hE
  obtain ⟨A9, cap9, rfl, hC, hR, hM⟩ := RuE.ev hE
  clear hE
  have HM9 := Lib.hid (HMo.out.trans hM)
  have HU9 := Lib.hid (HUo.out.but HmU.out hM)
  have HR9 := Lib.hid hR
  have HC9 := Lib.hid (exC_ok.wide (a' := U + 1) (b' := v9.heap.size) (by rw [World.size_alloc, HSz.out]; omega) (Nat.le_refl _) hC)
  clear hC hR hM
  have c0 : (v9).cell? ⟨U, 0, none⟩ = some (.int .i64 0) := (HU9.out).cell 0
  have c1 : (v9).cell? ⟨U, 1, none⟩ = some (.int .i64 0) := (HU9.out).cell 1
  have c2 : (v9).cell? ⟨U, 2, none⟩ = some (.int .i64 0) := (HU9.out).cell 2
  have c3 : (v9).cell? ⟨U, 3, none⟩ = some (.int .i64 0) := (HU9.out).cell 3
  have c4 : (v9).cell? ⟨U, 4, none⟩ = some (.string ⟨#[]⟩) := (HU9.out).cell 4
  have c5 : (v9).cell? ⟨U, 5, none⟩ = some (.string ⟨#[]⟩) := (HU9.out).cell 5
  have c6 : (v9).cell? ⟨U, 6, none⟩ = some (.string ⟨#[]⟩) := (HU9.out).cell 6
  have c7 : (v9).cell? ⟨U, 7, none⟩ = some (.slice none 0 0) := (HU9.out).cell 7
  have fc0 := (HU9.out).frozen 0
  have fc1 := (HU9.out).frozen 1
  have fc2 := (HU9.out).frozen 2
  have fc3 := (HU9.out).frozen 3
  have fc4 := (HU9.out).frozen 4
  have fc5 := (HU9.out).frozen 5
  have fc6 := (HU9.out).frozen 6
  have fc7 := (HU9.out).frozen 7
  go_wp2_with fail
  exact bodyPost_ret (v := XV X.1.hd A9 X.1.kids.length cap9) (by simp [results, Tryz.results61, go_sem, c0, c1, c2, c3, c4, c5, c6, c7]) rfl (RuE.fin (c := xcell (X.1.hd, A9, X.1.kids.length, cap9)) exC_ok HUl.out HmU.out HM9.out HR9.out HC9.out (OnU.refl _ _).set.set.set.set.set.set.set.set)
theorem lev_cmp (F : Nat) (s : Pa.Ps) : Pa.lev (F + 1) 3 s = Pa.rowP (Pa.lev F 4) [4, 5, 6, 7, 8, 9, 16] (Pa.lev F 4 s).2.ts.length (Pa.lev F 4 s).1 (Pa.lev F 4 s).2 := by rw [Pa.lev, if_neg (by decide), if_neg (by decide), if_neg (by decide)]; rfl
set_option maxRecDepth 100000 in
set_option maxHeartbeats 4000000 in
theorem pcmp_any (F m N : Nat) (HP : Ok 155 (Pa.lev F 4) m N) : Ok 139 (Pa.lev (F + 1) 3) m N := by
  intro s w h hN
  rw [lev_cmp]
  have HPp := Lib.hid HP
  clear HP
  have HB := Lib.hid (ba w (.cells #[.int .i64 0, .int .i64 0, .int .i64 0, .int .i64 0, .string ⟨#[]⟩, .string ⟨#[]⟩, .string ⟨#[]⟩, .slice none 0 0] 37))
  have HU := Lib.hid (show BxU _ _ #[.int .i64 0, .int .i64 0, .int .i64 0, .int .i64 0, .string ⟨#[]⟩, .string ⟨#[]⟩, .string ⟨#[]⟩, .slice none 0 0] 37 from (MapKept.heap_alloc w (.cells #[.int .i64 0, .int .i64 0, .int .i64 0, .int .i64 0, .string ⟨#[]⟩, .string ⟨#[]⟩, .string ⟨#[]⟩, .slice none 0 0] 37)).1)
  have H1 := Lib.hid (h.next HB.out)
  have hmU := h.lt
  have HFin := Lib.hid h.fin
  obtain ⟨U, hU⟩ : ∃ U, w.heap.size = U := ⟨_, rfl⟩
  have HUl := Lib.hid hU
  have HSz := Lib.hid (show (w.alloc (.cells #[.int .i64 0, .int .i64 0, .int .i64 0, .int .i64 0, .string ⟨#[]⟩, .string ⟨#[]⟩, .string ⟨#[]⟩, .slice none 0 0] 37)).heap.size = U + 1 by rw [World.size_alloc, hU])
  rw [hU] at HU hmU
  have HmU := Lib.hid hmU
  obtain ⟨X, hX⟩ : ∃ X, Pa.rowP (Pa.lev F 4) [4, 5, 6, 7, 8, 9, 16] (Pa.lev F 4 s).2.ts.length (Pa.lev F 4 s).1 (Pa.lev F 4 s).2 = X := ⟨_, rfl⟩
  rw [hX]
  have HX := Lib.hid hX
  clear h hX hmU
  go_enter Tryz.func139, Tryz.ntmps139
  go_wp2_with fail
  generalize w.alloc (.cells #[.int .i64 0, .int .i64 0, .int .i64 0, .int .i64 0, .string ⟨#[]⟩, .string ⟨#[]⟩, .string ⟨#[]⟩, .slice none 0 0] 37) = W1 at HB HU H1 HSz ⊢
  clear hU
  have HM1 := Lib.hid (show ButM m w W1 from ButM.of HB.out)
  have hbo := ba W1 (.cells #[.int .i64 4, .int .i64 5, .int .i64 6, .int .i64 7, .int .i64 8, .int .i64 9, .int .i64 16] 3)
  have hgo := (MapKept.heap_alloc W1 (.cells #[.int .i64 4, .int .i64 5, .int .i64 6, .int .i64 7, .int .i64 8, .int .i64 9, .int .i64 16] 3)).1
  rw [HSz.out] at hgo
  have HT := Lib.hid (row_sum (Pa.lev F 4) (fun s hs => Pa.lev_le F 4 s hs) m N HPp.out [4, 5, 6, 7, 8, 9, 16] (by decide) (by decide) (by decide) s (U + 1) 7 _ (H1.out.next hbo) hN (by have := HmU.out; omega) (fun j op hj => by
    rw [World.cell?, hgo]
    match j, hj with
    | 0, hj => simp at hj; subst hj; rfl
    | 1, hj => simp at hj; subst hj; rfl
    | 2, hj => simp at hj; subst hj; rfl
    | 3, hj => simp at hj; subst hj; rfl
    | 4, hj => simp at hj; subst hj; rfl
    | 5, hj => simp at hj; subst hj; rfl
    | 6, hj => simp at hj; subst hj; rfl
    | j + 7, hj => simp at hj))
  rw [HX.out] at HT
  have HMo := Lib.hid (HM1.out.trans (ButM.of hbo))
  have HUo := Lib.hid (HU.out.next hbo)
  clear hbo hgo hN
  go_wp2_with fail
  refine (HT.out).mono ?_
  intro e v9 hE
  obtain ⟨A9, cap9, rfl, hC, hR, hM⟩ := RuE.ev hE
  clear hE
  have HM9 := Lib.hid (HMo.out.trans hM)
  have HU9 := Lib.hid (HUo.out.but HmU.out hM)
  have HR9 := Lib.hid hR
  have HC9 := Lib.hid (exC_ok.wide (a' := U + 1) (b' := v9.heap.size) (by rw [World.size_alloc, HSz.out]; omega) (Nat.le_refl _) hC)
  clear hC hR hM
  have c0 : (v9).cell? ⟨U, 0, none⟩ = some (.int .i64 0) := (HU9.out).cell 0
  have c1 : (v9).cell? ⟨U, 1, none⟩ = some (.int .i64 0) := (HU9.out).cell 1
  have c2 : (v9).cell? ⟨U, 2, none⟩ = some (.int .i64 0) := (HU9.out).cell 2
  have c3 : (v9).cell? ⟨U, 3, none⟩ = some (.int .i64 0) := (HU9.out).cell 3
  have c4 : (v9).cell? ⟨U, 4, none⟩ = some (.string ⟨#[]⟩) := (HU9.out).cell 4
  have c5 : (v9).cell? ⟨U, 5, none⟩ = some (.string ⟨#[]⟩) := (HU9.out).cell 5
  have c6 : (v9).cell? ⟨U, 6, none⟩ = some (.string ⟨#[]⟩) := (HU9.out).cell 6
  have c7 : (v9).cell? ⟨U, 7, none⟩ = some (.slice none 0 0) := (HU9.out).cell 7
  have fc0 := (HU9.out).frozen 0
  have fc1 := (HU9.out).frozen 1
  have fc2 := (HU9.out).frozen 2
  have fc3 := (HU9.out).frozen 3
  have fc4 := (HU9.out).frozen 4
  have fc5 := (HU9.out).frozen 5
  have fc6 := (HU9.out).frozen 6
  have fc7 := (HU9.out).frozen 7
  go_wp2_with fail
  exact bodyPost_ret (v := XV X.1.hd A9 X.1.kids.length cap9) (by simp [results, Tryz.results139, go_sem, c0, c1, c2, c3, c4, c5, c6, c7]) rfl (RuE.fin (c := xcell (X.1.hd, A9, X.1.kids.length, cap9)) exC_ok HUl.out HmU.out HM9.out HR9.out HC9.out (OnU.refl _ _).set.set.set.set.set.set.set.set)
theorem lev_sum (F : Nat) (s : Pa.Ps) : Pa.lev (F + 1) 4 s = Pa.rowP (Pa.lev F 5) [10, 11] (Pa.lev F 5 s).2.ts.length (Pa.lev F 5 s).1 (Pa.lev F 5 s).2 := by rw [Pa.lev, if_neg (by decide), if_neg (by decide), if_neg (by decide)]; rfl
set_option maxRecDepth 100000 in
set_option maxHeartbeats 4000000 in
theorem psum_any (F m N : Nat) (HP : Ok 161 (Pa.lev F 5) m N) : Ok 155 (Pa.lev (F + 1) 4) m N := by
  intro s w h hN
  rw [lev_sum]
  have HPp := Lib.hid HP
  clear HP
  have HB := Lib.hid (ba w (.cells #[.int .i64 0, .int .i64 0, .int .i64 0, .int .i64 0, .string ⟨#[]⟩, .string ⟨#[]⟩, .string ⟨#[]⟩, .slice none 0 0] 37))
  have HU := Lib.hid (show BxU _ _ #[.int .i64 0, .int .i64 0, .int .i64 0, .int .i64 0, .string ⟨#[]⟩, .string ⟨#[]⟩, .string ⟨#[]⟩, .slice none 0 0] 37 from (MapKept.heap_alloc w (.cells #[.int .i64 0, .int .i64 0, .int .i64 0, .int .i64 0, .string ⟨#[]⟩, .string ⟨#[]⟩, .string ⟨#[]⟩, .slice none 0 0] 37)).1)
  have H1 := Lib.hid (h.next HB.out)
  have hmU := h.lt
  have HFin := Lib.hid h.fin
  obtain ⟨U, hU⟩ : ∃ U, w.heap.size = U := ⟨_, rfl⟩
  have HUl := Lib.hid hU
  have HSz := Lib.hid (show (w.alloc (.cells #[.int .i64 0, .int .i64 0, .int .i64 0, .int .i64 0, .string ⟨#[]⟩, .string ⟨#[]⟩, .string ⟨#[]⟩, .slice none 0 0] 37)).heap.size = U + 1 by rw [World.size_alloc, hU])
  rw [hU] at HU hmU
  have HmU := Lib.hid hmU
  obtain ⟨X, hX⟩ : ∃ X, Pa.rowP (Pa.lev F 5) [10, 11] (Pa.lev F 5 s).2.ts.length (Pa.lev F 5 s).1 (Pa.lev F 5 s).2 = X := ⟨_, rfl⟩
  rw [hX]
  have HX := Lib.hid hX
  clear h hX hmU
  go_enter Tryz.func155, Tryz.ntmps155
  go_wp2_with fail
  generalize w.alloc (.cells #[.int .i64 0, .int .i64 0, .int .i64 0, .int .i64 0, .string ⟨#[]⟩, .string ⟨#[]⟩, .string ⟨#[]⟩, .slice none 0 0] 37) = W1 at HB HU H1 HSz ⊢
  clear hU
  have HM1 := Lib.hid (show ButM m w W1 from ButM.of HB.out)
  have hbo := ba W1 (.cells #[.int .i64 10, .int .i64 11] 3)
  have hgo := (MapKept.heap_alloc W1 (.cells #[.int .i64 10, .int .i64 11] 3)).1
  rw [HSz.out] at hgo
  have HT := Lib.hid (row_prod (Pa.lev F 5) (fun s hs => Pa.lev_le F 5 s hs) m N HPp.out [10, 11] (by decide) (by decide) (by decide) s (U + 1) 2 _ (H1.out.next hbo) hN (by have := HmU.out; omega) (fun j op hj => by
    rw [World.cell?, hgo]
    match j, hj with
    | 0, hj => simp at hj; subst hj; rfl
    | 1, hj => simp at hj; subst hj; rfl
    | j + 2, hj => simp at hj))
  rw [HX.out] at HT
  have HMo := Lib.hid (HM1.out.trans (ButM.of hbo))
  have HUo := Lib.hid (HU.out.next hbo)
  clear hbo hgo hN
  go_wp2_with fail
  refine (HT.out).mono ?_
  intro e v9 hE
  obtain ⟨A9, cap9, rfl, hC, hR, hM⟩ := RuE.ev hE
  clear hE
  have HM9 := Lib.hid (HMo.out.trans hM)
  have HU9 := Lib.hid (HUo.out.but HmU.out hM)
  have HR9 := Lib.hid hR
  have HC9 := Lib.hid (exC_ok.wide (a' := U + 1) (b' := v9.heap.size) (by rw [World.size_alloc, HSz.out]; omega) (Nat.le_refl _) hC)
  clear hC hR hM
  have c0 : (v9).cell? ⟨U, 0, none⟩ = some (.int .i64 0) := (HU9.out).cell 0
  have c1 : (v9).cell? ⟨U, 1, none⟩ = some (.int .i64 0) := (HU9.out).cell 1
  have c2 : (v9).cell? ⟨U, 2, none⟩ = some (.int .i64 0) := (HU9.out).cell 2
  have c3 : (v9).cell? ⟨U, 3, none⟩ = some (.int .i64 0) := (HU9.out).cell 3
  have c4 : (v9).cell? ⟨U, 4, none⟩ = some (.string ⟨#[]⟩) := (HU9.out).cell 4
  have c5 : (v9).cell? ⟨U, 5, none⟩ = some (.string ⟨#[]⟩) := (HU9.out).cell 5
  have c6 : (v9).cell? ⟨U, 6, none⟩ = some (.string ⟨#[]⟩) := (HU9.out).cell 6
  have c7 : (v9).cell? ⟨U, 7, none⟩ = some (.slice none 0 0) := (HU9.out).cell 7
  have fc0 := (HU9.out).frozen 0
  have fc1 := (HU9.out).frozen 1
  have fc2 := (HU9.out).frozen 2
  have fc3 := (HU9.out).frozen 3
  have fc4 := (HU9.out).frozen 4
  have fc5 := (HU9.out).frozen 5
  have fc6 := (HU9.out).frozen 6
  have fc7 := (HU9.out).frozen 7
  go_wp2_with fail
  exact bodyPost_ret (v := XV X.1.hd A9 X.1.kids.length cap9) (by simp [results, Tryz.results155, go_sem, c0, c1, c2, c3, c4, c5, c6, c7]) rfl (RuE.fin (c := xcell (X.1.hd, A9, X.1.kids.length, cap9)) exC_ok HUl.out HmU.out HM9.out HR9.out HC9.out (OnU.refl _ _).set.set.set.set.set.set.set.set)
theorem lev_prod (F : Nat) (s : Pa.Ps) : Pa.lev (F + 1) 5 s = Pa.rowP (Pa.lev F 6) [12, 13, 14] (Pa.lev F 6 s).2.ts.length (Pa.lev F 6 s).1 (Pa.lev F 6 s).2 := by rw [Pa.lev, if_neg (by decide), if_neg (by decide), if_neg (by decide)]; rfl
set_option maxRecDepth 100000 in
set_option maxHeartbeats 4000000 in
theorem pprod_any (F m N : Nat) (HP : Ok 165 (Pa.lev F 6) m N) : Ok 161 (Pa.lev (F + 1) 5) m N := by
  intro s w h hN
  rw [lev_prod]
  have HPp := Lib.hid HP
  clear HP
  have HB := Lib.hid (ba w (.cells #[.int .i64 0, .int .i64 0, .int .i64 0, .int .i64 0, .string ⟨#[]⟩, .string ⟨#[]⟩, .string ⟨#[]⟩, .slice none 0 0] 37))
  have HU := Lib.hid (show BxU _ _ #[.int .i64 0, .int .i64 0, .int .i64 0, .int .i64 0, .string ⟨#[]⟩, .string ⟨#[]⟩, .string ⟨#[]⟩, .slice none 0 0] 37 from (MapKept.heap_alloc w (.cells #[.int .i64 0, .int .i64 0, .int .i64 0, .int .i64 0, .string ⟨#[]⟩, .string ⟨#[]⟩, .string ⟨#[]⟩, .slice none 0 0] 37)).1)
  have H1 := Lib.hid (h.next HB.out)
  have hmU := h.lt
  have HFin := Lib.hid h.fin
  obtain ⟨U, hU⟩ : ∃ U, w.heap.size = U := ⟨_, rfl⟩
  have HUl := Lib.hid hU
  have HSz := Lib.hid (show (w.alloc (.cells #[.int .i64 0, .int .i64 0, .int .i64 0, .int .i64 0, .string ⟨#[]⟩, .string ⟨#[]⟩, .string ⟨#[]⟩, .slice none 0 0] 37)).heap.size = U + 1 by rw [World.size_alloc, hU])
  rw [hU] at HU hmU
  have HmU := Lib.hid hmU
  obtain ⟨X, hX⟩ : ∃ X, Pa.rowP (Pa.lev F 6) [12, 13, 14] (Pa.lev F 6 s).2.ts.length (Pa.lev F 6 s).1 (Pa.lev F 6 s).2 = X := ⟨_, rfl⟩
  rw [hX]
  have HX := Lib.hid hX
  clear h hX hmU
  go_enter Tryz.func161, Tryz.ntmps161
  go_wp2_with fail
  generalize w.alloc (.cells #[.int .i64 0, .int .i64 0, .int .i64 0, .int .i64 0, .string ⟨#[]⟩, .string ⟨#[]⟩, .string ⟨#[]⟩, .slice none 0 0] 37) = W1 at HB HU H1 HSz ⊢
  clear hU
  have HM1 := Lib.hid (show ButM m w W1 from ButM.of HB.out)
  have hbo := ba W1 (.cells #[.int .i64 12, .int .i64 13, .int .i64 14] 3)
  have hgo := (MapKept.heap_alloc W1 (.cells #[.int .i64 12, .int .i64 13, .int .i64 14] 3)).1
  rw [HSz.out] at hgo
  have HT := Lib.hid (row_unary (Pa.lev F 6) (fun s hs => Pa.lev_le F 6 s hs) m N HPp.out [12, 13, 14] (by decide) (by decide) (by decide) s (U + 1) 3 _ (H1.out.next hbo) hN (by have := HmU.out; omega) (fun j op hj => by
    rw [World.cell?, hgo]
    match j, hj with
    | 0, hj => simp at hj; subst hj; rfl
    | 1, hj => simp at hj; subst hj; rfl
    | 2, hj => simp at hj; subst hj; rfl
    | j + 3, hj => simp at hj))
  rw [HX.out] at HT
  have HMo := Lib.hid (HM1.out.trans (ButM.of hbo))
  have HUo := Lib.hid (HU.out.next hbo)
  clear hbo hgo hN
  go_wp2_with fail
  refine (HT.out).mono ?_
  intro e v9 hE
  obtain ⟨A9, cap9, rfl, hC, hR, hM⟩ := RuE.ev hE
  clear hE
  have HM9 := Lib.hid (HMo.out.trans hM)
  have HU9 := Lib.hid (HUo.out.but HmU.out hM)
  have HR9 := Lib.hid hR
  have HC9 := Lib.hid (exC_ok.wide (a' := U + 1) (b' := v9.heap.size) (by rw [World.size_alloc, HSz.out]; omega) (Nat.le_refl _) hC)
  clear hC hR hM
  have c0 : (v9).cell? ⟨U, 0, none⟩ = some (.int .i64 0) := (HU9.out).cell 0
  have c1 : (v9).cell? ⟨U, 1, none⟩ = some (.int .i64 0) := (HU9.out).cell 1
  have c2 : (v9).cell? ⟨U, 2, none⟩ = some (.int .i64 0) := (HU9.out).cell 2
  have c3 : (v9).cell? ⟨U, 3, none⟩ = some (.int .i64 0) := (HU9.out).cell 3
  have c4 : (v9).cell? ⟨U, 4, none⟩ = some (.string ⟨#[]⟩) := (HU9.out).cell 4
  have c5 : (v9).cell? ⟨U, 5, none⟩ = some (.string ⟨#[]⟩) := (HU9.out).cell 5
  have c6 : (v9).cell? ⟨U, 6, none⟩ = some (.string ⟨#[]⟩) := (HU9.out).cell 6
  have c7 : (v9).cell? ⟨U, 7, none⟩ = some (.slice none 0 0) := (HU9.out).cell 7
  have fc0 := (HU9.out).frozen 0
  have fc1 := (HU9.out).frozen 1
  have fc2 := (HU9.out).frozen 2
  have fc3 := (HU9.out).frozen 3
  have fc4 := (HU9.out).frozen 4
  have fc5 := (HU9.out).frozen 5
  have fc6 := (HU9.out).frozen 6
  have fc7 := (HU9.out).frozen 7
  go_wp2_with fail
  exact bodyPost_ret (v := XV X.1.hd A9 X.1.kids.length cap9) (by simp [results, Tryz.results161, go_sem, c0, c1, c2, c3, c4, c5, c6, c7]) rfl (RuE.fin (c := xcell (X.1.hd, A9, X.1.kids.length, cap9)) exC_ok HUl.out HmU.out HM9.out HR9.out HC9.out (OnU.refl _ _).set.set.set.set.set.set.set.set)
theorem lev_not (F : Nat) (s : Pa.Ps) : Pa.lev (F + 1) 2 s = if (Pa.takeW Pa.wNOT s).1 then (Pa.mkOp 3 [(Pa.lev F 2 (Pa.takeW Pa.wNOT s).2).1], (Pa.lev F 2 (Pa.takeW Pa.wNOT s).2).2) else Pa.lev F 3 s := by rw [Pa.lev]; rw [if_pos rfl]
set_option maxRecDepth 100000 in
set_option maxHeartbeats 4000000 in
theorem pnot_any (F m N : Nat) (HN : Ok 113 (Pa.lev F 2) m (N - 1)) (HP : Ok 139 (Pa.lev F 3) m N) : Ok 113 (Pa.lev (F + 1) 2) m N := by
  intro s w h hN
  have HPp := Lib.hid HP
  have HNn := Lib.hid HN
  clear HP HN
  have HB := Lib.hid (ba w (.cells #[.int .i64 0, .int .i64 0, .int .i64 0, .int .i64 0, .string ⟨#[]⟩, .string ⟨#[]⟩, .string ⟨#[]⟩, .slice none 0 0] 37))
  have HU := Lib.hid (show BxU _ _ #[.int .i64 0, .int .i64 0, .int .i64 0, .int .i64 0, .string ⟨#[]⟩, .string ⟨#[]⟩, .string ⟨#[]⟩, .slice none 0 0] 37 from (MapKept.heap_alloc w (.cells #[.int .i64 0, .int .i64 0, .int .i64 0, .int .i64 0, .string ⟨#[]⟩, .string ⟨#[]⟩, .string ⟨#[]⟩, .slice none 0 0] 37)).1)
  have H1 := Lib.hid (h.next HB.out)
  have hmU := h.lt
  have HFin := Lib.hid h.fin
  obtain ⟨U, hU⟩ : ∃ U, w.heap.size = U := ⟨_, rfl⟩
  have HUl := Lib.hid hU
  have HSz := Lib.hid (show (w.alloc (.cells #[.int .i64 0, .int .i64 0, .int .i64 0, .int .i64 0, .string ⟨#[]⟩, .string ⟨#[]⟩, .string ⟨#[]⟩, .slice none 0 0] 37)).heap.size = U + 1 by rw [World.size_alloc, hU])
  rw [hU] at HU hmU
  have HmU := Lib.hid hmU
  obtain ⟨X, hX⟩ : ∃ X, Pa.lev (F + 1) 2 s = X := ⟨_, rfl⟩
  rw [hX]
  have HX := Lib.hid hX
  clear h hX hmU
  go_enter Tryz.func113, Tryz.ntmps113
  go_wp2_with fail
  generalize w.alloc (.cells #[.int .i64 0, .int .i64 0, .int .i64 0, .int .i64 0, .string ⟨#[]⟩, .string ⟨#[]⟩, .string ⟨#[]⟩, .slice none 0 0] 37) = W1 at HB HU H1 HSz ⊢
  clear hU
  have HM1 := Lib.hid (show ButM m w W1 from ButM.of HB.out)
  have HT1 := Lib.hid (take_any m s Pa.wNOT W1 H1.out)
  obtain ⟨t1, ht⟩ : ∃ z, (Pa.takeW Pa.wNOT s).1 = z := ⟨_, rfl⟩
  obtain ⟨s1, hs⟩ : ∃ z, (Pa.takeW Pa.wNOT s).2 = z := ⟨_, rfl⟩
  have hno1 := (Pa.takeW_le Pa.wNOT H1.out.fin).2.2
  rw [ht, hs] at HT1 hno1
  have HK1 := Lib.hid (show Pa.takeW Pa.wNOT s = (t1, s1) by rw [← ht, ← hs])
  clear ht hs
  have hlen1 := (Pa.takeW_le Pa.wNOT H1.out.fin).2.1
  rw [HK1.out] at hlen1
  cases t1 with
  | true =>
    have HLn := Lib.hid (show s1.ts.length ≤ N - 1 by have := (hlen1 rfl).2.2; simp only at this; omega)
    clear hlen1 hN
    clear hno1
    go_wp2_with fail
    refine HT1.out.mono ?_
    rintro e v1 ⟨rfl, hR, hM⟩
    have HMn1 := Lib.hid (HM1.out.trans hM)
    have HUn1 := Lib.hid (HU.out.but HmU.out hM)
    have HRn1 := Lib.hid hR
    clear hR hM
    have HT2 := Lib.hid (HNn.out s1 v1 HRn1.out HLn.out)
    obtain ⟨⟨x2, s2⟩, hs2⟩ : ∃ q, Pa.lev F 2 s1 = q := ⟨_, rfl⟩
    rw [hs2] at HT2
    have HK2 := Lib.hid hs2
    clear hs2
    simp only at HT2
    go_wp2_with fail
    refine HT2.out.mono ?_
    intro e v2 hE
    obtain ⟨A2, cap2, rfl, hC, hR, hM⟩ := RuE.ev hE
    clear hE
    have HUs := Lib.hid (show U + 1 ≤ v1.heap.size from HUn1.out.lt)
    have HMn2 := Lib.hid (HMn1.out.trans hM)
    have HUn2 := Lib.hid (HUn1.out.but HmU.out hM)
    have HRn2 := Lib.hid hR
    have HC := Lib.hid (exC_ok.wide (a' := U + 1) (b' := v2.heap.size) HUs.out (Nat.le_refl _) hC)
    clear hC hR hM
    obtain ⟨hd2, l2⟩ := x2
    simp only [Ex.hd, Ex.kids] at HC ⊢
    go_wp2_with fail
    have hbx := ba v2 (xbox hd2 A2 l2.length cap2)
    have HCm := Lib.hid (exC_one (B' := Bt (U + 1) (v2.heap.size + 1)) (hdO 3) HC.out (fun k hk => ⟨hk.2, hk.1, Nat.lt_succ_of_lt hk.2⟩) ⟨HUn2.out.lt, Nat.lt_succ_self _⟩ 37)
    have HMx := Lib.hid (HMn2.out.trans (ButM.of hbx))
    have HRx := Lib.hid (HRn2.out.next hbx)
    have HUx := Lib.hid (HUn2.out.next hbx)
    clear hbx
    refine (pmade_any 3 3 (some ⟨v2.heap.size, 0, none⟩) 1 1 _).mono ?_
    rintro e v9 ⟨rfl, hb⟩
    have HM9 := Lib.hid (HMx.out.trans (ButM.of hb))
    have HU9 := Lib.hid (HUx.out.next hb)
    have HR9 := Lib.hid (HRx.out.next hb)
    have HC9 := Lib.hid (show exC (Bt (U + 1) v9.heap.size) v9 (Pa.mkOp 3 [.mk hd2 l2]) (xcell (hdO 3, some ⟨v2.heap.size, 0, none⟩, 1, 1)) from exC_ok.wide (Nat.le_refl _) (by have := hb.size; rw [World.size_alloc] at this; omega) (exC_ok.keep hb (by rw [World.size_alloc]; exact Nat.le_refl _) HCm.out))
    have HXe := Lib.hid (show X = (Pa.mkOp 3 [.mk hd2 l2], s2) by rw [← HX.out, lev_not, HK1.out, if_pos rfl, HK2.out])
    clear hb
    have c0 : (v9).cell? ⟨U, 0, none⟩ = some (.int .i64 0) := (HU9.out).cell 0
    have c1 : (v9).cell? ⟨U, 1, none⟩ = some (.int .i64 0) := (HU9.out).cell 1
    have c2 : (v9).cell? ⟨U, 2, none⟩ = some (.int .i64 0) := (HU9.out).cell 2
    have c3 : (v9).cell? ⟨U, 3, none⟩ = some (.int .i64 0) := (HU9.out).cell 3
    have c4 : (v9).cell? ⟨U, 4, none⟩ = some (.string ⟨#[]⟩) := (HU9.out).cell 4
    have c5 : (v9).cell? ⟨U, 5, none⟩ = some (.string ⟨#[]⟩) := (HU9.out).cell 5
    have c6 : (v9).cell? ⟨U, 6, none⟩ = some (.string ⟨#[]⟩) := (HU9.out).cell 6
    have c7 : (v9).cell? ⟨U, 7, none⟩ = some (.slice none 0 0) := (HU9.out).cell 7
    have fc0 := (HU9.out).frozen 0
    have fc1 := (HU9.out).frozen 1
    have fc2 := (HU9.out).frozen 2
    have fc3 := (HU9.out).frozen 3
    have fc4 := (HU9.out).frozen 4
    have fc5 := (HU9.out).frozen 5
    have fc6 := (HU9.out).frozen 6
    have fc7 := (HU9.out).frozen 7
    go_wp2_with fail
    exact bodyPost_ret (v := XV (hdO 3) (some ⟨v2.heap.size, 0, none⟩) 1 1) (by simp [results, Tryz.results113, go_sem, c0, c1, c2, c3, c4, c5, c6, c7]) rfl (by rw [HXe.out]; exact RuE.fin (c := xcell ((hdO 3), (some ⟨v2.heap.size, 0, none⟩), 1, 1)) exC_ok HUl.out HmU.out HM9.out HR9.out HC9.out (OnU.refl _ _).set.set.set.set.set.set.set.set)
  | false =>
    have HXe := Lib.hid (show Pa.lev F 3 s1 = X by rw [← HX.out, lev_not, HK1.out, if_neg (by simp), hno1 rfl])
    clear hlen1
    obtain rfl := hno1 rfl
    clear hno1
    go_wp2_with fail
    refine HT1.out.mono ?_
    rintro e v1 ⟨rfl, hR, hM⟩
    have HMn1 := Lib.hid (HM1.out.trans hM)
    have HUn1 := Lib.hid (HU.out.but HmU.out hM)
    have HRn1 := Lib.hid hR
    clear hR hM
    have HT := Lib.hid (HPp.out s1 v1 HRn1.out hN)
    rw [HXe.out] at HT
    have HUs := Lib.hid (show U + 1 ≤ v1.heap.size from HUn1.out.lt)
    clear hN
    go_wp2_with fail
    refine (HT.out).mono ?_
    intro e v9 hE
    obtain ⟨A9, cap9, rfl, hC, hR, hM⟩ := RuE.ev hE
    clear hE
    have HM9 := Lib.hid (HMn1.out.trans hM)
    have HU9 := Lib.hid (HUn1.out.but HmU.out hM)
    have HR9 := Lib.hid hR
    have HC9 := Lib.hid (exC_ok.wide (a' := U + 1) (b' := v9.heap.size) HUs.out (Nat.le_refl _) hC)
    clear hC hR hM
    have c0 : (v9).cell? ⟨U, 0, none⟩ = some (.int .i64 0) := (HU9.out).cell 0
    have c1 : (v9).cell? ⟨U, 1, none⟩ = some (.int .i64 0) := (HU9.out).cell 1
    have c2 : (v9).cell? ⟨U, 2, none⟩ = some (.int .i64 0) := (HU9.out).cell 2
    have c3 : (v9).cell? ⟨U, 3, none⟩ = some (.int .i64 0) := (HU9.out).cell 3
    have c4 : (v9).cell? ⟨U, 4, none⟩ = some (.string ⟨#[]⟩) := (HU9.out).cell 4
    have c5 : (v9).cell? ⟨U, 5, none⟩ = some (.string ⟨#[]⟩) := (HU9.out).cell 5
    have c6 : (v9).cell? ⟨U, 6, none⟩ = some (.string ⟨#[]⟩) := (HU9.out).cell 6
    have c7 : (v9).cell? ⟨U, 7, none⟩ = some (.slice none 0 0) := (HU9.out).cell 7
    have fc0 := (HU9.out).frozen 0
    have fc1 := (HU9.out).frozen 1
    have fc2 := (HU9.out).frozen 2
    have fc3 := (HU9.out).frozen 3
    have fc4 := (HU9.out).frozen 4
    have fc5 := (HU9.out).frozen 5
    have fc6 := (HU9.out).frozen 6
    have fc7 := (HU9.out).frozen 7
    go_wp2_with fail
    exact bodyPost_ret (v := XV X.1.hd A9 X.1.kids.length cap9) (by simp [results, Tryz.results113, go_sem, c0, c1, c2, c3, c4, c5, c6, c7]) rfl (RuE.fin (c := xcell (X.1.hd, A9, X.1.kids.length, cap9)) exC_ok HUl.out HmU.out HM9.out HR9.out HC9.out (OnU.refl _ _).set.set.set.set.set.set.set.set)
theorem lev_unary (F : Nat) (s : Pa.Ps) : Pa.lev (F + 1) 6 s = if (Pa.takeW [45] s).1 then (Pa.mkOp 15 [(Pa.lev F 6 (Pa.takeW [45] s).2).1], (Pa.lev F 6 (Pa.takeW [45] s).2).2) else Pa.lev F 7 s := by rw [Pa.lev]; rw [if_neg (by decide), if_pos rfl]
set_option maxRecDepth 100000 in
set_option maxHeartbeats 4000000 in
theorem punary_any (F m N : Nat) (HN : Ok 165 (Pa.lev F 6) m (N - 1)) (HP : Ok 167 (Pa.lev F 7) m N) : Ok 165 (Pa.lev (F + 1) 6) m N := by
  intro s w h hN
  have HPp := Lib.hid HP
  have HNn := Lib.hid HN
  clear HP HN
  have HB := Lib.hid (ba w (.cells #[.int .i64 0, .int .i64 0, .int .i64 0, .int .i64 0, .string ⟨#[]⟩, .string ⟨#[]⟩, .string ⟨#[]⟩, .slice none 0 0] 37))
  have HU := Lib.hid (show BxU _ _ #[.int .i64 0, .int .i64 0, .int .i64 0, .int .i64 0, .string ⟨#[]⟩, .string ⟨#[]⟩, .string ⟨#[]⟩, .slice none 0 0] 37 from (MapKept.heap_alloc w (.cells #[.int .i64 0, .int .i64 0, .int .i64 0, .int .i64 0, .string ⟨#[]⟩, .string ⟨#[]⟩, .string ⟨#[]⟩, .slice none 0 0] 37)).1)
  have H1 := Lib.hid (h.next HB.out)
  have hmU := h.lt
  have HFin := Lib.hid h.fin
  obtain ⟨U, hU⟩ : ∃ U, w.heap.size = U := ⟨_, rfl⟩
  have HUl := Lib.hid hU
  have HSz := Lib.hid (show (w.alloc (.cells #[.int .i64 0, .int .i64 0, .int .i64 0, .int .i64 0, .string ⟨#[]⟩, .string ⟨#[]⟩, .string ⟨#[]⟩, .slice none 0 0] 37)).heap.size = U + 1 by rw [World.size_alloc, hU])
  rw [hU] at HU hmU
  have HmU := Lib.hid hmU
  obtain ⟨X, hX⟩ : ∃ X, Pa.lev (F + 1) 6 s = X := ⟨_, rfl⟩
  rw [hX]
  have HX := Lib.hid hX
  clear h hX hmU
  go_enter Tryz.func165, Tryz.ntmps165
  go_wp2_with fail
  generalize w.alloc (.cells #[.int .i64 0, .int .i64 0, .int .i64 0, .int .i64 0, .string ⟨#[]⟩, .string ⟨#[]⟩, .string ⟨#[]⟩, .slice none 0 0] 37) = W1 at HB HU H1 HSz ⊢
  clear hU
  have HM1 := Lib.hid (show ButM m w W1 from ButM.of HB.out)
  have HT1 := Lib.hid (take_any m s [45] W1 H1.out)
  obtain ⟨t1, ht⟩ : ∃ z, (Pa.takeW [45] s).1 = z := ⟨_, rfl⟩
  obtain ⟨s1, hs⟩ : ∃ z, (Pa.takeW [45] s).2 = z := ⟨_, rfl⟩
  have hno1 := (Pa.takeW_le [45] H1.out.fin).2.2
  rw [ht, hs] at HT1 hno1
  have HK1 := Lib.hid (show Pa.takeW [45] s = (t1, s1) by rw [← ht, ← hs])
  clear ht hs
  have hlen1 := (Pa.takeW_le [45] H1.out.fin).2.1
  rw [HK1.out] at hlen1
  cases t1 with
  | true =>
    have HLn := Lib.hid (show s1.ts.length ≤ N - 1 by have := (hlen1 rfl).2.2; simp only at this; omega)
    clear hlen1 hN
    clear hno1
    go_wp2_with fail
    refine HT1.out.mono ?_
    rintro e v1 ⟨rfl, hR, hM⟩
    have HMn1 := Lib.hid (HM1.out.trans hM)
    have HUn1 := Lib.hid (HU.out.but HmU.out hM)
    have HRn1 := Lib.hid hR
    clear hR hM
    have HT2 := Lib.hid (HNn.out s1 v1 HRn1.out HLn.out)
    obtain ⟨⟨x2, s2⟩, hs2⟩ : ∃ q, Pa.lev F 6 s1 = q := ⟨_, rfl⟩
    rw [hs2] at HT2
    have HK2 := Lib.hid hs2
    clear hs2
    simp only at HT2
    go_wp2_with fail
    refine HT2.out.mono ?_
    intro e v2 hE
    obtain ⟨A2, cap2, rfl, hC, hR, hM⟩ := RuE.ev hE
    clear hE
    have HUs := Lib.hid (show U + 1 ≤ v1.heap.size from HUn1.out.lt)
    have HMn2 := Lib.hid (HMn1.out.trans hM)
    have HUn2 := Lib.hid (HUn1.out.but HmU.out hM)
    have HRn2 := Lib.hid hR
    have HC := Lib.hid (exC_ok.wide (a' := U + 1) (b' := v2.heap.size) HUs.out (Nat.le_refl _) hC)
    clear hC hR hM
    obtain ⟨hd2, l2⟩ := x2
    simp only [Ex.hd, Ex.kids] at HC ⊢
    go_wp2_with fail
    have hbx := ba v2 (xbox hd2 A2 l2.length cap2)
    have HCm := Lib.hid (exC_one (B' := Bt (U + 1) (v2.heap.size + 1)) (hdO 15) HC.out (fun k hk => ⟨hk.2, hk.1, Nat.lt_succ_of_lt hk.2⟩) ⟨HUn2.out.lt, Nat.lt_succ_self _⟩ 37)
    have HMx := Lib.hid (HMn2.out.trans (ButM.of hbx))
    have HRx := Lib.hid (HRn2.out.next hbx)
    have HUx := Lib.hid (HUn2.out.next hbx)
    clear hbx
    refine (pmade_any 3 15 (some ⟨v2.heap.size, 0, none⟩) 1 1 _).mono ?_
    rintro e v9 ⟨rfl, hb⟩
    have HM9 := Lib.hid (HMx.out.trans (ButM.of hb))
    have HU9 := Lib.hid (HUx.out.next hb)
    have HR9 := Lib.hid (HRx.out.next hb)
    have HC9 := Lib.hid (show exC (Bt (U + 1) v9.heap.size) v9 (Pa.mkOp 15 [.mk hd2 l2]) (xcell (hdO 15, some ⟨v2.heap.size, 0, none⟩, 1, 1)) from exC_ok.wide (Nat.le_refl _) (by have := hb.size; rw [World.size_alloc] at this; omega) (exC_ok.keep hb (by rw [World.size_alloc]; exact Nat.le_refl _) HCm.out))
    have HXe := Lib.hid (show X = (Pa.mkOp 15 [.mk hd2 l2], s2) by rw [← HX.out, lev_unary, HK1.out, if_pos rfl, HK2.out])
    clear hb
    have c0 : (v9).cell? ⟨U, 0, none⟩ = some (.int .i64 0) := (HU9.out).cell 0
    have c1 : (v9).cell? ⟨U, 1, none⟩ = some (.int .i64 0) := (HU9.out).cell 1
    have c2 : (v9).cell? ⟨U, 2, none⟩ = some (.int .i64 0) := (HU9.out).cell 2
    have c3 : (v9).cell? ⟨U, 3, none⟩ = some (.int .i64 0) := (HU9.out).cell 3
    have c4 : (v9).cell? ⟨U, 4, none⟩ = some (.string ⟨#[]⟩) := (HU9.out).cell 4
    have c5 : (v9).cell? ⟨U, 5, none⟩ = some (.string ⟨#[]⟩) := (HU9.out).cell 5
    have c6 : (v9).cell? ⟨U, 6, none⟩ = some (.string ⟨#[]⟩) := (HU9.out).cell 6
    have c7 : (v9).cell? ⟨U, 7, none⟩ = some (.slice none 0 0) := (HU9.out).cell 7
    have fc0 := (HU9.out).frozen 0
    have fc1 := (HU9.out).frozen 1
    have fc2 := (HU9.out).frozen 2
    have fc3 := (HU9.out).frozen 3
    have fc4 := (HU9.out).frozen 4
    have fc5 := (HU9.out).frozen 5
    have fc6 := (HU9.out).frozen 6
    have fc7 := (HU9.out).frozen 7
    go_wp2_with fail
    exact bodyPost_ret (v := XV (hdO 15) (some ⟨v2.heap.size, 0, none⟩) 1 1) (by simp [results, Tryz.results165, go_sem, c0, c1, c2, c3, c4, c5, c6, c7]) rfl (by rw [HXe.out]; exact RuE.fin (c := xcell ((hdO 15), (some ⟨v2.heap.size, 0, none⟩), 1, 1)) exC_ok HUl.out HmU.out HM9.out HR9.out HC9.out (OnU.refl _ _).set.set.set.set.set.set.set.set)
  | false =>
    have HXe := Lib.hid (show Pa.lev F 7 s1 = X by rw [← HX.out, lev_unary, HK1.out, if_neg (by simp), hno1 rfl])
    clear hlen1
    obtain rfl := hno1 rfl
    clear hno1
    go_wp2_with fail
    refine HT1.out.mono ?_
    rintro e v1 ⟨rfl, hR, hM⟩
    have HMn1 := Lib.hid (HM1.out.trans hM)
    have HUn1 := Lib.hid (HU.out.but HmU.out hM)
    have HRn1 := Lib.hid hR
    clear hR hM
    have HT := Lib.hid (HPp.out s1 v1 HRn1.out hN)
    rw [HXe.out] at HT
    have HUs := Lib.hid (show U + 1 ≤ v1.heap.size from HUn1.out.lt)
    clear hN
    go_wp2_with fail
    refine (HT.out).mono ?_
    intro e v9 hE
    obtain ⟨A9, cap9, rfl, hC, hR, hM⟩ := RuE.ev hE
    clear hE
    have HM9 := Lib.hid (HMn1.out.trans hM)
    have HU9 := Lib.hid (HUn1.out.but HmU.out hM)
    have HR9 := Lib.hid hR
    have HC9 := Lib.hid (exC_ok.wide (a' := U + 1) (b' := v9.heap.size) HUs.out (Nat.le_refl _) hC)
    clear hC hR hM
    have c0 : (v9).cell? ⟨U, 0, none⟩ = some (.int .i64 0) := (HU9.out).cell 0
    have c1 : (v9).cell? ⟨U, 1, none⟩ = some (.int .i64 0) := (HU9.out).cell 1
    have c2 : (v9).cell? ⟨U, 2, none⟩ = some (.int .i64 0) := (HU9.out).cell 2
    have c3 : (v9).cell? ⟨U, 3, none⟩ = some (.int .i64 0) := (HU9.out).cell 3
    have c4 : (v9).cell? ⟨U, 4, none⟩ = some (.string ⟨#[]⟩) := (HU9.out).cell 4
    have c5 : (v9).cell? ⟨U, 5, none⟩ = some (.string ⟨#[]⟩) := (HU9.out).cell 5
    have c6 : (v9).cell? ⟨U, 6, none⟩ = some (.string ⟨#[]⟩) := (HU9.out).cell 6
    have c7 : (v9).cell? ⟨U, 7, none⟩ = some (.slice none 0 0) := (HU9.out).cell 7
    have fc0 := (HU9.out).frozen 0
    have fc1 := (HU9.out).frozen 1
    have fc2 := (HU9.out).frozen 2
    have fc3 := (HU9.out).frozen 3
    have fc4 := (HU9.out).frozen 4
    have fc5 := (HU9.out).frozen 5
    have fc6 := (HU9.out).frozen 6
    have fc7 := (HU9.out).frozen 7
    go_wp2_with fail
    exact bodyPost_ret (v := XV X.1.hd A9 X.1.kids.length cap9) (by simp [results, Tryz.results165, go_sem, c0, c1, c2, c3, c4, c5, c6, c7]) rfl (RuE.fin (c := xcell (X.1.hd, A9, X.1.kids.length, cap9)) exC_ok HUl.out HmU.out HM9.out HR9.out HC9.out (OnU.refl _ _).set.set.set.set.set.set.set.set)
end Go.Proofs.YtfjimoccliejdaaGreatDoor
end
section
namespace Go.Proofs.YtfjimoccliejdaaGreatDoor
open Go.RowKit Go.Shelf

set_option maxRecDepth 100000 in
theorem pv_int (n : Int) (w : World) : Calls Tryz.prog 170 #[.int .i64 n] w fun e w' => e = .returned (VV 2 n ⟨#[]⟩) ∧ Below w.heap.size w w' := by
  go_enter Tryz.func170, Tryz.ntmps170
  go_wp2_with fail
  refine bodyPost_ret (v := VV 2 n ⟨#[]⟩) (by simp [results, Tryz.results170, go_sem]) rfl ⟨rfl, ?_⟩
  first | exact Below.refl _ _ | exact ba w _
set_option maxRecDepth 100000 in
theorem pv_text (b : ByteArray) (w : World) : Calls Tryz.prog 171 #[.string b] w fun e w' => e = .returned (VV 3 0 b) ∧ Below w.heap.size w w' := by
  go_enter Tryz.func171, Tryz.ntmps171
  go_wp2_with fail
  refine bodyPost_ret (v := VV 3 0 b) (by simp [results, Tryz.results171, go_sem]) rfl ⟨rfl, ?_⟩
  first | exact Below.refl _ _ | exact ba w _
set_option maxRecDepth 100000 in
theorem pv_true  (w : World) : Calls Tryz.prog 172 #[.bool true] w fun e w' => e = .returned (VV 1 1 ⟨#[]⟩) ∧ Below w.heap.size w w' := by
  go_enter Tryz.func172, Tryz.ntmps172
  go_wp2_with fail
  refine bodyPost_ret (v := VV 1 1 ⟨#[]⟩) (by simp [results, Tryz.results172, go_sem]) rfl ⟨rfl, ?_⟩
  first | exact Below.refl _ _ | exact ba w _
set_option maxRecDepth 100000 in
theorem pv_false  (w : World) : Calls Tryz.prog 172 #[.bool false] w fun e w' => e = .returned (VV 1 0 ⟨#[]⟩) ∧ Below w.heap.size w w' := by
  go_enter Tryz.func172, Tryz.ntmps172
  go_wp2_with fail
  refine bodyPost_ret (v := VV 1 0 ⟨#[]⟩) (by simp [results, Tryz.results172, go_sem]) rfl ⟨rfl, ?_⟩
  first | exact Below.refl _ _ | exact ba w _
set_option maxRecDepth 100000 in
theorem pv_null  (w : World) : Calls Tryz.prog 173 #[] w fun e w' => e = .returned (VV 0 0 ⟨#[]⟩) ∧ Below w.heap.size w w' := by
  go_enter Tryz.func173, Tryz.ntmps173
  go_wp2_with fail
  refine bodyPost_ret (v := VV 0 0 ⟨#[]⟩) (by simp [results, Tryz.results173, go_sem]) rfl ⟨rfl, ?_⟩
  first | exact Below.refl _ _ | exact ba w _
theorem pagg_rows (w : World) : Calls Tryz.prog 182 #[.int .i64 1, .slice none 0 0] w fun e w' => ∃ A cap, e = .returned (XV (hdA 1) A 0 cap) ∧ Below w.heap.size w w' :=
  (ev_agg (n := 1) (LV.nil w) (by decide)).mono fun _ _ ⟨_, h1, hb, A, cap, h2, _, _⟩ => ⟨A, cap, by rw [h1, h2]; rfl, hb⟩
set_option maxRecDepth 100000 in
set_option maxHeartbeats 4000000 in
theorem penc_any (F m N : Nat) (HO : Ok 29 (Pa.lev F 0) m N) : Ok 174 (Pa.enclP (Pa.lev F 0)) m N := by
  intro s w h hN
  have HOo := Lib.hid HO
  clear HO
  have HB := Lib.hid (ba w (.cells #[.int .i64 0, .int .i64 0, .int .i64 0, .int .i64 0, .string ⟨#[]⟩, .string ⟨#[]⟩, .string ⟨#[]⟩, .slice none 0 0] 37))
  have HU := Lib.hid (show BxU _ _ #[.int .i64 0, .int .i64 0, .int .i64 0, .int .i64 0, .string ⟨#[]⟩, .string ⟨#[]⟩, .string ⟨#[]⟩, .slice none 0 0] 37 from (MapKept.heap_alloc w (.cells #[.int .i64 0, .int .i64 0, .int .i64 0, .int .i64 0, .string ⟨#[]⟩, .string ⟨#[]⟩, .string ⟨#[]⟩, .slice none 0 0] 37)).1)
  have H1 := Lib.hid (h.next HB.out)
  have hmU := h.lt
  have HFin := Lib.hid h.fin
  obtain ⟨U, hU⟩ : ∃ U, w.heap.size = U := ⟨_, rfl⟩
  have HUl := Lib.hid hU
  have HSz := Lib.hid (show (w.alloc (.cells #[.int .i64 0, .int .i64 0, .int .i64 0, .int .i64 0, .string ⟨#[]⟩, .string ⟨#[]⟩, .string ⟨#[]⟩, .slice none 0 0] 37)).heap.size = U + 1 by rw [World.size_alloc, hU])
  rw [hU] at HU hmU
  have HmU := Lib.hid hmU
  obtain ⟨X, hX⟩ : ∃ X, Pa.enclP (Pa.lev F 0) s = X := ⟨_, rfl⟩
  rw [hX]
  have HX := Lib.hid hX
  clear h hX hmU
  go_enter Tryz.func174, Tryz.ntmps174
  go_wp2_with fail
  generalize w.alloc (.cells #[.int .i64 0, .int .i64 0, .int .i64 0, .int .i64 0, .string ⟨#[]⟩, .string ⟨#[]⟩, .string ⟨#[]⟩, .slice none 0 0] 37) = W1 at HB HU H1 HSz ⊢
  clear hU
  have HM1 := Lib.hid (show ButM m w W1 from ButM.of HB.out)
  have HT1 := Lib.hid (HOo.out s W1 H1.out hN)
  obtain ⟨⟨x1, s1⟩, hs1⟩ : ∃ q, Pa.lev F 0 s = q := ⟨_, rfl⟩
  rw [hs1] at HT1
  have HK1 := Lib.hid hs1
  clear hs1
  simp only at HT1
  go_wp2_with fail
  refine HT1.out.mono ?_
  intro e v1 hE
  obtain ⟨A1, cap1, rfl, hC, hR, hM⟩ := RuE.ev hE
  clear hE
  have HMn1 := Lib.hid (HM1.out.trans hM)
  have HUn1 := Lib.hid (HU.out.but HmU.out hM)
  have HRn1 := Lib.hid hR
  have HC1 := Lib.hid (exC_ok.wide (a' := U + 1) (b' := v1.heap.size) (by rw [HSz.out]; exact Nat.le_refl _) (Nat.le_refl _) hC)
  clear hC hR hM
  clear hN
  obtain ⟨hd1, l1⟩ := x1
  simp only [Ex.hd, Ex.kids] at HC1 ⊢
  have hbv := ba v1 (xbox hd1 A1 l1.length cap1)
  have HRv := Lib.hid (HRn1.out.next hbv)
  have HMv := Lib.hid (HMn1.out.trans (ButM.of hbv))
  have HUv := Lib.hid (HUn1.out.next hbv)
  have HVv := Lib.hid (show BxU (v1.alloc (xbox hd1 A1 l1.length cap1)) v1.heap.size #[.int .i64 hd1.k, .int .i64 hd1.n, .int .i64 hd1.vk, .int .i64 hd1.vn, .string hd1.vs, .string hd1.tab, .string hd1.col, .slice A1 l1.length cap1] 37 from (MapKept.heap_alloc v1 (xbox hd1 A1 l1.length cap1)).1)
  have HCv := Lib.hid (exC_ok.keep (a := U + 1) (b := v1.heap.size) hbv (Nat.le_refl _) HC1.out)
  have HmV := Lib.hid (show m < v1.heap.size from HRn1.out.lt)
  have HsV := Lib.hid (show v1.heap.size ≤ (v1.alloc (xbox hd1 A1 l1.length cap1)).heap.size from hbv.size)
  clear hbv
  go_wp2_with fail
  have HT := Lib.hid (must_any m s1 [41] _ HRv.out)
  refine HT.out.mono ?_
  rintro e v9 ⟨rfl, hR, hM⟩
  have HM9 := Lib.hid (HMv.out.trans hM)
  have HU9 := Lib.hid (HUv.out.but HmU.out hM)
  have HV9 := Lib.hid (HVv.out.but HmV.out hM)
  have HR9 := Lib.hid hR
  have HC9 := Lib.hid (exC_ok.wide (a' := U + 1) (b' := v9.heap.size) (Nat.le_refl _) (Nat.le_trans HsV.out hM.size) (exC_ok.keepM hM (Nat.lt_succ_of_lt HmU.out) HsV.out HCv.out))
  have HXe := Lib.hid (show X = (.mk hd1 l1, Pa.mustW [41] s1) by rw [← HX.out, Pa.enclP, HK1.out])
  have hUV := Nat.ne_of_lt HUn1.out.lt
  have hVU := hUV.symm
  clear hR hM
  have d0 : v9.cell? ⟨v1.heap.size, 0, none⟩ = some (.int .i64 hd1.k) := HV9.out.cell 0
  have d1 : v9.cell? ⟨v1.heap.size, 1, none⟩ = some (.int .i64 hd1.n) := HV9.out.cell 1
  have d2 : v9.cell? ⟨v1.heap.size, 2, none⟩ = some (.int .i64 hd1.vk) := HV9.out.cell 2
  have d3 : v9.cell? ⟨v1.heap.size, 3, none⟩ = some (.int .i64 hd1.vn) := HV9.out.cell 3
  have d4 : v9.cell? ⟨v1.heap.size, 4, none⟩ = some (.string hd1.vs) := HV9.out.cell 4
  have d5 : v9.cell? ⟨v1.heap.size, 5, none⟩ = some (.string hd1.tab) := HV9.out.cell 5
  have d6 : v9.cell? ⟨v1.heap.size, 6, none⟩ = some (.string hd1.col) := HV9.out.cell 6
  have d7 : v9.cell? ⟨v1.heap.size, 7, none⟩ = some (.slice A1 l1.length cap1) := HV9.out.cell 7
  have c0 : (v9).cell? ⟨U, 0, none⟩ = some (.int .i64 0) := (HU9.out).cell 0
  have c1 : (v9).cell? ⟨U, 1, none⟩ = some (.int .i64 0) := (HU9.out).cell 1
  have c2 : (v9).cell? ⟨U, 2, none⟩ = some (.int .i64 0) := (HU9.out).cell 2
  have c3 : (v9).cell? ⟨U, 3, none⟩ = some (.int .i64 0) := (HU9.out).cell 3
  have c4 : (v9).cell? ⟨U, 4, none⟩ = some (.string ⟨#[]⟩) := (HU9.out).cell 4
  have c5 : (v9).cell? ⟨U, 5, none⟩ = some (.string ⟨#[]⟩) := (HU9.out).cell 5
  have c6 : (v9).cell? ⟨U, 6, none⟩ = some (.string ⟨#[]⟩) := (HU9.out).cell 6
  have c7 : (v9).cell? ⟨U, 7, none⟩ = some (.slice none 0 0) := (HU9.out).cell 7
  have fc0 := (HU9.out).frozen 0
  have fc1 := (HU9.out).frozen 1
  have fc2 := (HU9.out).frozen 2
  have fc3 := (HU9.out).frozen 3
  have fc4 := (HU9.out).frozen 4
  have fc5 := (HU9.out).frozen 5
  have fc6 := (HU9.out).frozen 6
  have fc7 := (HU9.out).frozen 7
  go_wp2_with fail
  exact bodyPost_ret (v := XV hd1 A1 l1.length cap1) (by simp [results, Tryz.results174, go_sem, c0, c1, c2, c3, c4, c5, c6, c7]) rfl (by rw [HXe.out]; exact RuE.fin (c := xcell (hd1, A1, l1.length, cap1)) exC_ok HUl.out HmU.out HM9.out HR9.out HC9.out (OnU.refl _ _).set.set.set.set.set.set.set.set)
set_option maxRecDepth 100000 in
set_option maxHeartbeats 4000000 in
theorem pagg_any (F m N : Nat) (HO : Ok 29 (Pa.lev F 0) m N) (n : Nat) (s : Pa.Ps) (w : World) (h : RS m w s) (hN : s.ts.length ≤ N) :
    Calls Tryz.prog 176 #[.pointer (some ⟨m, 0, none⟩), .int .i64 n] w (RuE exC m w (Pa.aggP (Pa.lev F 0) n s).1 (Pa.aggP (Pa.lev F 0) n s).2) := by
  have HOo := Lib.hid (penc_any F m N HO)
  clear HO
  have HB := Lib.hid (ba w (.cells #[.int .i64 0, .int .i64 0, .int .i64 0, .int .i64 0, .string ⟨#[]⟩, .string ⟨#[]⟩, .string ⟨#[]⟩, .slice none 0 0] 37))
  have HU := Lib.hid (show BxU _ _ #[.int .i64 0, .int .i64 0, .int .i64 0, .int .i64 0, .string ⟨#[]⟩, .string ⟨#[]⟩, .string ⟨#[]⟩, .slice none 0 0] 37 from (MapKept.heap_alloc w (.cells #[.int .i64 0, .int .i64 0, .int .i64 0, .int .i64 0, .string ⟨#[]⟩, .string ⟨#[]⟩, .string ⟨#[]⟩, .slice none 0 0] 37)).1)
  have H1 := Lib.hid (h.next HB.out)
  have hmU := h.lt
  have HFin := Lib.hid h.fin
  obtain ⟨U, hU⟩ : ∃ U, w.heap.size = U := ⟨_, rfl⟩
  have HUl := Lib.hid hU
  have HSz := Lib.hid (show (w.alloc (.cells #[.int .i64 0, .int .i64 0, .int .i64 0, .int .i64 0, .string ⟨#[]⟩, .string ⟨#[]⟩, .string ⟨#[]⟩, .slice none 0 0] 37)).heap.size = U + 1 by rw [World.size_alloc, hU])
  rw [hU] at HU hmU
  have HmU := Lib.hid hmU
  obtain ⟨X, hX⟩ : ∃ X, Pa.aggP (Pa.lev F 0) n s = X := ⟨_, rfl⟩
  rw [hX]
  have HX := Lib.hid hX
  clear h hX hmU
  go_enter Tryz.func176, Tryz.ntmps176
  go_wp2_with fail
  generalize w.alloc (.cells #[.int .i64 0, .int .i64 0, .int .i64 0, .int .i64 0, .string ⟨#[]⟩, .string ⟨#[]⟩, .string ⟨#[]⟩, .slice none 0 0] 37) = W1 at HB HU H1 HSz ⊢
  clear hU
  have HM1 := Lib.hid (show ButM m w W1 from ButM.of HB.out)
  have hle := (Pa.mustW_le [40] HFin.out).len
  have HT1 := Lib.hid (must_any m s [40] W1 H1.out)
  obtain ⟨s1, hs1⟩ : ∃ z, Pa.mustW [40] s = z := ⟨_, rfl⟩
  rw [hs1] at HT1
  have HK1 := Lib.hid hs1
  clear hs1
  go_wp2_with fail
  refine HT1.out.mono ?_
  rintro e v1 ⟨rfl, hR, hM⟩
  have HMn1 := Lib.hid (HM1.out.trans hM)
  have HUn1 := Lib.hid (HU.out.but HmU.out hM)
  have HRn1 := Lib.hid hR
  clear hR hM
  rw [HK1.out] at hle
  have HT2 := Lib.hid (HOo.out s1 v1 HRn1.out (by omega))
  obtain ⟨⟨x2, s2⟩, hs2⟩ : ∃ q, Pa.enclP (Pa.lev F 0) s1 = q := ⟨_, rfl⟩
  rw [hs2] at HT2
  have HK2 := Lib.hid hs2
  clear hs2
  simp only at HT2
  go_wp2_with fail
  refine HT2.out.mono ?_
  have HUs := Lib.hid (show U + 1 ≤ v1.heap.size from HUn1.out.lt)
  intro e v2 hE
  obtain ⟨A2, cap2, rfl, hC, hR, hM⟩ := RuE.ev hE
  clear hE
  have HMn2 := Lib.hid (HMn1.out.trans hM)
  have HUn2 := Lib.hid (HUn1.out.but HmU.out hM)
  have HRn2 := Lib.hid hR
  have HC2 := Lib.hid (exC_ok.wide (a' := U + 1) (b' := v2.heap.size) HUs.out (Nat.le_refl _) hC)
  clear hC hR hM
  clear hN hle
  obtain ⟨hd2, l2⟩ := x2
  simp only [Ex.hd, Ex.kids] at HC2 ⊢
  go_wp2_with fail
  have hbx := ba v2 (xbox hd2 A2 l2.length cap2)
  have HCm := Lib.hid (exC_one (B' := Bt (U + 1) (v2.heap.size + 1)) (⟨4, (n : Int), 0, 0, ⟨#[]⟩, ⟨#[]⟩, ⟨#[]⟩⟩ : Hd) HC2.out (fun k hk => ⟨hk.2, hk.1, Nat.lt_succ_of_lt hk.2⟩) ⟨HUn2.out.lt, Nat.lt_succ_self _⟩ 37)
  have HMx := Lib.hid (HMn2.out.trans (ButM.of hbx))
  have HRx := Lib.hid (HRn2.out.next hbx)
  have HUx := Lib.hid (HUn2.out.next hbx)
  clear hbx
  refine (pmade_any 4 (n : Int) (some ⟨v2.heap.size, 0, none⟩) 1 1 _).mono ?_
  rintro e v9 ⟨rfl, hb⟩
  have HM9 := Lib.hid (HMx.out.trans (ButM.of hb))
  have HU9 := Lib.hid (HUx.out.next hb)
  have HR9 := Lib.hid (HRx.out.next hb)
  have HC9 := Lib.hid (show exC (Bt (U + 1) v9.heap.size) v9 (.mk (⟨4, (n : Int), 0, 0, ⟨#[]⟩, ⟨#[]⟩, ⟨#[]⟩⟩ : Hd) [.mk hd2 l2]) (xcell ((⟨4, (n : Int), 0, 0, ⟨#[]⟩, ⟨#[]⟩, ⟨#[]⟩⟩ : Hd), some ⟨v2.heap.size, 0, none⟩, 1, 1)) from exC_ok.wide (Nat.le_refl _) (by have := hb.size; rw [World.size_alloc] at this; omega) (exC_ok.keep hb (by rw [World.size_alloc]; exact Nat.le_refl _) HCm.out))
  have HXe := Lib.hid (show X = (.mk (⟨4, (n : Int), 0, 0, ⟨#[]⟩, ⟨#[]⟩, ⟨#[]⟩⟩ : Hd) [.mk hd2 l2], s2) by rw [← HX.out, Pa.aggP, HK1.out, HK2.out]; rfl)
  clear hb
  have c0 : (v9).cell? ⟨U, 0, none⟩ = some (.int .i64 0) := (HU9.out).cell 0
  have c1 : (v9).cell? ⟨U, 1, none⟩ = some (.int .i64 0) := (HU9.out).cell 1
  have c2 : (v9).cell? ⟨U, 2, none⟩ = some (.int .i64 0) := (HU9.out).cell 2
  have c3 : (v9).cell? ⟨U, 3, none⟩ = some (.int .i64 0) := (HU9.out).cell 3
  have c4 : (v9).cell? ⟨U, 4, none⟩ = some (.string ⟨#[]⟩) := (HU9.out).cell 4
  have c5 : (v9).cell? ⟨U, 5, none⟩ = some (.string ⟨#[]⟩) := (HU9.out).cell 5
  have c6 : (v9).cell? ⟨U, 6, none⟩ = some (.string ⟨#[]⟩) := (HU9.out).cell 6
  have c7 : (v9).cell? ⟨U, 7, none⟩ = some (.slice none 0 0) := (HU9.out).cell 7
  have fc0 := (HU9.out).frozen 0
  have fc1 := (HU9.out).frozen 1
  have fc2 := (HU9.out).frozen 2
  have fc3 := (HU9.out).frozen 3
  have fc4 := (HU9.out).frozen 4
  have fc5 := (HU9.out).frozen 5
  have fc6 := (HU9.out).frozen 6
  have fc7 := (HU9.out).frozen 7
  go_wp2_with fail
  exact bodyPost_ret (v := XV (⟨4, (n : Int), 0, 0, ⟨#[]⟩, ⟨#[]⟩, ⟨#[]⟩⟩ : Hd) (some ⟨v2.heap.size, 0, none⟩) 1 1) (by simp [results, Tryz.results176, go_sem, c0, c1, c2, c3, c4, c5, c6, c7]) rfl (by rw [HXe.out]; exact RuE.fin (c := xcell ((⟨4, (n : Int), 0, 0, ⟨#[]⟩, ⟨#[]⟩, ⟨#[]⟩⟩ : Hd), (some ⟨v2.heap.size, 0, none⟩), 1, 1)) exC_ok HUl.out HmU.out HM9.out HR9.out HC9.out (OnU.refl _ _).set.set.set.set.set.set.set.set)
set_option maxRecDepth 100000 in
set_option maxHeartbeats 4000000 in
theorem pcount_any (F m N : Nat) (HO : Ok 29 (Pa.lev F 0) m N) : Ok 175 (Pa.countP (Pa.lev F 0)) m N := by
  intro s w h hN
  have HOo := Lib.hid (penc_any F m N HO)
  clear HO
  have HB := Lib.hid (ba w (.cells #[.int .i64 0, .int .i64 0, .int .i64 0, .int .i64 0, .string ⟨#[]⟩, .string ⟨#[]⟩, .string ⟨#[]⟩, .slice none 0 0] 37))
  have HU := Lib.hid (show BxU _ _ #[.int .i64 0, .int .i64 0, .int .i64 0, .int .i64 0, .string ⟨#[]⟩, .string ⟨#[]⟩, .string ⟨#[]⟩, .slice none 0 0] 37 from (MapKept.heap_alloc w (.cells #[.int .i64 0, .int .i64 0, .int .i64 0, .int .i64 0, .string ⟨#[]⟩, .string ⟨#[]⟩, .string ⟨#[]⟩, .slice none 0 0] 37)).1)
  have H1 := Lib.hid (h.next HB.out)
  have hmU := h.lt
  have HFin := Lib.hid h.fin
  obtain ⟨U, hU⟩ : ∃ U, w.heap.size = U := ⟨_, rfl⟩
  have HUl := Lib.hid hU
  have HSz := Lib.hid (show (w.alloc (.cells #[.int .i64 0, .int .i64 0, .int .i64 0, .int .i64 0, .string ⟨#[]⟩, .string ⟨#[]⟩, .string ⟨#[]⟩, .slice none 0 0] 37)).heap.size = U + 1 by rw [World.size_alloc, hU])
  rw [hU] at HU hmU
  have HmU := Lib.hid hmU
  obtain ⟨X, hX⟩ : ∃ X, Pa.countP (Pa.lev F 0) s = X := ⟨_, rfl⟩
  rw [hX]
  have HX := Lib.hid hX
  clear h hX hmU
  go_enter Tryz.func175, Tryz.ntmps175
  go_wp2_with fail
  generalize w.alloc (.cells #[.int .i64 0, .int .i64 0, .int .i64 0, .int .i64 0, .string ⟨#[]⟩, .string ⟨#[]⟩, .string ⟨#[]⟩, .slice none 0 0] 37) = W1 at HB HU H1 HSz ⊢
  clear hU
  have HM1 := Lib.hid (show ButM m w W1 from ButM.of HB.out)
  have hle := (Pa.mustW_le [40] HFin.out).len
  have HT1 := Lib.hid (must_any m s [40] W1 H1.out)
  obtain ⟨s1, hs1⟩ : ∃ z, Pa.mustW [40] s = z := ⟨_, rfl⟩
  rw [hs1] at HT1
  have HK1 := Lib.hid hs1
  clear hs1
  go_wp2_with fail
  refine HT1.out.mono ?_
  rintro e v1 ⟨rfl, hR, hM⟩
  have HMn1 := Lib.hid (HM1.out.trans hM)
  have HUn1 := Lib.hid (HU.out.but HmU.out hM)
  have HRn1 := Lib.hid hR
  clear hR hM
  rw [HK1.out] at hle
  have HT2 := Lib.hid (take_any m s1 [42] v1 HRn1.out)
  obtain ⟨t2, ht⟩ : ∃ z, (Pa.takeW [42] s1).1 = z := ⟨_, rfl⟩
  obtain ⟨s2, hs⟩ : ∃ z, (Pa.takeW [42] s1).2 = z := ⟨_, rfl⟩
  have hno2 := (Pa.takeW_le [42] HRn1.out.fin).2.2
  rw [ht, hs] at HT2 hno2
  have HK2 := Lib.hid (show Pa.takeW [42] s1 = (t2, s2) by rw [← ht, ← hs])
  clear ht hs
  cases t2 with
  | true =>
    clear hle hN
    clear hno2
    go_wp2_with fail
    refine HT2.out.mono ?_
    rintro e v2 ⟨rfl, hR, hM⟩
    have HMn2 := Lib.hid (HMn1.out.trans hM)
    have HUn2 := Lib.hid (HUn1.out.but HmU.out hM)
    have HRn2 := Lib.hid hR
    clear hR hM
    have HT3 := Lib.hid (must_any m s2 [41] v2 HRn2.out)
    obtain ⟨s3, hs3⟩ : ∃ z, Pa.mustW [41] s2 = z := ⟨_, rfl⟩
    rw [hs3] at HT3
    have HK3 := Lib.hid hs3
    clear hs3
    go_wp2_with fail
    refine HT3.out.mono ?_
    rintro e v3 ⟨rfl, hR, hM⟩
    have HMn3 := Lib.hid (HMn2.out.trans hM)
    have HUn3 := Lib.hid (HUn2.out.but HmU.out hM)
    have HRn3 := Lib.hid hR
    clear hR hM
    go_wp2_with fail
    refine (pagg_rows v3).mono ?_
    rintro e v9 ⟨A9, cap9, rfl, hb⟩
    have HM9 := Lib.hid (HMn3.out.trans (ButM.of hb))
    have HU9 := Lib.hid (HUn3.out.next hb)
    have HR9 := Lib.hid (HRn3.out.next hb)
    have HXe := Lib.hid (show X = (Pa.exAgg 1 [], s3) by rw [← HX.out, Pa.countP, HK1.out, HK2.out, if_pos rfl, HK3.out])
    clear hb
    have c0 : (v9).cell? ⟨U, 0, none⟩ = some (.int .i64 0) := (HU9.out).cell 0
    have c1 : (v9).cell? ⟨U, 1, none⟩ = some (.int .i64 0) := (HU9.out).cell 1
    have c2 : (v9).cell? ⟨U, 2, none⟩ = some (.int .i64 0) := (HU9.out).cell 2
    have c3 : (v9).cell? ⟨U, 3, none⟩ = some (.int .i64 0) := (HU9.out).cell 3
    have c4 : (v9).cell? ⟨U, 4, none⟩ = some (.string ⟨#[]⟩) := (HU9.out).cell 4
    have c5 : (v9).cell? ⟨U, 5, none⟩ = some (.string ⟨#[]⟩) := (HU9.out).cell 5
    have c6 : (v9).cell? ⟨U, 6, none⟩ = some (.string ⟨#[]⟩) := (HU9.out).cell 6
    have c7 : (v9).cell? ⟨U, 7, none⟩ = some (.slice none 0 0) := (HU9.out).cell 7
    have fc0 := (HU9.out).frozen 0
    have fc1 := (HU9.out).frozen 1
    have fc2 := (HU9.out).frozen 2
    have fc3 := (HU9.out).frozen 3
    have fc4 := (HU9.out).frozen 4
    have fc5 := (HU9.out).frozen 5
    have fc6 := (HU9.out).frozen 6
    have fc7 := (HU9.out).frozen 7
    go_wp2_with fail
    exact bodyPost_ret (v := XV (hdA 1) A9 0 cap9) (by simp [results, Tryz.results175, go_sem, c0, c1, c2, c3, c4, c5, c6, c7]) rfl (by rw [HXe.out]; exact RuE.fin (c := xcell ((hdA 1), A9, 0, cap9)) exC_ok HUl.out HmU.out HM9.out HR9.out (show exC _ _ (Pa.exAgg 1 []) _ from ⟨_, rfl, rfl, rfl, Nat.zero_le _, by show XsB _ _ [] _; rw [XsB]; trivial⟩) (OnU.refl _ _).set.set.set.set.set.set.set.set)
  | false =>
    obtain rfl := hno2 rfl
    clear hno2
    go_wp2_with fail
    refine HT2.out.mono ?_
    rintro e v2 ⟨rfl, hR, hM⟩
    have HMn2 := Lib.hid (HMn1.out.trans hM)
    have HUn2 := Lib.hid (HUn1.out.but HmU.out hM)
    have HRn2 := Lib.hid hR
    clear hR hM
    have HT3 := Lib.hid (HOo.out s2 v2 HRn2.out (by omega))
    obtain ⟨⟨x3, s3⟩, hs3⟩ : ∃ q, Pa.enclP (Pa.lev F 0) s2 = q := ⟨_, rfl⟩
    rw [hs3] at HT3
    have HK3 := Lib.hid hs3
    clear hs3
    simp only at HT3
    go_wp2_with fail
    refine HT3.out.mono ?_
    have HUs := Lib.hid (show U + 1 ≤ v2.heap.size from HUn2.out.lt)
    intro e v3 hE
    obtain ⟨A3, cap3, rfl, hC, hR, hM⟩ := RuE.ev hE
    clear hE
    have HMn3 := Lib.hid (HMn2.out.trans hM)
    have HUn3 := Lib.hid (HUn2.out.but HmU.out hM)
    have HRn3 := Lib.hid hR
    have HC3 := Lib.hid (exC_ok.wide (a' := U + 1) (b' := v3.heap.size) HUs.out (Nat.le_refl _) hC)
    clear hC hR hM
    clear hN hle
    obtain ⟨hd3, l3⟩ := x3
    simp only [Ex.hd, Ex.kids] at HC3 ⊢
    go_wp2_with fail
    have hbx := ba v3 (xbox hd3 A3 l3.length cap3)
    have HCm := Lib.hid (exC_one (B' := Bt (U + 1) (v3.heap.size + 1)) (⟨4, 2, 0, 0, ⟨#[]⟩, ⟨#[]⟩, ⟨#[]⟩⟩ : Hd) HC3.out (fun k hk => ⟨hk.2, hk.1, Nat.lt_succ_of_lt hk.2⟩) ⟨HUn3.out.lt, Nat.lt_succ_self _⟩ 37)
    have HMx := Lib.hid (HMn3.out.trans (ButM.of hbx))
    have HRx := Lib.hid (HRn3.out.next hbx)
    have HUx := Lib.hid (HUn3.out.next hbx)
    clear hbx
    refine (pmade_any 4 2 (some ⟨v3.heap.size, 0, none⟩) 1 1 _).mono ?_
    rintro e v9 ⟨rfl, hb⟩
    have HM9 := Lib.hid (HMx.out.trans (ButM.of hb))
    have HU9 := Lib.hid (HUx.out.next hb)
    have HR9 := Lib.hid (HRx.out.next hb)
    have HC9 := Lib.hid (show exC (Bt (U + 1) v9.heap.size) v9 (.mk (⟨4, 2, 0, 0, ⟨#[]⟩, ⟨#[]⟩, ⟨#[]⟩⟩ : Hd) [.mk hd3 l3]) (xcell ((⟨4, 2, 0, 0, ⟨#[]⟩, ⟨#[]⟩, ⟨#[]⟩⟩ : Hd), some ⟨v3.heap.size, 0, none⟩, 1, 1)) from exC_ok.wide (Nat.le_refl _) (by have := hb.size; rw [World.size_alloc] at this; omega) (exC_ok.keep hb (by rw [World.size_alloc]; exact Nat.le_refl _) HCm.out))
    have HXe := Lib.hid (show X = (.mk (⟨4, 2, 0, 0, ⟨#[]⟩, ⟨#[]⟩, ⟨#[]⟩⟩ : Hd) [.mk hd3 l3], s3) by rw [← HX.out, Pa.countP, HK1.out, HK2.out, if_neg (by simp), Pa.aggP, HK1.out, HK3.out]; rfl)
    clear hb
    have c0 : (v9).cell? ⟨U, 0, none⟩ = some (.int .i64 0) := (HU9.out).cell 0
    have c1 : (v9).cell? ⟨U, 1, none⟩ = some (.int .i64 0) := (HU9.out).cell 1
    have c2 : (v9).cell? ⟨U, 2, none⟩ = some (.int .i64 0) := (HU9.out).cell 2
    have c3 : (v9).cell? ⟨U, 3, none⟩ = some (.int .i64 0) := (HU9.out).cell 3
    have c4 : (v9).cell? ⟨U, 4, none⟩ = some (.string ⟨#[]⟩) := (HU9.out).cell 4
    have c5 : (v9).cell? ⟨U, 5, none⟩ = some (.string ⟨#[]⟩) := (HU9.out).cell 5
    have c6 : (v9).cell? ⟨U, 6, none⟩ = some (.string ⟨#[]⟩) := (HU9.out).cell 6
    have c7 : (v9).cell? ⟨U, 7, none⟩ = some (.slice none 0 0) := (HU9.out).cell 7
    have fc0 := (HU9.out).frozen 0
    have fc1 := (HU9.out).frozen 1
    have fc2 := (HU9.out).frozen 2
    have fc3 := (HU9.out).frozen 3
    have fc4 := (HU9.out).frozen 4
    have fc5 := (HU9.out).frozen 5
    have fc6 := (HU9.out).frozen 6
    have fc7 := (HU9.out).frozen 7
    go_wp2_with fail
    exact bodyPost_ret (v := XV (⟨4, 2, 0, 0, ⟨#[]⟩, ⟨#[]⟩, ⟨#[]⟩⟩ : Hd) (some ⟨v3.heap.size, 0, none⟩) 1 1) (by simp [results, Tryz.results175, go_sem, c0, c1, c2, c3, c4, c5, c6, c7]) rfl (by rw [HXe.out]; exact RuE.fin (c := xcell ((⟨4, 2, 0, 0, ⟨#[]⟩, ⟨#[]⟩, ⟨#[]⟩⟩ : Hd), (some ⟨v3.heap.size, 0, none⟩), 1, 1)) exC_ok HUl.out HmU.out HM9.out HR9.out HC9.out (OnU.refl _ _).set.set.set.set.set.set.set.set)
end Go.Proofs.YtfjimoccliejdaaGreatDoor
end
