/-
  Package disk: the laws' lives.
-/
import Derived.Test.YthimgldohhaimabDkc
namespace Go.Proofs.Ythimgldohhaimab
open Go.RowKit Go.Maps Go.Sort

theorem dv_meter {B : Nat} {w : World} {l mf ms : Nat} {F : List Int} {v : Value} (h : DkAt B w l mf ms (dkC F v 4 1)) :
    Calls Try.prog 14 #[.pointer (some ⟨l, 0, none⟩)] w fun e w' => e = .returned (.agg #[.int .i64 1, .int .i64 2, .int .i64 2, .int .i64 2]) ∧ Below w.heap.size w w' := meter_any B l mf ms _ w h
theorem dv_meter2 {B : Nat} {w : World} {l mf ms : Nat} {F : List Int} (h : DkAt B w l mf ms (dkE F)) :
    Calls Try.prog 14 #[.pointer (some ⟨l, 0, none⟩)] w fun e w' => e = .returned (.agg #[.int .i64 1, .int .i64 2, .int .i64 0, .int .i64 2]) ∧ Below w.heap.size w w' := meter_any B l mf ms _ w h
theorem dv_deeds {B : Nat} {w : World} {l mf ms : Nat} {F : List Int} (h : DkAt B w l mf ms (dkE F)) :
    Calls Try.prog 16 #[.pointer (some ⟨l, 0, none⟩)] w fun e w' => e = .returned (.int .i64 4) ∧ w = w' := deeds_any B l mf ms _ w h
theorem dv_files {B : Nat} {w : World} {l mf ms : Nat} {F : List Int} (h : DkAt B w l mf ms (dkE F)) :
    Calls Try.prog 17 #[.pointer (some ⟨l, 0, none⟩)] w fun e w' => (∃ A c, e = .returned (.slice A 1 c)) ∧ Below w.heap.size w w' := by
  refine (files_any B l mf ms _ w h).mono ?_
  rintro e w' ⟨⟨v, ys, rfl, hp, _, ho⟩, hb⟩
  have hl : ys.length = 1 := hp.length_eq
  refine ⟨?_, hb⟩
  rcases ho.2 with ⟨hv, h0⟩ | ⟨g, cap, cur, hv, _⟩
  · omega
  · exact ⟨_, cap, by rw [hv, hl]⟩
theorem field_used (w : World) : (Instr.field 45 (.agg #[.int .i64 1, .int .i64 2, .int .i64 0, .int .i64 2]) 2).run Try.prog w = .ok (.int .i64 0) w := by kernel_rfl
def MtAt (w : World) (k : Nat) : Prop := w.heap[k]? = some (.cells #[.int .i64 1, .int .i64 2, .int .i64 2, .int .i64 2] 45 (0, 0))
set_option maxRecDepth 100000 in
set_option maxHeartbeats 8000000 in
theorem lives5_yes (w : World) :
    Calls Try.prog 4 #[] w fun e w' => e = .returned (.bool true) ∧ Below w.heap.size w w' := by
  have hbx : (w.alloc (.cells #[.int .i64 2] 3)).heap[w.heap.size]? = some (.cells #[.int .i64 2] 3 (0, 0)) := (MapKept.heap_alloc w _).1
  have HNw := Lib.hid (dv_new w.heap.size (w.alloc (.cells #[.int .i64 2] 3)) (by simp only [World.cell?, hbx]; rfl))
  have HBw := Lib.hid (ba w (.cells #[.int .i64 2] 3))
  clear hbx
  go_enter Try.func4, Try.ntmps4
  go_wp2_with fail
  refine HNw.out.mono ?_
  rintro e w1 ⟨⟨l, mf, ms, F, rfl, hd, hF⟩, hb⟩
  obtain ⟨B, hB⟩ : ∃ B, B = (w.alloc (.cells #[.int .i64 2] 3)).heap.size := ⟨_, rfl⟩
  have HB1 := Lib.hid (bt HBw.out hb)
  rw [← hB] at hd
  have HB0 := Lib.hid (show w.heap.size ≤ B by rw [hB]; simp)
  have HD1 := Lib.hid hd
  have HF1 := Lib.hid hF
  clear hd hF hb hB HNw
  go_wp2_with fail
  refine (dv_create HD1.out).mono ?_
  rintro e w2 ⟨rfl, hd, hg⟩
  have HD2 := Lib.hid hd
  have HB2 := Lib.hid (HB1.out.trans (hg.below.mono HB0.out))
  clear hd hg
  go_wp2_with fail
  refine (page_any 1 w2).mono ?_
  rintro e w3 ⟨g3, rfl, _, hp, hb⟩
  have HD3 := Lib.hid (HD2.out.kept hb)
  have HB3 := Lib.hid (bt HB2.out hb)
  have HQ3 := Lib.hid hp
  clear hp hb
  go_wp2_with fail
  refine (dv_app1 HD3.out HF1.out g3 HQ3.out).mono ?_
  rintro e w4 ⟨rfl, ⟨F4, v4, hd, hF⟩, hg⟩
  have HD4 := Lib.hid hd
  have HF4 := Lib.hid hF
  have HB4 := Lib.hid (HB3.out.trans (hg.below.mono HB0.out))
  clear hd hF hg
  go_wp2_with fail
  refine (page_any 2 w4).mono ?_
  rintro e w5 ⟨g5, rfl, _, hp, hb⟩
  have HD5 := Lib.hid (HD4.out.kept hb)
  have HB5 := Lib.hid (bt HB4.out hb)
  have HQ5 := Lib.hid hp
  clear hp hb
  go_wp2_with fail
  refine (dv_app2 HD5.out HF4.out g5 HQ5.out).mono ?_
  rintro e w6 ⟨rfl, ⟨F6, hd, hF⟩, hg⟩
  have HD6 := Lib.hid hd
  have HF6 := Lib.hid hF
  have HB6 := Lib.hid (HB5.out.trans (hg.below.mono HB0.out))
  clear hd hF hg
  go_wp2_with fail
  refine (page_any 3 w6).mono ?_
  rintro e w7 ⟨g7, rfl, _, hp, hb⟩
  have HD7 := Lib.hid (HD6.out.kept hb)
  have HB7 := Lib.hid (bt HB6.out hb)
  have HQ7 := Lib.hid hp
  clear hp hb
  go_wp2_with fail
  refine (dv_app3 HD7.out HF6.out g7 HQ7.out).mono ?_
  rintro e w8 ⟨rfl, ⟨F8, v8, hd, hF⟩, hg⟩
  have HD8 := Lib.hid hd
  have HF8 := Lib.hid hF
  have HB8 := Lib.hid (HB7.out.trans (hg.below.mono HB0.out))
  clear hd hF hg
  go_wp2_with fail
  refine (page_any 4 w8).mono ?_
  rintro e w9 ⟨g9, rfl, _, hp, hb⟩
  have HD9 := Lib.hid (HD8.out.kept hb)
  have HB9 := Lib.hid (bt HB8.out hb)
  have HQ9 := Lib.hid hp
  clear hp hb
  go_wp2_with fail
  refine (dv_app4 HD9.out g9 HQ9.out).mono ?_
  rintro e w10 ⟨rfl, hd, hg⟩
  have HD10 := Lib.hid hd
  have HB10 := Lib.hid (HB9.out.trans (hg.below.mono HB0.out))
  clear hd hg
  go_wp2_with fail
  refine (dv_read HD10.out HF8.out).mono ?_
  rintro e w11 ⟨⟨g, rfl, _, hp⟩, ⟨F11, hd⟩, hg⟩
  have HD11 := Lib.hid hd
  have HP11 := Lib.hid hp
  have HB11 := Lib.hid (HB10.out.trans (hg.below.mono HB0.out))
  clear hd hp hg
  go_wp2_with fail
  refine (dv_size HD11.out).mono ?_
  rintro e w12 ⟨rfl, rfl⟩
  go_wp2_with fail
  refine (dv_meter HD11.out).mono ?_
  rintro e w12 ⟨rfl, hb⟩
  have hba := bt hb (ba w12 (.cells #[.int .i64 1, .int .i64 2, .int .i64 2, .int .i64 2] 45))
  have HM12 := Lib.hid (show MtAt (w12.alloc (.cells #[.int .i64 1, .int .i64 2, .int .i64 2, .int .i64 2] 45)) w12.heap.size from (MapKept.heap_alloc w12 _).1)
  have HD12 := Lib.hid (HD11.out.kept hba)
  have HP12 := Lib.hid (show PageAt _ g (pageC 3) from (hba.block g (block_ltD HP11.out)).trans HP11.out)
  have HB12 := Lib.hid (bt HB11.out hba)
  clear hb hba
  go_upto_region 11 with fail
  generalize w12.alloc (.cells #[.int .i64 1, .int .i64 2, .int .i64 2, .int .i64 2] 45) = V at HM12 HD12 HP12 HB12 ⊢
  generalize w12.heap.size = M at HM12 ⊢
  go_wp2_with fail
  refine (dv_delete HD12.out).mono ?_
  rintro e w13 ⟨rfl, hd, hg, ho⟩
  have HN := Lib.hid (show (g ≠ l ∧ g ≠ ms) ∧ (M ≠ l ∧ M ≠ ms) from by
    have h1 := HP12.out
    have h2 := HD12.out.box
    obtain ⟨es, c, h3⟩ := HD12.out.fls.isMap
    have h4 := HM12.out
    unfold PageAt at h1
    unfold MtAt at h4
    exact ⟨⟨fun e => (by rw [e, h2] at h1; cases h1), fun e => (by rw [e, h3] at h1; cases h1)⟩, fun e => (by rw [e, h2] at h4; cases h4), fun e => (by rw [e, h3] at h4; cases h4)⟩)
  have HP13 := Lib.hid (show PageAt w13 g (pageC 3) from (ho g (block_ltD HP12.out) HN.out.1.1 HN.out.1.2).trans HP12.out)
  have HM13 := Lib.hid (show MtAt w13 M from (ho M (block_ltD HM12.out) HN.out.2.1 HN.out.2.2).trans HM12.out)
  have HD13 := Lib.hid hd
  have HB13 := Lib.hid (HB12.out.trans (hg.below.mono HB0.out))
  clear hd hg ho
  go_wp2_with fail
  refine (dv_create2 HD13.out).mono ?_
  rintro e w14 ⟨rfl, hd, hg, ho⟩
  have HP14 := Lib.hid (show PageAt w14 g (pageC 3) from (ho g (block_ltD HP13.out) HN.out.1.1 HN.out.1.2).trans HP13.out)
  have HM14 := Lib.hid (show MtAt w14 M from (ho M (block_ltD HM13.out) HN.out.2.1 HN.out.2.2).trans HM13.out)
  have HD14 := Lib.hid hd
  have HB14 := Lib.hid (HB13.out.trans (hg.below.mono HB0.out))
  clear hd hg ho
  go_wp2_with fail
  refine (dv_new2 w14).mono ?_
  rintro e w15 ⟨rfl, hb⟩
  have HP15 := Lib.hid (show PageAt w15 g (pageC 3) from (hb.block g (block_ltD HP14.out)).trans HP14.out)
  have HM15 := Lib.hid (show MtAt w15 M from (hb.block M (block_ltD HM14.out)).trans HM14.out)
  have HD15 := Lib.hid (HD14.out.kept hb)
  have HB15 := Lib.hid (bt HB14.out hb)
  clear hb
  have hp9 : w15.cell? ⟨g, 9, none⟩ = some (.int .u8 3) := by
    have h1 := HP15.out
    unfold PageAt at h1
    simp only [World.cell?, h1]
    rfl
  have hm := HM15.out
  unfold MtAt at hm
  have m0 : w15.cell? ⟨M, 0, none⟩ = some (.int .i64 1) := by simp only [World.cell?, hm]; rfl
  have m1 : w15.cell? ⟨M, 1, none⟩ = some (.int .i64 2) := by simp only [World.cell?, hm]; rfl
  have m2 : w15.cell? ⟨M, 2, none⟩ = some (.int .i64 2) := by simp only [World.cell?, hm]; rfl
  have m3 : w15.cell? ⟨M, 3, none⟩ = some (.int .i64 2) := by simp only [World.cell?, hm]; rfl
  clear hm
  go_wp2_with fail
  refine (dv_deeds HD15.out).mono ?_
  rintro e w16 ⟨rfl, rfl⟩
  go_wp2_with fail
  refine (dv_files HD15.out).mono ?_
  rintro e w16 ⟨⟨Af, cf, rfl⟩, hb⟩
  have HD16 := Lib.hid (HD15.out.kept hb)
  have HB16 := Lib.hid (bt HB15.out hb)
  clear hb
  go_wp2_with fail
  refine (dv_meter2 HD16.out).mono ?_
  rintro e w17 ⟨rfl, hb⟩
  have HB17 := Lib.hid (bt HB16.out hb)
  clear hb
  have hfd := field_used
  go_wp2_with fail
  go_ret
  exact ⟨rfl, HB17.out⟩
end Go.Proofs.Ythimgldohhaimab
