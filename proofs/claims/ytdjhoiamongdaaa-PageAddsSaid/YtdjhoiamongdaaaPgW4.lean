/-
  The walk of PageAdds.
-/
import Derived.Test.YtdjhoiamongdaaaPgW1
import Derived.Test.YtdjhoiamongdaaaPgX
import Derived.Test.YtdjhoiamongdaaaPgK
import Derived.Deep.CutRange
namespace Go.Proofs.Ytdjhoiamongdaaa
open Go.RowKit Go.Shelf

theorem buf_empty (w : World) (n : Nat) (hn : w.heap.size = n) : Buf (w.alloc (.cells #[] 5)) n n 0 0 [] := by
  subst hn
  exact ⟨rfl, rfl, .inr ⟨w.heap.size, 0, #[], rfl, Nat.le_refl _, heap_alloc_new w _, Nat.le_refl _, Nat.zero_le _, rfl, rfl⟩⟩
theorem str_atd {w : World} {A : Option Addr} {l : List Int} {L : Nat} (h : BytesAt w A l) (hL : l.length = L) (c : Nat) :
    (convert 25 9 (.slice A L c)).run Try.prog w = .ok (.string (strOfNums l)) w := by
  subst hL; exact h.str c
theorem own_rows {w : World} {B n c : Nat} {A : Option Addr} {p : List (List Va)} (h : ListOwn w B (.slice A n c) p) : RowsAt w A p := by
  obtain ⟨A', c', e, h2⟩ := h.rows
  cases e
  exact h2

set_option maxRecDepth 100000 in
set_option maxHeartbeats 1000000 in
theorem pageAdds_large (A : Option Addr) (c : Nat) (rs : List (List Va)) (w : World) (h : RowsAt w A rs) (hk : ∀ r ∈ rs, r.length ≤ 9223372036854775807) (hl : rs.length ≤ 9223372036854775807) (hb : largeP rs = true) :
    Calls Try.prog 3 #[.slice A rs.length c] w fun e w' => e = .returned (.bool true) ∧ Below w.heap.size w w' := by
  have HL := Lib.hid (largeP_any A c rs w h hk hl)
  rw [hb] at HL
  clear h hk hb
  go_enter Try.func3, Try.ntmps3
  go_wp2_with fail
  refine HL.out.mono ?_
  rintro e w1 ⟨rfl, rfl⟩
  go_wp2_with fail
  refine (livesP_yes _).mono ?_
  rintro e w2 ⟨rfl, hb⟩
  go_wp2_with fail
  go_ret
  exact ⟨rfl, hb⟩

set_option maxRecDepth 100000 in
set_option maxHeartbeats 8000000 in
theorem pageAdds_few (A : Option Addr) (c L : Nat) (rs : List (List Va)) (w : World) (h : RowsAt w A rs) (hL : rs.length = L) (hf : ∀ r ∈ rs, Fine r) (hk : ∀ r ∈ rs, r.length ≤ 9223372036854775807) (hn : A = none → c = 0) (hb : largeP rs = false) :
    Calls Try.prog 3 #[.slice A L c] w fun e w' => e = .returned (.bool true) ∧ Below w.heap.size w w' := by
  have hlen := (largeP_len hb).1
  have HLg := Lib.hid (largeP_any A c rs w h hk (by omega))
  rw [hb, hL] at HLg
  have HR := Lib.hid h
  have HL := Lib.hid hL
  have HF := Lib.hid hf
  have HK := Lib.hid hk
  rw [hL] at hlen
  clear h hL hf hk hb
  go_enter Try.func3, Try.ntmps3
  go_wp2_with fail
  refine HLg.out.mono ?_
  rintro e w1 ⟨rfl, rfl⟩
  go_wp2_with fail
  refine (pageNew_any _).mono ?_
  rintro e w2 ⟨g, rfl, hg, hz, hb⟩
  clear hg
  have HZ := Lib.hid hz.zeroB
  have HB := Lib.hid hb
  clear hz hb
  go_wp2_with fail
  go_loopw [3, 4, 5] (fun v l i wr => ∃ (j g N : Nat) (ps : List (List Va)) (A0 : Option Addr) (d0 : Nat), j ≤ L ∧ i = .int .i64 j ∧ v = .slice (some ⟨g, 0, none⟩) 256 256 ∧ l = .slice A0 N d0 ∧ N ≤ 85 ∧ Hid (ps.length = N) ∧ Hid (OwnB wr g (makeP ps)) ∧ Hid (fitsP ps = true) ∧ Hid (allOk ps) ∧ Hid (RowsAt wr A0 ps) ∧ Hid (A0 = none → d0 = 0) ∧ Hid (Below w.heap.size w wr)) (fun _ _ i _ => L - (intOf i).toNat)
  case atStart => exact ⟨0, g, 0, [], none, 0, Nat.zero_le _, rfl, rfl, rfl, Nat.zero_le _, Lib.hid rfl, HZ, Lib.hid fits_nil, Lib.hid ok_live.1, Lib.hid (.inl rfl), Lib.hid (fun _ => rfl), HB⟩
  case round =>
    obtain ⟨j, g, N, ps, A0, d0, hj, rfl, rfl, rfl, hN, HN, HO, HFt, HOk, HLs, HA0, HB⟩ := hrel
    clear HZ
    by_cases hlt : j < L
    · have hlt' : j < rs.length := by rw [HL.out]; exact hlt
      have hsz := HB.out.size
      have HBy := Lib.hid ((HO.out.madeBytes HOk.out HFt.out).kept (ba wr (.cells #[] 5)))
      have HLn := Lib.hid (makeP_len HFt.out)
      have HEm := Lib.hid (buf_empty wr _ rfl)
      go_wp2_with (at_builtin; refine wpList_appO rfl (.tmp 24) (.tmp 25) rfl wr.heap.size wr.heap.size 0 0 [] (some ⟨g, 0, none⟩) 256 256 (makeP ps) _ rfl rfl HEm.out HBy.out HLn.out (by decide) (by decide) (by simp) ?_)
      intro g1 cap1 w1 hb1 hg1
      have hb := below_appO (ba wr _) HEm.out (by simp) hg1
      have HO := Lib.hid (HO.out.kept hb)
      have HLs := Lib.hid (HLs.out.kept hb)
      have HB := Lib.hid (bt HB.out hb)
      have HOwn := Lib.hid (show BytesAt w1 (some ⟨g1, 0, none⟩) (makeP ps) from hb1.bytes (makeP_byte HOk.out HFt.out))
      have hcap : 256 ≤ cap1 := hb1.le
      clear hb hb1 hg1 HEm HBy
      obtain ⟨b, off, rfl, hbw, A', c', c0, hr, _, hA'⟩ := HR.out.at HB.out hlt'
      have HFj := Lib.hid (HF.out rs[j] (List.getElem_mem hlt'))
      have hkj := HK.out rs[j] (List.getElem_mem hlt')
      generalize rs[j] = r at c0 hr HFj hkj
      have HRj := Lib.hid hr
      clear hr
      go_wp2_with fail
      refine (add_made (some ⟨g1, 0, none⟩) cap1 ps A' c' r w1 HOwn.out HOk.out HFt.out hcap HRj.out HFj.out hkj).mono ?_
      rintro e w3 ⟨hb, he⟩
      have HO := Lib.hid (HO.out.kept hb)
      have HLs := Lib.hid (HLs.out.kept hb)
      have HB := Lib.hid (bt HB.out hb)
      have HRj := Lib.hid (HRj.out.kept hb)
      have HOwn := Lib.hid (HOwn.out.kept hb)
      have c0 := cell_kept hb c0
      clear hb
      have HA' := Lib.hid hA'
      clear hA'
      rcases mayI_is r with hm | hm | hm
      · rw [if_pos hm] at he
        obtain ⟨hokr, _⟩ := mayI_ok hm
        have HM := Lib.hid hm
        have HOk2 := Lib.hid (allOk_snoc HOk.out hokr)
        clear hm
        by_cases hfn : fitsP (ps ++ [r]) = true
        · rw [if_pos hfn] at he
          have HFn := Lib.hid hfn
          clear hfn
          obtain ⟨g', rfl, _, ho'⟩ := he
          have HO2 := Lib.hid ho'
          clear ho'
          go_wp2_with fail
          refine (may_any A' c' r w3 HRj.out HFj.out hkj).mono ?_
          rw [HM.out]
          rintro e w4 ⟨rfl, hb⟩
          have HO := Lib.hid (HO.out.kept hb)
          have HLs := Lib.hid (HLs.out.kept hb)
          have HB := Lib.hid (bt HB.out hb)
          have HRj := Lib.hid (HRj.out.kept hb)
          have HOwn := Lib.hid (HOwn.out.kept hb)
          have HO2 := Lib.hid (HO2.out.kept hb)
          have c0 := cell_kept hb c0
          clear hb
          go_wp2_with fail
          go_cut [10] from 18 to 115 (fun s wx => ∃ (A1 : Option Addr) (c1 N1 : Nat), s = .slice A1 N1 c1 ∧ N1 ≤ 86 ∧ Hid ((ps ++ [r]).length = N1) ∧ Hid (RowsAt wx A1 (ps ++ [r])) ∧ Hid (A1 = none → c1 = 0) ∧ Hid (Below w4.heap.size w4 wx))
          case first =>
            have c00 := Lib.hid c0
            have HEa := Lib.hid (show (w4.alloc (.cells #[] 30)).drew.heap[w4.heap.size]? = some (.cells #[] 30 (0, 0)) from heap_alloc_new w4 _)
            have HEb := Lib.hid (two_new w4 (.cells #[] 30) (.cells #[.slice A' r.length c'] 30))
            have HEc := Lib.hid (two_new w4 (.cells #[.slice A' r.length c'] 30) (.cells #[] 30))
            have HI0 := Lib.hid (HLs.out.inB (Nat.le_refl _))
            have HIa := Lib.hid (show RowsIn (w4.alloc (.cells #[] 30)).drew w4.heap.size A0 ps from (HI0.out.kept (Nat.le_refl _) (ba w4 _)).heap rfl)
            have HIb := Lib.hid (show RowsIn ((w4.alloc (.cells #[] 30)).alloc (.cells #[.slice A' r.length c'] 30)).drew w4.heap.size A0 ps from (HI0.out.kept (Nat.le_refl _) (bt (ba w4 _) (ba _ _))).heap rfl)
            have HIc := Lib.hid (show RowsIn ((w4.alloc (.cells #[.slice A' r.length c'] 30)).alloc (.cells #[] 30)).drew w4.heap.size A0 ps from (HI0.out.kept (Nat.le_refl _) (bt (ba w4 _) (ba _ _))).heap rfl)
            have hbw4 : b < w4.heap.size := by have := HB.out.size; omega
            have hji0 : (0 : Int) ≤ (j : Int) := Int.natCast_nonneg _
            have hji1 : (j : Int) < (L : Int) := by omega
            have hA0 := HA0
            have HGa := Lib.hid (show Grows w4.heap.size w4 (w4.alloc (.cells #[] 30)).drew from (Grows.below (Nat.le_refl _) (ba w4 _)).drew)
            have HGb := Lib.hid (show Grows w4.heap.size w4 ((w4.alloc (.cells #[] 30)).alloc (.cells #[.slice A' r.length c'] 30)).drew from (Grows.below (Nat.le_refl _) (bt (ba w4 _) (ba _ _))).drew)
            have HGc := Lib.hid (show Grows w4.heap.size w4 ((w4.alloc (.cells #[.slice A' r.length c'] 30)).alloc (.cells #[] 30)).drew from (Grows.below (Nat.le_refl _) (bt (ba w4 _) (ba _ _))).drew)
            have HEl := Lib.hid (ElemAt.low HRj.out (Nat.le_refl w4.heap.size))
            go_region_held3 (fun w' => w'.cell? ⟨b, off + j, none⟩ = some (.slice A' r.length c'))
              (first | exact hk9 | exact hk1 | go_keep)
              (first
                | (refine step_appE (by rfl) (.tmp 41) (.tmp 42) (by rfl) w4.heap.size A0 d0 N ps _ w4.heap.size (by rfl) (by rfl) (by exact HEa.out) (by exact Nat.le_refl _) HN.out (by exact HIa.out) HA0.out (by simp) (by omega) ?_; intro v1 w5 hl1 hG1 hgr1; have hGw := HGa.out.trans hG1; have hk1 := (hGw.1.cell (p := ⟨b, off + j, none⟩) hbw4).trans c00.out)
                | (refine step_appE (by rfl) (.tmp 41) (.tmp 42) (by rfl) w4.heap.size A0 d0 N ps _ w4.heap.size (by rfl) (by rfl) (by exact HEb.out.1) (by exact Nat.le_refl _) HN.out (by exact HIb.out) HA0.out (by simp; omega) (by omega) ?_; intro v1 w5 hl1 hG1 hgr1; have hGw := HGb.out.trans hG1; have hk1 := (hGw.1.cell (p := ⟨b, off + j, none⟩) hbw4).trans c00.out; have hrb := (hgr1.block (w4.heap.size + 1) (by simp) (by simp)).trans HEb.out.2)
                | (refine step_appE (by rfl) (.tmp 41) (.tmp 42) (by rfl) (w4.heap.size + 1) A0 d0 N ps _ w4.heap.size (by rfl) (by rfl) (by exact HEc.out.2) (by exact Nat.le_succ _) HN.out (by exact HIc.out) HA0.out (by simp; omega) (by omega) ?_; intro v1 w5 hl1 hG1 hgr1; have hGw := HGc.out.trans hG1; have hk1 := (hGw.1.cell (p := ⟨b, off + j, none⟩) hbw4).trans c00.out; have hrb := (hgr1.block w4.heap.size (by simp; omega) (by simp)).trans HEc.out.1)
                | (refine step_pushL (by rfl) (.tmp 43) (.tmp 48) (by rfl) v1 ps A' c' r _ w4.heap.size w5.heap.size (by rfl) (by rfl) (by exact hl1.kept hGw.1.size (ba w5 _)) (by exact (HEl.out.kept hGw).alloc hGw.1.size _) HA'.out (by exact heap_alloc_new w5 _) (by have := hGw.1.size; simp; omega) (by rw [HN.out]; omega) ?_; intro g9 cap9 w9 hl9 hgr9 hat9 hG9; have hGf := hGw.trans ((Grows.below hGw.1.size (ba w5 _)).trans hG9); have hk9 := (hGf.1.cell (p := ⟨b, off + j, none⟩) hbw4).trans c00.out)
                | (refine step_pushL (by rfl) (.tmp 43) (.tmp 48) (by rfl) v1 ps A' c' r _ w4.heap.size (w4.heap.size + 1) (by rfl) (by rfl) (by exact hl1) (by exact HEl.out.kept hGw) HA'.out (by exact hrb) (by exact hGw.1.size) (by rw [HN.out]; omega) ?_; intro g9 cap9 w9 hl9 hgr9 hat9 hG9; have hGf := hGw.trans hG9; have hk9 := (hGf.1.cell (p := ⟨b, off + j, none⟩) hbw4).trans c00.out)
                | (refine step_pushL (by rfl) (.tmp 43) (.tmp 48) (by rfl) v1 ps A' c' r _ w4.heap.size w4.heap.size (by rfl) (by rfl) (by exact hl1) (by exact HEl.out.kept hGw) HA'.out (by exact hrb) (by exact hGw.1.size) (by rw [HN.out]; omega) ?_; intro g9 cap9 w9 hl9 hgr9 hat9 hG9; have hGf := hGw.trans hG9; have hk9 := (hGf.1.cell (p := ⟨b, off + j, none⟩) hbw4).trans c00.out))
            all_goals
              go_wp2_with fail
              go_meet
              exact ⟨some ⟨g9, 0, none⟩, cap9, N + 1, by rw [HN.out], by omega, Lib.hid (by simp [HN.out]), Lib.hid (own_rows hl9), Lib.hid (fun hh => by cases hh), Lib.hid hGf.1⟩
          case rest =>
            obtain ⟨A1, c1, N1, rfl, hN1, HN1, HR1, HA1, HB1⟩ := hcut
            have HO := Lib.hid (HO.out.kept HB1.out)
            have HLs := Lib.hid (HLs.out.kept HB1.out)
            have HB := Lib.hid (bt HB.out HB1.out)
            have HOwn := Lib.hid (HOwn.out.kept HB1.out)
            have HO2 := Lib.hid (HO2.out.kept HB1.out)
            clear HRj HB1 c0
            have HU2 := Lib.hid (show 1 + lenP (ps ++ [r]) + 2 * N1 ≤ 256 by have h := (fitsP_parts HFn.out).2.1; rw [HN1.out] at h; exact h)
            go_wp2_with fail
            refine (used_any A1 c1 N1 (ps ++ [r]) _ HR1.out HN1.out HOk2.out (by omega)).mono ?_
            rintro e w5 ⟨rfl, hb⟩
            have HO := Lib.hid (HO.out.kept hb)
            have HLs := Lib.hid (HLs.out.kept hb)
            have HB := Lib.hid (bt HB.out hb)
            have HOwn := Lib.hid (HOwn.out.kept hb)
            have HO2 := Lib.hid (HO2.out.kept hb)
            have HR1 := Lib.hid (HR1.out.kept hb)
            generalize 1 + lenP (ps ++ [r]) + 2 * N1 = U2 at HU2
            have hU2 := HU2.out
            clear hb HU2
            have hq1 := str_atd HOwn.out (makeP_len HFt.out) cap1
            have hq2 := str_atd (HO.out.madeBytes HOk.out HFt.out) (makeP_len HFt.out) 256
            generalize strOfNums (makeP ps) = X at hq1 hq2
            go_wp2_with fail
            clear HO HLs HFt HOk HN hq1 hq2 HOwn
            have HNs := Lib.hid (show N1 ≤ 85 by have h := (fitsP_parts HFn.out).2.2; rw [HN1.out] at h; exact h)
            have hN1 := HNs.out
            have HFt := HFn
            have HOk := HOk2
            have HLs := HR1
            have HO := HO2
            have HN := HN1
            clear HFn HOk2 HR1 HO2 HN1 HNs
            generalize ps ++ [r] = P at HFt HOk HLs HO HN
            refine (make_any A1 c1 N1 P _ HLs.out HN.out HOk.out (by omega)).mono ?_
            rintro e w6 ⟨hb, he6⟩
            rw [if_pos HFt.out] at he6
            obtain ⟨g6, cap6, rfl, hbuf6⟩ := he6
            have HO := Lib.hid (HO.out.kept hb)
            have HLs := Lib.hid (HLs.out.kept hb)
            have HB := Lib.hid (bt HB.out hb)
            have hml := makeP_len HFt.out
            have hq3 := str_atd (HO.out.madeBytes HOk.out HFt.out) hml 256
            have hq4 := str_atd (hbuf6.bytes (makeP_byte HOk.out HFt.out)) hml cap6
            generalize strOfNums (makeP P) = Y at hq3 hq4
            have HBy := Lib.hid (HO.out.madeBytes HOk.out HFt.out)
            have HMl := Lib.hid hml
            have HOp := Lib.hid (make_openP HOk.out HFt.out)
            clear hb hbuf6 hml
            go_wp2_with fail
            refine (pageCount_any (some ⟨g', 0, none⟩) 256 256 (makeP P) w6 HBy.out HMl.out (Nat.le_refl _)).mono ?_
            rw [HOp.out]
            simp only
            rw [HN.out]
            rintro e w7 ⟨rfl, hb⟩
            have HO := Lib.hid (HO.out.kept hb)
            have HLs := Lib.hid (HLs.out.kept hb)
            have HB := Lib.hid (bt HB.out hb)
            have HBy := Lib.hid (HBy.out.kept hb)
            clear hb hq3 hq4
            go_wp2_with fail
            refine (used_any A1 c1 N1 P w7 HLs.out HN.out HOk.out (by omega)).mono ?_
            rintro e w8 ⟨rfl, hb⟩
            have HO := Lib.hid (HO.out.kept hb)
            have HLs := Lib.hid (HLs.out.kept hb)
            have HB := Lib.hid (bt HB.out hb)
            have HBy := Lib.hid (HBy.out.kept hb)
            have hfp := (fitsP_parts HFt.out).2.1
            rw [HN.out] at hfp
            have HRI := Lib.hid (show roomI (N1 : Nat) ((1 + lenP P : Nat) : Int) = max 0 (254 - ((1 + lenP P + 2 * N1 : Nat) : Int)) by unfold roomI; omega)
            have hU : 1 + lenP P + 2 * N1 ≤ 256 := hfp
            generalize 1 + lenP P + 2 * N1 = U at HRI hU
            clear hb hfp
            have h255 : ((N1 : Int) == 255) = false := beq_eq_false_iff_ne.2 (by omega)
            by_cases hneg : 254 < U
            all_goals
              go_wp2_with fail
              refine (pageRoom_any (some ⟨g', 0, none⟩) 256 256 (makeP P) w8 HBy.out HMl.out (Nat.le_refl _)).mono ?_
              rw [HOp.out]
              simp only
              rw [HN.out, HRI.out]
              rintro e w9 ⟨rfl, hb⟩
              have HO := Lib.hid (HO.out.kept hb)
              have HLs := Lib.hid (HLs.out.kept hb)
              have HB := Lib.hid (bt HB.out hb)
              have hmx : max 0 (254 - (U : Int)) = (if 254 < U then 0 else 254 - (U : Int)) := by split <;> omega
              first
                | rw [hmx, if_pos hneg]
                | rw [hmx, if_neg hneg]
              clear hb hmx
              go_wp2_with fail
              exact ⟨⟨j + 1, g', N1, P, A1, c1, by omega, by go_num, rfl, rfl, by omega, HN, HO, HFt, HOk, HLs, HA1, HB⟩, by simp [intOf]; omega⟩
        · rw [if_neg hfn] at he
          have HFn := Lib.hid (show fitsP (ps ++ [r]) = false by simpa using hfn)
          clear hfn
          subst he
          go_wp2_with fail
          refine (may_any A' c' r w3 HRj.out HFj.out hkj).mono ?_
          rw [HM.out]
          rintro e w4 ⟨rfl, hb⟩
          have HO := Lib.hid (HO.out.kept hb)
          have HLs := Lib.hid (HLs.out.kept hb)
          have HB := Lib.hid (bt HB.out hb)
          have HRj := Lib.hid (HRj.out.kept hb)
          have HOwn := Lib.hid (HOwn.out.kept hb)
          have c0 := cell_kept hb c0
          clear hb
          go_wp2_with fail
          go_cut [10] from 18 to 115 (fun s wx => ∃ (A1 : Option Addr) (c1 N1 : Nat), s = .slice A1 N1 c1 ∧ N1 ≤ 86 ∧ Hid ((ps ++ [r]).length = N1) ∧ Hid (RowsAt wx A1 (ps ++ [r])) ∧ Hid (A1 = none → c1 = 0) ∧ Hid (Below w4.heap.size w4 wx))
          case first =>
            have c00 := Lib.hid c0
            have HEa := Lib.hid (show (w4.alloc (.cells #[] 30)).drew.heap[w4.heap.size]? = some (.cells #[] 30 (0, 0)) from heap_alloc_new w4 _)
            have HEb := Lib.hid (two_new w4 (.cells #[] 30) (.cells #[.slice A' r.length c'] 30))
            have HEc := Lib.hid (two_new w4 (.cells #[.slice A' r.length c'] 30) (.cells #[] 30))
            have HI0 := Lib.hid (HLs.out.inB (Nat.le_refl _))
            have HIa := Lib.hid (show RowsIn (w4.alloc (.cells #[] 30)).drew w4.heap.size A0 ps from (HI0.out.kept (Nat.le_refl _) (ba w4 _)).heap rfl)
            have HIb := Lib.hid (show RowsIn ((w4.alloc (.cells #[] 30)).alloc (.cells #[.slice A' r.length c'] 30)).drew w4.heap.size A0 ps from (HI0.out.kept (Nat.le_refl _) (bt (ba w4 _) (ba _ _))).heap rfl)
            have HIc := Lib.hid (show RowsIn ((w4.alloc (.cells #[.slice A' r.length c'] 30)).alloc (.cells #[] 30)).drew w4.heap.size A0 ps from (HI0.out.kept (Nat.le_refl _) (bt (ba w4 _) (ba _ _))).heap rfl)
            have hbw4 : b < w4.heap.size := by have := HB.out.size; omega
            have hji0 : (0 : Int) ≤ (j : Int) := Int.natCast_nonneg _
            have hji1 : (j : Int) < (L : Int) := by omega
            have hA0 := HA0
            have HGa := Lib.hid (show Grows w4.heap.size w4 (w4.alloc (.cells #[] 30)).drew from (Grows.below (Nat.le_refl _) (ba w4 _)).drew)
            have HGb := Lib.hid (show Grows w4.heap.size w4 ((w4.alloc (.cells #[] 30)).alloc (.cells #[.slice A' r.length c'] 30)).drew from (Grows.below (Nat.le_refl _) (bt (ba w4 _) (ba _ _))).drew)
            have HGc := Lib.hid (show Grows w4.heap.size w4 ((w4.alloc (.cells #[.slice A' r.length c'] 30)).alloc (.cells #[] 30)).drew from (Grows.below (Nat.le_refl _) (bt (ba w4 _) (ba _ _))).drew)
            have HEl := Lib.hid (ElemAt.low HRj.out (Nat.le_refl w4.heap.size))
            go_region_held3 (fun w' => w'.cell? ⟨b, off + j, none⟩ = some (.slice A' r.length c'))
              (first | exact hk9 | exact hk1 | go_keep)
              (first
                | (refine step_appE (by rfl) (.tmp 41) (.tmp 42) (by rfl) w4.heap.size A0 d0 N ps _ w4.heap.size (by rfl) (by rfl) (by exact HEa.out) (by exact Nat.le_refl _) HN.out (by exact HIa.out) HA0.out (by simp) (by omega) ?_; intro v1 w5 hl1 hG1 hgr1; have hGw := HGa.out.trans hG1; have hk1 := (hGw.1.cell (p := ⟨b, off + j, none⟩) hbw4).trans c00.out)
                | (refine step_appE (by rfl) (.tmp 41) (.tmp 42) (by rfl) w4.heap.size A0 d0 N ps _ w4.heap.size (by rfl) (by rfl) (by exact HEb.out.1) (by exact Nat.le_refl _) HN.out (by exact HIb.out) HA0.out (by simp; omega) (by omega) ?_; intro v1 w5 hl1 hG1 hgr1; have hGw := HGb.out.trans hG1; have hk1 := (hGw.1.cell (p := ⟨b, off + j, none⟩) hbw4).trans c00.out; have hrb := (hgr1.block (w4.heap.size + 1) (by simp) (by simp)).trans HEb.out.2)
                | (refine step_appE (by rfl) (.tmp 41) (.tmp 42) (by rfl) (w4.heap.size + 1) A0 d0 N ps _ w4.heap.size (by rfl) (by rfl) (by exact HEc.out.2) (by exact Nat.le_succ _) HN.out (by exact HIc.out) HA0.out (by simp; omega) (by omega) ?_; intro v1 w5 hl1 hG1 hgr1; have hGw := HGc.out.trans hG1; have hk1 := (hGw.1.cell (p := ⟨b, off + j, none⟩) hbw4).trans c00.out; have hrb := (hgr1.block w4.heap.size (by simp; omega) (by simp)).trans HEc.out.1)
                | (refine step_pushL (by rfl) (.tmp 43) (.tmp 48) (by rfl) v1 ps A' c' r _ w4.heap.size w5.heap.size (by rfl) (by rfl) (by exact hl1.kept hGw.1.size (ba w5 _)) (by exact (HEl.out.kept hGw).alloc hGw.1.size _) HA'.out (by exact heap_alloc_new w5 _) (by have := hGw.1.size; simp; omega) (by rw [HN.out]; omega) ?_; intro g9 cap9 w9 hl9 hgr9 hat9 hG9; have hGf := hGw.trans ((Grows.below hGw.1.size (ba w5 _)).trans hG9); have hk9 := (hGf.1.cell (p := ⟨b, off + j, none⟩) hbw4).trans c00.out)
                | (refine step_pushL (by rfl) (.tmp 43) (.tmp 48) (by rfl) v1 ps A' c' r _ w4.heap.size (w4.heap.size + 1) (by rfl) (by rfl) (by exact hl1) (by exact HEl.out.kept hGw) HA'.out (by exact hrb) (by exact hGw.1.size) (by rw [HN.out]; omega) ?_; intro g9 cap9 w9 hl9 hgr9 hat9 hG9; have hGf := hGw.trans hG9; have hk9 := (hGf.1.cell (p := ⟨b, off + j, none⟩) hbw4).trans c00.out)
                | (refine step_pushL (by rfl) (.tmp 43) (.tmp 48) (by rfl) v1 ps A' c' r _ w4.heap.size w4.heap.size (by rfl) (by rfl) (by exact hl1) (by exact HEl.out.kept hGw) HA'.out (by exact hrb) (by exact hGw.1.size) (by rw [HN.out]; omega) ?_; intro g9 cap9 w9 hl9 hgr9 hat9 hG9; have hGf := hGw.trans hG9; have hk9 := (hGf.1.cell (p := ⟨b, off + j, none⟩) hbw4).trans c00.out))
            all_goals
              go_wp2_with fail
              go_meet
              exact ⟨some ⟨g9, 0, none⟩, cap9, N + 1, by rw [HN.out], by omega, Lib.hid (by simp [HN.out]), Lib.hid (own_rows hl9), Lib.hid (fun hh => by cases hh), Lib.hid hGf.1⟩
          case rest =>
            obtain ⟨A1, c1, N1, rfl, hN1, HN1, HR1, HA1, HB1⟩ := hcut
            have HO := Lib.hid (HO.out.kept HB1.out)
            have HLs := Lib.hid (HLs.out.kept HB1.out)
            have HB := Lib.hid (bt HB.out HB1.out)
            have HOwn := Lib.hid (HOwn.out.kept HB1.out)
            clear HRj HB1 c0
            have HU2 := Lib.hid (show 256 < 1 + lenP (ps ++ [r]) + 2 * N1 by have h := HFn.out; unfold fitsP at h; rw [HN1.out] at h; simp at h; omega)
            go_wp2_with fail
            refine (used_any A1 c1 N1 (ps ++ [r]) _ HR1.out HN1.out HOk2.out (by omega)).mono ?_
            rintro e w5 ⟨rfl, hb⟩
            have HO := Lib.hid (HO.out.kept hb)
            have HLs := Lib.hid (HLs.out.kept hb)
            have HB := Lib.hid (bt HB.out hb)
            have HOwn := Lib.hid (HOwn.out.kept hb)
            generalize 1 + lenP (ps ++ [r]) + 2 * N1 = U2 at HU2
            have hU2 := HU2.out
            clear hb HU2
            have hq1 := str_atd HOwn.out (makeP_len HFt.out) cap1
            have hq2 := str_atd (HO.out.madeBytes HOk.out HFt.out) (makeP_len HFt.out) 256
            generalize strOfNums (makeP ps) = X at hq1 hq2
            go_wp2_with fail
            refine (make_any A0 d0 N ps _ HLs.out HN.out HOk.out (by omega)).mono ?_
            rintro e w6 ⟨hb, he6⟩
            rw [if_pos HFt.out] at he6
            obtain ⟨g6, cap6, rfl, hbuf6⟩ := he6
            have HO := Lib.hid (HO.out.kept hb)
            have HLs := Lib.hid (HLs.out.kept hb)
            have HB := Lib.hid (bt HB.out hb)
            have hml := makeP_len HFt.out
            have hq3 := str_atd (HO.out.madeBytes HOk.out HFt.out) hml 256
            have hq4 := str_atd (hbuf6.bytes (makeP_byte HOk.out HFt.out)) hml cap6
            generalize strOfNums (makeP ps) = Y at hq3 hq4
            have HBy := Lib.hid (HO.out.madeBytes HOk.out HFt.out)
            have HMl := Lib.hid hml
            have HOp := Lib.hid (make_openP HOk.out HFt.out)
            clear hb hbuf6 hml
            go_wp2_with fail
            refine (pageCount_any (some ⟨g, 0, none⟩) 256 256 (makeP ps) w6 HBy.out HMl.out (Nat.le_refl _)).mono ?_
            rw [HOp.out]
            simp only
            rw [HN.out]
            rintro e w7 ⟨rfl, hb⟩
            have HO := Lib.hid (HO.out.kept hb)
            have HLs := Lib.hid (HLs.out.kept hb)
            have HB := Lib.hid (bt HB.out hb)
            have HBy := Lib.hid (HBy.out.kept hb)
            clear hb hq3 hq4
            go_wp2_with fail
            refine (used_any A0 d0 N ps w7 HLs.out HN.out HOk.out (by omega)).mono ?_
            rintro e w8 ⟨rfl, hb⟩
            have HO := Lib.hid (HO.out.kept hb)
            have HLs := Lib.hid (HLs.out.kept hb)
            have HB := Lib.hid (bt HB.out hb)
            have HBy := Lib.hid (HBy.out.kept hb)
            have hfp := (fitsP_parts HFt.out).2.1
            rw [HN.out] at hfp
            have HRI := Lib.hid (show roomI (N : Nat) ((1 + lenP ps : Nat) : Int) = max 0 (254 - ((1 + lenP ps + 2 * N : Nat) : Int)) by unfold roomI; omega)
            have hU : 1 + lenP ps + 2 * N ≤ 256 := hfp
            generalize 1 + lenP ps + 2 * N = U at HRI hU
            clear hb hfp
            have h255 : ((N : Int) == 255) = false := beq_eq_false_iff_ne.2 (by omega)
            by_cases hneg : 254 < U
            all_goals
              go_wp2_with fail
              refine (pageRoom_any (some ⟨g, 0, none⟩) 256 256 (makeP ps) w8 HBy.out HMl.out (Nat.le_refl _)).mono ?_
              rw [HOp.out]
              simp only
              rw [HN.out, HRI.out]
              rintro e w9 ⟨rfl, hb⟩
              have HO := Lib.hid (HO.out.kept hb)
              have HLs := Lib.hid (HLs.out.kept hb)
              have HB := Lib.hid (bt HB.out hb)
              have hmx : max 0 (254 - (U : Int)) = (if 254 < U then 0 else 254 - (U : Int)) := by split <;> omega
              first
                | rw [hmx, if_pos hneg]
                | rw [hmx, if_neg hneg]
              clear hb hmx
              go_wp2_with fail
              exact ⟨⟨j + 1, g, N, ps, A0, d0, by omega, by go_num, rfl, rfl, by omega, HN, HO, HFt, HOk, HLs, HA0, HB⟩, by simp [intOf]; omega⟩
      all_goals
        rw [hm, if_neg (by decide)] at he
        subst he
        have HM := Lib.hid hm
        clear hm
        go_wp2_with fail
        refine (may_any A' c' r w3 HRj.out HFj.out hkj).mono ?_
        rw [HM.out]
        rintro e w4 ⟨rfl, hb⟩
        have HO := Lib.hid (HO.out.kept hb)
        have HLs := Lib.hid (HLs.out.kept hb)
        have HB := Lib.hid (bt HB.out hb)
        have HRj := Lib.hid (HRj.out.kept hb)
        have HOwn := Lib.hid (HOwn.out.kept hb)
        have c0 := cell_kept hb c0
        clear hb
        go_wp2_with fail
        go_cut [10] from 18 to 115 (fun s wx => ∃ (A1 : Option Addr) (c1 N1 : Nat), s = .slice A1 N1 c1 ∧ N1 ≤ 86 ∧ Hid ((ps ++ [r]).length = N1) ∧ Hid (RowsAt wx A1 (ps ++ [r])) ∧ Hid (A1 = none → c1 = 0) ∧ Hid (Below w4.heap.size w4 wx))
        case first =>
          have c00 := Lib.hid c0
          have HEa := Lib.hid (show (w4.alloc (.cells #[] 30)).drew.heap[w4.heap.size]? = some (.cells #[] 30 (0, 0)) from heap_alloc_new w4 _)
          have HEb := Lib.hid (two_new w4 (.cells #[] 30) (.cells #[.slice A' r.length c'] 30))
          have HEc := Lib.hid (two_new w4 (.cells #[.slice A' r.length c'] 30) (.cells #[] 30))
          have HI0 := Lib.hid (HLs.out.inB (Nat.le_refl _))
          have HIa := Lib.hid (show RowsIn (w4.alloc (.cells #[] 30)).drew w4.heap.size A0 ps from (HI0.out.kept (Nat.le_refl _) (ba w4 _)).heap rfl)
          have HIb := Lib.hid (show RowsIn ((w4.alloc (.cells #[] 30)).alloc (.cells #[.slice A' r.length c'] 30)).drew w4.heap.size A0 ps from (HI0.out.kept (Nat.le_refl _) (bt (ba w4 _) (ba _ _))).heap rfl)
          have HIc := Lib.hid (show RowsIn ((w4.alloc (.cells #[.slice A' r.length c'] 30)).alloc (.cells #[] 30)).drew w4.heap.size A0 ps from (HI0.out.kept (Nat.le_refl _) (bt (ba w4 _) (ba _ _))).heap rfl)
          have hbw4 : b < w4.heap.size := by have := HB.out.size; omega
          have hji0 : (0 : Int) ≤ (j : Int) := Int.natCast_nonneg _
          have hji1 : (j : Int) < (L : Int) := by omega
          have hA0 := HA0
          have HGa := Lib.hid (show Grows w4.heap.size w4 (w4.alloc (.cells #[] 30)).drew from (Grows.below (Nat.le_refl _) (ba w4 _)).drew)
          have HGb := Lib.hid (show Grows w4.heap.size w4 ((w4.alloc (.cells #[] 30)).alloc (.cells #[.slice A' r.length c'] 30)).drew from (Grows.below (Nat.le_refl _) (bt (ba w4 _) (ba _ _))).drew)
          have HGc := Lib.hid (show Grows w4.heap.size w4 ((w4.alloc (.cells #[.slice A' r.length c'] 30)).alloc (.cells #[] 30)).drew from (Grows.below (Nat.le_refl _) (bt (ba w4 _) (ba _ _))).drew)
          have HEl := Lib.hid (ElemAt.low HRj.out (Nat.le_refl w4.heap.size))
          go_region_held3 (fun w' => w'.cell? ⟨b, off + j, none⟩ = some (.slice A' r.length c'))
            (first | exact hk9 | exact hk1 | go_keep)
            (first
              | (refine step_appE (by rfl) (.tmp 41) (.tmp 42) (by rfl) w4.heap.size A0 d0 N ps _ w4.heap.size (by rfl) (by rfl) (by exact HEa.out) (by exact Nat.le_refl _) HN.out (by exact HIa.out) HA0.out (by simp) (by omega) ?_; intro v1 w5 hl1 hG1 hgr1; have hGw := HGa.out.trans hG1; have hk1 := (hGw.1.cell (p := ⟨b, off + j, none⟩) hbw4).trans c00.out)
              | (refine step_appE (by rfl) (.tmp 41) (.tmp 42) (by rfl) w4.heap.size A0 d0 N ps _ w4.heap.size (by rfl) (by rfl) (by exact HEb.out.1) (by exact Nat.le_refl _) HN.out (by exact HIb.out) HA0.out (by simp; omega) (by omega) ?_; intro v1 w5 hl1 hG1 hgr1; have hGw := HGb.out.trans hG1; have hk1 := (hGw.1.cell (p := ⟨b, off + j, none⟩) hbw4).trans c00.out; have hrb := (hgr1.block (w4.heap.size + 1) (by simp) (by simp)).trans HEb.out.2)
              | (refine step_appE (by rfl) (.tmp 41) (.tmp 42) (by rfl) (w4.heap.size + 1) A0 d0 N ps _ w4.heap.size (by rfl) (by rfl) (by exact HEc.out.2) (by exact Nat.le_succ _) HN.out (by exact HIc.out) HA0.out (by simp; omega) (by omega) ?_; intro v1 w5 hl1 hG1 hgr1; have hGw := HGc.out.trans hG1; have hk1 := (hGw.1.cell (p := ⟨b, off + j, none⟩) hbw4).trans c00.out; have hrb := (hgr1.block w4.heap.size (by simp; omega) (by simp)).trans HEc.out.1)
              | (refine step_pushL (by rfl) (.tmp 43) (.tmp 48) (by rfl) v1 ps A' c' r _ w4.heap.size w5.heap.size (by rfl) (by rfl) (by exact hl1.kept hGw.1.size (ba w5 _)) (by exact (HEl.out.kept hGw).alloc hGw.1.size _) HA'.out (by exact heap_alloc_new w5 _) (by have := hGw.1.size; simp; omega) (by rw [HN.out]; omega) ?_; intro g9 cap9 w9 hl9 hgr9 hat9 hG9; have hGf := hGw.trans ((Grows.below hGw.1.size (ba w5 _)).trans hG9); have hk9 := (hGf.1.cell (p := ⟨b, off + j, none⟩) hbw4).trans c00.out)
              | (refine step_pushL (by rfl) (.tmp 43) (.tmp 48) (by rfl) v1 ps A' c' r _ w4.heap.size (w4.heap.size + 1) (by rfl) (by rfl) (by exact hl1) (by exact HEl.out.kept hGw) HA'.out (by exact hrb) (by exact hGw.1.size) (by rw [HN.out]; omega) ?_; intro g9 cap9 w9 hl9 hgr9 hat9 hG9; have hGf := hGw.trans hG9; have hk9 := (hGf.1.cell (p := ⟨b, off + j, none⟩) hbw4).trans c00.out)
              | (refine step_pushL (by rfl) (.tmp 43) (.tmp 48) (by rfl) v1 ps A' c' r _ w4.heap.size w4.heap.size (by rfl) (by rfl) (by exact hl1) (by exact HEl.out.kept hGw) HA'.out (by exact hrb) (by exact hGw.1.size) (by rw [HN.out]; omega) ?_; intro g9 cap9 w9 hl9 hgr9 hat9 hG9; have hGf := hGw.trans hG9; have hk9 := (hGf.1.cell (p := ⟨b, off + j, none⟩) hbw4).trans c00.out))
          all_goals
            go_wp2_with fail
            go_meet
            exact ⟨some ⟨g9, 0, none⟩, cap9, N + 1, by rw [HN.out], by omega, Lib.hid (by simp [HN.out]), Lib.hid (own_rows hl9), Lib.hid (fun hh => by cases hh), Lib.hid hGf.1⟩
        case rest =>
          obtain ⟨A1, c1, N1, rfl, hN1, HN1, HR1, HA1, HB1⟩ := hcut
          have HO := Lib.hid (HO.out.kept HB1.out)
          have HLs := Lib.hid (HLs.out.kept HB1.out)
          have HB := Lib.hid (bt HB.out HB1.out)
          have HOwn := Lib.hid (HOwn.out.kept HB1.out)
          clear HRj HB1 c0
          have hq1 := str_atd HOwn.out (makeP_len HFt.out) cap1
          have hq2 := str_atd (HO.out.madeBytes HOk.out HFt.out) (makeP_len HFt.out) 256
          generalize strOfNums (makeP ps) = X at hq1 hq2
          go_wp2_with fail
          refine (make_any A0 d0 N ps _ HLs.out HN.out HOk.out (by omega)).mono ?_
          rintro e w6 ⟨hb, he6⟩
          rw [if_pos HFt.out] at he6
          obtain ⟨g6, cap6, rfl, hbuf6⟩ := he6
          have HO := Lib.hid (HO.out.kept hb)
          have HLs := Lib.hid (HLs.out.kept hb)
          have HB := Lib.hid (bt HB.out hb)
          have hml := makeP_len HFt.out
          have hq3 := str_atd (HO.out.madeBytes HOk.out HFt.out) hml 256
          have hq4 := str_atd (hbuf6.bytes (makeP_byte HOk.out HFt.out)) hml cap6
          generalize strOfNums (makeP ps) = Y at hq3 hq4
          have HBy := Lib.hid (HO.out.madeBytes HOk.out HFt.out)
          have HMl := Lib.hid hml
          have HOp := Lib.hid (make_openP HOk.out HFt.out)
          clear hb hbuf6 hml
          go_wp2_with fail
          refine (pageCount_any (some ⟨g, 0, none⟩) 256 256 (makeP ps) w6 HBy.out HMl.out (Nat.le_refl _)).mono ?_
          rw [HOp.out]
          simp only
          rw [HN.out]
          rintro e w7 ⟨rfl, hb⟩
          have HO := Lib.hid (HO.out.kept hb)
          have HLs := Lib.hid (HLs.out.kept hb)
          have HB := Lib.hid (bt HB.out hb)
          have HBy := Lib.hid (HBy.out.kept hb)
          clear hb hq3 hq4
          go_wp2_with fail
          refine (used_any A0 d0 N ps w7 HLs.out HN.out HOk.out (by omega)).mono ?_
          rintro e w8 ⟨rfl, hb⟩
          have HO := Lib.hid (HO.out.kept hb)
          have HLs := Lib.hid (HLs.out.kept hb)
          have HB := Lib.hid (bt HB.out hb)
          have HBy := Lib.hid (HBy.out.kept hb)
          have hfp := (fitsP_parts HFt.out).2.1
          rw [HN.out] at hfp
          have HRI := Lib.hid (show roomI (N : Nat) ((1 + lenP ps : Nat) : Int) = max 0 (254 - ((1 + lenP ps + 2 * N : Nat) : Int)) by unfold roomI; omega)
          have hU : 1 + lenP ps + 2 * N ≤ 256 := hfp
          generalize 1 + lenP ps + 2 * N = U at HRI hU
          clear hb hfp
          have h255 : ((N : Int) == 255) = false := beq_eq_false_iff_ne.2 (by omega)
          by_cases hneg : 254 < U
          all_goals
            go_wp2_with fail
            refine (pageRoom_any (some ⟨g, 0, none⟩) 256 256 (makeP ps) w8 HBy.out HMl.out (Nat.le_refl _)).mono ?_
            rw [HOp.out]
            simp only
            rw [HN.out, HRI.out]
            rintro e w9 ⟨rfl, hb⟩
            have HO := Lib.hid (HO.out.kept hb)
            have HLs := Lib.hid (HLs.out.kept hb)
            have HB := Lib.hid (bt HB.out hb)
            have hmx : max 0 (254 - (U : Int)) = (if 254 < U then 0 else 254 - (U : Int)) := by split <;> omega
            first
              | rw [hmx, if_pos hneg]
              | rw [hmx, if_neg hneg]
            clear hb hmx
            go_wp2_with fail
            exact ⟨⟨j + 1, g, N, ps, A0, d0, by omega, by go_num, rfl, rfl, by omega, HN, HO, HFt, HOk, HLs, HA0, HB⟩, by simp [intOf]; omega⟩
    · go_wp2_with fail
      refine (livesP_yes _).mono ?_
      rintro e w3 ⟨rfl, hb3⟩
      go_wp2_with fail
      go_ret
      exact ⟨rfl, bt HB.out hb3⟩

theorem pageAdds_walk (A : Option Addr) (c : Nat) (rs : List (List Va)) (w : World) (h : RowsAt w A rs) (hf : ∀ r ∈ rs, Fine r) (hk : ∀ r ∈ rs, r.length ≤ 9223372036854775807) (hn : A = none → c = 0) (hl : rs.length ≤ 9223372036854775807) :
    Calls Try.prog 3 #[.slice A rs.length c] w fun e w' => e = .returned (.bool true) ∧ Below w.heap.size w w' := by
  cases hb : largeP rs with
  | true => exact pageAdds_large A c rs w h hk hl hb
  | false => exact pageAdds_few A c rs.length rs w h rfl hf hk hn hb
end Go.Proofs.Ytdjhoiamongdaaa
