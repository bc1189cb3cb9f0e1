/-
  Contract of the document's own Split; lists of lists that are the same; 'large' of package hash's laws.
-/
import Derived.Test.YtlobgdfmgbedgaaHSpl
import Derived.Test.YtlobgdfmgbedgaaSam
namespace Go.Proofs.Ytlobgdfmgbedgaa
open Go.RowKit Go.Shelf

attribute [local go_sem ↓] Go.wp_at_zero Go.wp_at_succ

theorem refPick_ok (A C : Option Addr) (c cc : Nat) (r : List Va) (cols : List Int) (w : World) (h : RowAt w A r) (hC : IntsAt w C cols) (h32 : cols.length ≤ 32) (hall : cols.any (lackV r) = false) :
    Calls Try.prog 41 #[.slice A r.length c, .slice C cols.length cc] w (RowEndB w (cols.map (atV r)) true) := by
  have := refPick_any A C c cc r cols w h hC (by omega)
  rw [hall] at this
  simpa [h32] using this
def NoPick (w : World) (e : Ending) (w' : World) : Prop := (∃ A L c, e = .returned (.tuple #[.slice A L c, .bool false])) ∧ Below w.heap.size w w'
theorem refPick_no (A C : Option Addr) (c cc : Nat) (r : List Va) (cols : List Int) (w : World) (h : RowAt w A r) (hC : IntsAt w C cols) (hl : cols.length ≤ 65536) (hno : 32 < cols.length ∨ cols.any (lackV r) = true) :
    Calls Try.prog 41 #[.slice A r.length c, .slice C cols.length cc] w (NoPick w) := by
  have := refPick_any A C c cc r cols w h hC hl
  cases hany : cols.any (lackV r)
  · have h32 : ¬ cols.length ≤ 32 := by
      rcases hno with hno | hno
      · omega
      · rw [hany] at hno; cases hno
    rw [hany] at this
    refine this.mono ?_
    rintro e w' ⟨A', c', rfl, _, hb⟩
    exact ⟨⟨_, _, _, by simp [h32]; exact ⟨rfl, rfl, rfl⟩⟩, hb⟩
  · rw [hany] at this
    refine this.mono ?_
    rintro e w' ⟨rfl, hb⟩
    exact ⟨⟨_, _, _, rfl⟩, hb⟩

set_option maxRecDepth 100000 in
set_option maxHeartbeats 4000000 in
theorem refSplit_any (A C : Option Addr) (c cc : Nat) (s l fan : Int) (rs : List (List Va)) (cols : List Int) (w : World) (hm : mayH l fan = true) (h : RowsAt w A rs) (hC : IntsAt w C cols) (hn : rs.length ≤ 65536) (hl : ∀ r ∈ rs, r.length ≤ 65536) (hf : ∀ r ∈ rs, Fine r) (hlc : cols.length ≤ 65536) :
    Calls Try.prog 39 #[.int .u64 s, .int .i64 l, .int .i64 fan, .slice A rs.length c, .slice C cols.length cc] w (SplitEnd w s l fan cols rs) := by
  obtain ⟨l0, l8, f1, f64⟩ := mayH_parts hm
  obtain ⟨N, rfl⟩ := Int.eq_ofNat_of_zero_le (by omega : 0 ≤ fan)
  have hmk := run_make_row' (P := Try.prog) 54 39 (.slice none 0 0) 24 Try.underlying54 info_listT rfl .i64 .i64 N (by omega) (by omega)
  rw [made_parts, List.toArray_replicate] at hmk
  have HM := Lib.hid hm
  have HL := Lib.hid h
  have HC := Lib.hid hC
  have HN := Lib.hid hl
  have HF := Lib.hid hf
  clear hm h hC hl hf
  go_enter Try.func39, Try.ntmps39
  go_wp2_with fail
  refine (refMay_b true l N _ HM.out).mono ?_
  rintro e w1 ⟨rfl, rfl⟩
  go_wp2_with fail
  have hP0 := parts_made w N
  have hB0 := ba w (.cells (Array.replicate N (.slice none 0 0)) 39)
  generalize w.alloc (.cells (Array.replicate N (.slice none 0 0)) 39) = W at hP0 hB0 ⊢
  clear hmk
  have HP0 := Lib.hid hP0
  have HB0 := Lib.hid hB0
  clear hP0 hB0
  go_loopw [13] (fun i wr => ∃ j : Nat, j ≤ rs.length ∧ i = .int .i64 j ∧ Hid (Below w.heap.size w wr) ∧ Hid (firstE cols rs = firstE cols (rs.drop j)) ∧ Hid (∃ vs, PartsAt wr w.heap.size w.heap.size vs ((rs.take j).foldl (addH s l N cols) (List.replicate N [])))) (fun i _ => rs.length - (intOf i).toNat)
  case atStart => exact ⟨0, Nat.zero_le _, rfl, HB0, Lib.hid (by simp), Lib.hid ⟨_, HP0.out⟩⟩
  case round =>
    obtain ⟨j, hj, rfl, HB, HE, HP⟩ := hrel
    clear HP0 HB0
    obtain ⟨vs, hP⟩ := HP.out
    have HP := Lib.hid hP
    clear hP
    by_cases hlt : j < rs.length
    · obtain ⟨b, off, rfl, hb, A', c', c0, hrow, hel, hA⟩ := HL.out.at HB.out hlt
      have hrl := HN.out rs[j] (List.getElem_mem hlt)
      have HFr := Lib.hid (HF.out rs[j] (List.getElem_mem hlt))
      have HS := Lib.hid (split_succ s l N cols rs (List.replicate N []) j hlt)
      have HD := Lib.hid (firstE_drop cols rs j hlt)
      have HQ := Lib.hid (fold_le s l N cols rs N j hj)
      have HZ := Lib.hid (splitH_len s l N cols (rs.take j) (List.replicate N []))
      generalize (rs.take j).foldl (addH s l N cols) (List.replicate N []) = P at HP HS HQ HZ
      generalize rs[j] = r at c0 hrow hel hrl HFr HS HD
      have HW := Lib.hid hrow
      have HEL := Lib.hid hel
      clear hrow hel
      cases hbp : badPlace cols r
      · have hp1 : cols.length ≤ 32 := by simp [badPlace] at hbp; exact hbp.1
        have HP2 := Lib.hid (show cols.any (lackV r) = false by simpa [badPlace, show ¬ 32 < cols.length by omega] using hbp)
        have HBP := Lib.hid hbp
        clear hbp
        go_wp2_with fail
        refine (refPick_ok A' C c' cc r cols wr HW.out (HC.out.kept HB.out) hp1 HP2.out).mono ?_
        rintro e w1 ⟨A1, c1, rfl, hk, hb1⟩
        have HK := Lib.hid hk
        have HEL := Lib.hid (HEL.out.kept (Grows.below HB.out.size hb1))
        have HB := Lib.hid (bt HB.out hb1)
        have HP := Lib.hid (HP.out.kept hb1)
        have HW := Lib.hid (HW.out.kept hb1)
        have c0 := cell_kept hb1 c0
        have hkl : (keyH cols r).length = cols.length := by simp [keyH]
        have HFk := Lib.hid (fine_key cols HFr.out)
        change Hid (RowAt w1 A1 (keyH cols r)) at HK
        have HKL := Lib.hid hkl
        clear hk hb1 hkl
        generalize hkey : keyH cols r = key at HK HFk HKL
        have HKY := Lib.hid hkey
        clear hkey
        cases hok : okR key
        · have HO := Lib.hid hok
          have HFI := Lib.hid (show firstE cols rs = 20 by rw [HE.out, HD.out, errH_row HBP.out (by rw [HKY.out]; exact HO.out)]; rfl)
          clear hok
          go_wp2_with fail
          refine (refCheck_L A1 cols.length c1 key _ HKL.out HK.out HFk.out (by omega) false HO.out).mono ?_
          rintro e w2 ⟨rfl, hb2⟩
          have HB := Lib.hid (bt HB.out hb2)
          clear hb2
          go_wp2_with fail
          go_ret2
          exact ⟨HB.out, .inl ⟨by rw [HFI.out]; decide, by rw [HFI.out]; rfl⟩⟩
        · have HO := Lib.hid hok
          have HEI := Lib.hid (show errH cols r = 0 from errH_ok HBP.out (by rw [HKY.out]; exact HO.out))
          clear hok
          go_wp2_with fail
          refine (refCheck_L A1 cols.length c1 key _ HKL.out HK.out HFk.out (by omega) true HO.out).mono ?_
          rintro e w11 ⟨rfl, hb2⟩
          have HEL := Lib.hid (HEL.out.kept (Grows.below HB.out.size hb2))
          have HK := Lib.hid (HK.out.kept hb2)
          have HB := Lib.hid (bt HB.out hb2)
          have HP := Lib.hid (HP.out.kept hb2)
          have c0 := cell_kept hb2 c0
          clear hb2
          go_wp2_with fail
          refine (refPart_ok_L A1 cols.length c1 s l N key _ HKL.out HM.out HK.out HO.out).mono ?_
          rintro e w2 ⟨rfl, hb2⟩
          have HEL := Lib.hid (HEL.out.kept (Grows.below HB.out.size hb2))
          have HB := Lib.hid (bt HB.out hb2)
          have HP := Lib.hid (HP.out.kept hb2)
          have c0 := cell_kept hb2 c0
          have hpr := partH_range s l N key f1
          obtain ⟨i, hi⟩ := Int.eq_ofNat_of_zero_le hpr.1
          rw [hi]
          have hiN : i < N := by omega
          have HI := Lib.hid hi
          clear hb2 hi hpr
          have hPl : P.length = N := by rw [HZ.out]; simp
          obtain ⟨v, hv, hlo⟩ := HP.out.lists (show i < P.length by omega)
          have hpl : (P.getD i []).length ≤ 65536 := by
            have := HQ.out (P.getD i []) (by simp [List.getD, show i < P.length by omega])
            omega
          have HPI := Lib.hid (show P[i]? = some (P.getD i []) by simp [List.getD, show i < P.length by omega])
          have HPL := Lib.hid hPl
          clear hPl
          have g0 := (HP.out.cell i).trans hv
          have f0 := HP.out.free i
          have HLO := Lib.hid hlo
          have HV := Lib.hid hv
          have hBs := HB.out.size
          have hgl := lt_of_block HP.out.1
          clear hlo hv
          have HSn := Lib.hid (show (rs.take (j + 1)).foldl (addH s l N cols) (List.replicate N []) = P.set i (P.getD i [] ++ [r]) by rw [HS.out, addH, HKY.out, HI.out, Int.toNat_natCast])
          have HEn := Lib.hid (show firstE cols rs = firstE cols (rs.drop (j + 1)) by rw [HE.out, HD.out, if_pos HEI.out])
          generalize P.getD i [] = p at hpl HPI HLO HSn
          have hi0 : (0 : Int) ≤ (i : Int) := Int.natCast_nonneg _
          have hi1 : (i : Int) < (N : Int) := by omega
          have hj0 : (0 : Int) ≤ (j : Int) := Int.natCast_nonneg _
          have hj1 : (j : Int) < (rs.length : Int) := by omega
          go_wp2_with fail
          have HOT := Lib.hid (HP.out.other HV.out)
          have HG0 := Lib.hid (show CellIs w2 w.heap.size i v from ⟨g0, f0⟩)
          have HLd := Lib.hid (fun o => (show ListOwn (w2.alloc o).drew w.heap.size v p from HLO.out.kept hBs (ba w2 o).drew))
          have HEd := Lib.hid (fun o => (show ElemAt (w2.alloc o).drew w.heap.size A' r from HEL.out.kept (Grows.below hBs (ba w2 o).drew)))
          obtain ⟨g1, f1'⟩ := HG0.out.kept (ba w2 (.cells #[.slice A' r.length c'] 22))
          have hnb : (w2.alloc (.cells #[.slice A' r.length c'] 22)).heap[w2.heap.size]? = some (.cells #[.slice A' r.length c'] 22 (0, 0)) := heap_alloc_new w2 _
          have HNB := Lib.hid hnb
          clear hnb
          go_region_law (first
              | (refine step_pushL (by rfl) _ _ (by rfl) v p A' c' r _ w.heap.size w2.heap.size (by rfl) (by rfl) (HLd.out _) (HEd.out _) hA (by exact HNB.out) (by simp; omega) hpl ?_; intro g' cap w59 hlo hgr2 hat hG2; have k59 := Lib.hid ((HG0.out.kept (ba w2 _)).grown (grown_undrew hgr2) HOT.out); obtain ⟨k59a, k59b⟩ := k59.out))
          all_goals
            obtain ⟨hPn, hGn⟩ := HP.out.next HV.out HPI.out (grown_refl w2) (ba w2 _) (grown_undrew hgr2) (by simp) hlo hat
            have HPn := Lib.hid hPn
            have HBn := Lib.hid (HB.out.trans hGn.1)
            clear hPn hGn hlo hgr2 hat hG2 k59a k59b
            generalize w59.setCell ⟨w.heap.size, i, none⟩ (.slice (some ⟨g', 0, none⟩) (p.length + 1) cap) = w60 at HPn HBn ⊢
            go_wp2_with fail
            go_roundw
            case rel => exact ⟨j + 1, by omega, by go_num, HBn, HEn, Lib.hid ⟨_, by rw [HSn.out]; exact HPn.out⟩⟩
            case measure => simp [intOf]; omega
      · have HBP := Lib.hid (show 32 < cols.length ∨ cols.any (lackV r) = true by simpa [badPlace] using hbp)
        have HFI := Lib.hid (show firstE cols rs = 1 by rw [HE.out, HD.out, errH_place hbp]; rfl)
        clear hbp
        go_wp2_with fail
        refine (refPick_no A' C c' cc r cols wr HW.out (HC.out.kept HB.out) (by omega) HBP.out).mono ?_
        rintro e w1 ⟨⟨A9, L9, c9, rfl⟩, hb1⟩
        have HB := Lib.hid (bt HB.out hb1)
        clear hb1
        go_wp2_with fail
        go_ret2
        exact ⟨HB.out, .inl ⟨by rw [HFI.out]; decide, by rw [HFI.out]; rfl⟩⟩
    · obtain rfl : j = rs.length := by omega
      have HFI := Lib.hid (show firstE cols rs = 0 by rw [HE.out, List.drop_length]; rfl)
      have HPE := Lib.hid (show PartsAt wr w.heap.size w.heap.size vs (splitH s l N cols rs) by have := HP.out; rw [List.take_length] at this; exact this)
      go_wp2_with fail
      go_ret2
      exact ⟨HB.out, .inr ⟨HFI.out, w.heap.size, vs, by simp, HPE.out⟩⟩
set_option maxHeartbeats 400000 in
theorem refSplit_may (A C : Option Addr) (L c M cc : Nat) (s l fan : Int) (w : World) (hm : mayH l fan = false) :
    Calls Try.prog 39 #[.int .u64 s, .int .i64 l, .int .i64 fan, .slice A L c, .slice C M cc] w fun e w' => e = .returned (.tuple #[.slice none 0 0, .int .i64 1]) ∧ w = w' := by
  have HM := Lib.hid hm
  clear hm
  go_enter Try.func39, Try.ntmps39
  go_wp2_with fail
  refine (refMay_b false l fan _ HM.out).mono ?_
  rintro e w1 ⟨rfl, rfl⟩
  go_wp2_with fail
  go_ret2
  exact ⟨rfl, rfl⟩
end Go.Proofs.Ytlobgdfmgbedgaa
