/-
  Contract of hash.Split, and of the document's own.
-/
import Derived.Test.YtlobgdfmgbedgaaHPart
import Derived.Test.YtlobgdfmgbedgaaLst
import Derived.Test.YtlobgdfmgbedgaaRNul
import Derived.Deep.RegionHeld3
import Derived.Deep.RegionLaw
import Derived.Deep.DrawnRows
import Derived.Deep.OwnRows
namespace Go.Proofs.Ytlobgdfmgbedgaa
open Go.RowKit Go.Shelf

attribute [local go_sem ↓] Go.wp_at_zero Go.wp_at_succ

/-- What is wrong with a row: its places, then its values there; the first row that is refused. -/
def keyH (cols : List Int) (r : List Va) : List Va := cols.map (atV r)
def badPlace (cols : List Int) (r : List Va) : Bool := decide (32 < cols.length) || cols.any (lackV r)
def errH (cols : List Int) (r : List Va) : Int := if badPlace cols r then 1 else if okR (keyH cols r) then 0 else 20
def firstE (cols : List Int) : List (List Va) → Int
  | [] => 0
  | r :: rs => if errH cols r = 0 then firstE cols rs else errH cols r
/-- A row more in its part. -/
def addH (s l fan : Int) (cols : List Int) (P : List (List (List Va))) (r : List Va) : List (List (List Va)) :=
  P.set (partH s l fan (keyH cols r)).toNat (P.getD (partH s l fan (keyH cols r)).toNat [] ++ [r])
def splitH (s l fan : Int) (cols : List Int) (rs : List (List Va)) : List (List (List Va)) := rs.foldl (addH s l fan cols) (List.replicate fan.toNat [])
theorem splitH_len (s l fan : Int) (cols : List Int) (rs : List (List Va)) (P : List (List (List Va))) : (rs.foldl (addH s l fan cols) P).length = P.length := by
  induction rs generalizing P with
  | nil => rfl
  | cons r rs ih => rw [List.foldl_cons, ih]; simp [addH]
theorem split_succ (s l fan : Int) (cols : List Int) (rs : List (List Va)) (P : List (List (List Va))) (j : Nat) (h : j < rs.length) : (rs.take (j + 1)).foldl (addH s l fan cols) P = addH s l fan cols ((rs.take j).foldl (addH s l fan cols) P) rs[j] := by
  rw [List.take_succ_eq_append_getElem h, List.foldl_append]; rfl
theorem firstE_drop (cols : List Int) (rs : List (List Va)) (j : Nat) (h : j < rs.length) : firstE cols (rs.drop j) = if errH cols rs[j] = 0 then firstE cols (rs.drop (j + 1)) else errH cols rs[j] := by
  rw [List.drop_eq_getElem_cons h, firstE]

theorem errH_place {cols : List Int} {r : List Va} (h : badPlace cols r = true) : errH cols r = 1 := by simp [errH, h]
theorem errH_row {cols : List Int} {r : List Va} (h : badPlace cols r = false) (h2 : okR (keyH cols r) = false) : errH cols r = 20 := by simp [errH, h, h2]
theorem errH_ok {cols : List Int} {r : List Va} (h : badPlace cols r = false) (h2 : okR (keyH cols r) = true) : errH cols r = 0 := by simp [errH, h, h2]
theorem fold_le (s l : Int) (N : Nat) (cols : List Int) (rs : List (List Va)) (M : Nat) : ∀ j, j ≤ rs.length → ∀ q ∈ (rs.take j).foldl (addH s l N cols) (List.replicate M []), q.length ≤ j
  | 0, _ => by intro q hq; simp at hq; rw [hq.2]; simp
  | j + 1, h => by
    intro q hq
    rw [split_succ s l N cols rs _ j (by omega), addH] at hq
    have ih := fold_le s l N cols rs M j (by omega)
    generalize (rs.take j).foldl (addH s l N cols) (List.replicate M []) = P at hq ih
    rcases List.mem_or_eq_of_mem_set hq with hq | rfl
    · have := ih q hq; omega
    · simp
      by_cases hi : (partH s l N (keyH cols rs[j])).toNat < P.length
      · have := ih _ (List.getElem_mem hi)
        rw [List.getElem?_eq_getElem hi]
        simpa using this
      · rw [List.getElem?_eq_none (by omega)]; simp
theorem fine_key (cols : List Int) {r : List Va} (h : Fine r) : Fine (keyH cols r) := by
  intro v hv
  simp only [keyH, List.mem_map] at hv
  obtain ⟨c, _, rfl⟩ := hv
  unfold atV
  split
  · by_cases hi : c.toNat < r.length
    · simp only [List.getD, List.getElem?_eq_getElem hi, Option.getD_some]; exact h _ (List.getElem_mem hi)
    · simp only [List.getD, List.getElem?_eq_none (Nat.le_of_not_lt hi), Option.getD_none]; decide
  · decide

/-- The end of Split. -/
def SplitEnd (w : World) (s l fan : Int) (cols : List Int) (rs : List (List Va)) (e : Ending) (w' : World) : Prop :=
  Below w.heap.size w w' ∧ ((firstE cols rs ≠ 0 ∧ e = .returned (.tuple #[.slice none 0 0, .int .i64 (firstE cols rs)])) ∨
    (firstE cols rs = 0 ∧ ∃ g vs, e = .returned (.tuple #[.slice (some ⟨g, 0, none⟩) fan.toNat fan.toNat, .int .i64 0]) ∧ PartsAt w' w.heap.size g vs (splitH s l fan cols rs)))

theorem made_parts (n : Nat) : madeCells #[(.slice none 0 0 : Value)] n = (List.replicate n (.slice none 0 0)).toArray := by
  apply Array.ext'
  apply List.ext_getElem?
  intro i
  by_cases hi : i < n
  · simp [madeCells, hi, Nat.mod_one]
  · simp [madeCells, hi]
theorem parts_made (w : World) (n : Nat) : PartsAt (w.alloc (.cells (Array.replicate n (.slice none 0 0)) 39)) w.heap.size w.heap.size (List.replicate n (.slice none 0 0)) (List.replicate n []) := by
  refine ⟨by rw [List.toArray_replicate]; exact heap_alloc_new w _, Nat.le_refl _, by simp, fun i v p hv hp => ?_, fun i j v u k _ hv _ hk => ?_⟩
  · rw [List.getElem?_replicate] at hv hp
    split at hv
    · cases hv
      rw [if_pos (by assumption)] at hp
      cases hp
      exact ListOwn.nil _ _
    · cases hv
  · rw [List.getElem?_replicate] at hv
    split at hv
    · cases hv; simp [Value.ownBlock] at hk
    · cases hv

set_option maxRecDepth 100000 in
set_option maxHeartbeats 2000000 in
theorem split_any (A C : Option Addr) (c cc : Nat) (s l fan : Int) (rs : List (List Va)) (cols : List Int) (w : World) (hm : mayH l fan = true) (h : RowsAt w A rs) (hC : IntsAt w C cols) (hn : rs.length ≤ 65536) (hl : ∀ r ∈ rs, r.length ≤ 65536) (hf : ∀ r ∈ rs, Fine r) (hlc : cols.length ≤ 65536) :
    Calls Try.prog 38 #[.int .u64 s, .int .i64 l, .int .i64 fan, .slice A rs.length c, .slice C cols.length cc] w (SplitEnd w s l fan cols rs) := by
  obtain ⟨l0, l8, f1, f64⟩ := mayH_parts hm
  obtain ⟨N, rfl⟩ := Int.eq_ofNat_of_zero_le (by omega : 0 ≤ fan)
  have hmk := run_make_row' (P := Try.prog) 54 39 (.slice none 0 0) 24 Try.underlying54 info_listT rfl .i64 .i64 N (by omega) (by omega)
  rw [made_parts, List.toArray_replicate] at hmk
  have HM := Lib.hid hm
  have HL := Lib.hid h
  have HC := Lib.hid hC
  have HN := Lib.hid hl
  have HF := Lib.hid hf
  clear hm h hC hl hf
  go_enter Try.func38, Try.ntmps38
  go_wp2_with fail
  refine (mayPart_b true l N _ HM.out).mono ?_
  rintro e w1 ⟨rfl, rfl⟩
  go_wp2_with fail
  have hP0 := parts_made w N
  have hB0 := ba w (.cells (Array.replicate N (.slice none 0 0)) 39)
  generalize w.alloc (.cells (Array.replicate N (.slice none 0 0)) 39) = W at hP0 hB0 ⊢
  clear hmk
  have HP0 := Lib.hid hP0
  have HB0 := Lib.hid hB0
  clear hP0 hB0
  go_loopw [26] (fun i wr => ∃ j : Nat, j ≤ rs.length ∧ i = .int .i64 j ∧ Hid (Below w.heap.size w wr) ∧ Hid (firstE cols rs = firstE cols (rs.drop j)) ∧ Hid (∃ vs, PartsAt wr w.heap.size w.heap.size vs ((rs.take j).foldl (addH s l N cols) (List.replicate N [])))) (fun i _ => rs.length - (intOf i).toNat)
  case atStart => exact ⟨0, Nat.zero_le _, rfl, HB0, Lib.hid (by simp), Lib.hid ⟨_, HP0.out⟩⟩
  case round =>
    obtain ⟨j, hj, rfl, HB, HE, HP⟩ := hrel
    clear HP0 HB0
    obtain ⟨vs, hP⟩ := HP.out
    have HP := Lib.hid hP
    clear hP
    by_cases hlt : j < rs.length
    · obtain ⟨b, off, rfl, hb, A', c', c0, hrow, hel, hA⟩ := HL.out.at HB.out hlt
      have hrl := HN.out rs[j] (List.getElem_mem hlt)
      have HFr := Lib.hid (HF.out rs[j] (List.getElem_mem hlt))
      have HS := Lib.hid (split_succ s l N cols rs (List.replicate N []) j hlt)
      have HD := Lib.hid (firstE_drop cols rs j hlt)
      have HQ := Lib.hid (fold_le s l N cols rs N j hj)
      have HZ := Lib.hid (splitH_len s l N cols (rs.take j) (List.replicate N []))
      generalize (rs.take j).foldl (addH s l N cols) (List.replicate N []) = P at HP HS HQ HZ
      generalize rs[j] = r at c0 hrow hel hrl HFr HS HD
      have HW := Lib.hid hrow
      clear hrow hel
      cases hbp : badPlace cols r
      · have hp1 : cols.length ≤ 32 := by simp [badPlace] at hbp; exact hbp.1
        have HP2 := Lib.hid (show cols.any (lackV r) = false by simpa [badPlace, show ¬ 32 < cols.length by omega] using hbp)
        have HBP := Lib.hid hbp
        clear hbp
        go_wp2_with fail
        refine (pick_ok A' C c' cc r cols wr HW.out (HC.out.kept HB.out) hp1 HP2.out).mono ?_
        rintro e w1 ⟨A1, c1, rfl, hk, hb1⟩
        have HK := Lib.hid hk
        have HB := Lib.hid (bt HB.out hb1)
        have HP := Lib.hid (HP.out.kept hb1)
        have HW := Lib.hid (HW.out.kept hb1)
        have c0 := cell_kept hb1 c0
        have hkl : (keyH cols r).length = cols.length := by simp [keyH]
        have HFk := Lib.hid (fine_key cols HFr.out)
        change Hid (RowAt w1 A1 (keyH cols r)) at HK
        have HKL := Lib.hid hkl
        clear hk hb1 hkl
        generalize hkey : keyH cols r = key at HK HFk HKL
        have HKY := Lib.hid hkey
        clear hkey
        cases hok : okR key
        · have HO := Lib.hid hok
          have HFI := Lib.hid (show firstE cols rs = 20 by rw [HE.out, HD.out, errH_row HBP.out (by rw [HKY.out]; exact HO.out)]; rfl)
          clear hok
          go_wp2_with fail
          refine (part_no_L A1 cols.length c1 s l N key _ HKL.out HM.out HK.out HFk.out (by omega) HO.out).mono ?_
          rintro e w2 ⟨rfl, hb2⟩
          have HB := Lib.hid (bt HB.out hb2)
          clear hb2
          go_wp2_with fail
          go_ret2
          exact ⟨HB.out, .inl ⟨by rw [HFI.out]; decide, by rw [HFI.out]; rfl⟩⟩
        · have HO := Lib.hid hok
          have HEI := Lib.hid (show errH cols r = 0 from errH_ok HBP.out (by rw [HKY.out]; exact HO.out))
          clear hok
          go_wp2_with fail
          refine (part_ok_L A1 cols.length c1 s l N key _ HKL.out HM.out HK.out HFk.out HO.out).mono ?_
          rintro e w2 ⟨rfl, hb2⟩
          have HB := Lib.hid (bt HB.out hb2)
          have HP := Lib.hid (HP.out.kept hb2)
          have HW := Lib.hid (HW.out.kept hb2)
          have c0 := cell_kept hb2 c0
          have hpr := partH_range s l N key f1
          obtain ⟨i, hi⟩ := Int.eq_ofNat_of_zero_le hpr.1
          rw [hi]
          have hiN : i < N := by omega
          have HI := Lib.hid hi
          clear hb2 hi hpr
          have hPl : P.length = N := by rw [HZ.out]; simp
          obtain ⟨v, hv, hlo⟩ := HP.out.lists (show i < P.length by omega)
          have hpl : (P.getD i []).length ≤ 65536 := by
            have := HQ.out (P.getD i []) (by simp [List.getD, show i < P.length by omega])
            omega
          have HPI := Lib.hid (show P[i]? = some (P.getD i []) by simp [List.getD, show i < P.length by omega])
          have HPL := Lib.hid hPl
          clear hPl
          have g0 := (HP.out.cell i).trans hv
          have f0 := HP.out.free i
          have HLO := Lib.hid hlo
          have HV := Lib.hid hv
          have hBs := HB.out.size
          have hgl := lt_of_block HP.out.1
          clear hlo hv
          have HSn := Lib.hid (show (rs.take (j + 1)).foldl (addH s l N cols) (List.replicate N []) = P.set i (P.getD i [] ++ [r]) by rw [HS.out, addH, HKY.out, HI.out, Int.toNat_natCast])
          have HEn := Lib.hid (show firstE cols rs = firstE cols (rs.drop (j + 1)) by rw [HE.out, HD.out, if_pos HEI.out])
          generalize P.getD i [] = p at hpl HPI HLO HSn
          have hi0 : (0 : Int) ≤ (i : Int) := Int.natCast_nonneg _
          have hi1 : (i : Int) < (N : Int) := by omega
          go_wp2_with fail
          have HOT := Lib.hid (HP.out.other HV.out)
          have HG0 := Lib.hid (show CellIs w2 w.heap.size i v from ⟨g0, f0⟩)
          have HWd := Lib.hid (show RowAt w2.drew A' r from HW.out)
          go_region_law (first
              | (refine step_copyV (by rfl) _ _ (by rfl) A' c' r _ w.heap.size (by rfl) (by rfl) HWd.out hA hrl ?_; intro A2 c2 w57 hel hA2 hgr0; have hgr1 := grown_undrew hgr0; have k57 := Lib.hid (HG0.out.grown hgr1 (by simp)); have k58 := Lib.hid (fun o => k57.out.kept (ba w57 o)); obtain ⟨k57a, k57b⟩ := k57.out; obtain ⟨k58a, k58b⟩ := k58.out (.cells #[.slice A2 r.length c2] 22))
              | (refine step_pushL (by rfl) _ _ (by rfl) v p A2 c2 r _ w.heap.size w57.heap.size (by rfl) (by rfl) (by exact HLO.out.step hBs hgr1 _) (by exact hel.alloc (Nat.le_trans hBs hgr1.size) _) hA2 (by exact heap_alloc_new w57 _) (by have := hgr1.size; simp at this ⊢; omega) hpl ?_; intro g' cap w59 hlo hgr2 hat hG2; have k59 := Lib.hid ((k58.out _).grown hgr2 HOT.out); obtain ⟨k59a, k59b⟩ := k59.out))
          all_goals
            obtain ⟨hPn, hGn⟩ := HP.out.next HV.out HPI.out hgr1 (ba w57 _) hgr2 (by simp) hlo hat
            have HPn := Lib.hid hPn
            have HBn := Lib.hid (HB.out.trans hGn.1)
            clear hPn hGn hlo hgr2 hat hG2 hel hgr0 hgr1 k57a k57b k58a k58b k59a k59b
            generalize w59.setCell ⟨w.heap.size, i, none⟩ (.slice (some ⟨g', 0, none⟩) (p.length + 1) cap) = w60 at HPn HBn ⊢
            go_wp2_with fail
            go_roundw
            case rel => exact ⟨j + 1, by omega, by go_num, HBn, HEn, Lib.hid ⟨_, by rw [HSn.out]; exact HPn.out⟩⟩
            case measure => simp [intOf]; omega
      · have HBP := Lib.hid (show 32 < cols.length ∨ cols.any (lackV r) = true by simpa [badPlace] using hbp)
        have HFI := Lib.hid (show firstE cols rs = 1 by rw [HE.out, HD.out, errH_place hbp]; rfl)
        clear hbp
        go_wp2_with fail
        refine (pick_no A' C c' cc r cols wr (HC.out.kept HB.out) (by omega) HBP.out).mono ?_
        rintro e w1 ⟨rfl, hb1⟩
        have HB := Lib.hid (bt HB.out hb1)
        clear hb1
        go_wp2_with fail
        go_ret2
        exact ⟨HB.out, .inl ⟨by rw [HFI.out]; decide, by rw [HFI.out]; rfl⟩⟩
    · obtain rfl : j = rs.length := by omega
      have HFI := Lib.hid (show firstE cols rs = 0 by rw [HE.out, List.drop_length]; rfl)
      have HPE := Lib.hid (show PartsAt wr w.heap.size w.heap.size vs (splitH s l N cols rs) by have := HP.out; rw [List.take_length] at this; exact this)
      go_wp2_with fail
      go_ret2
      exact ⟨HB.out, .inr ⟨HFI.out, w.heap.size, vs, by simp, HPE.out⟩⟩
set_option maxHeartbeats 400000 in
theorem split_may (A C : Option Addr) (L c M cc : Nat) (s l fan : Int) (w : World) (hm : mayH l fan = false) :
    Calls Try.prog 38 #[.int .u64 s, .int .i64 l, .int .i64 fan, .slice A L c, .slice C M cc] w fun e w' => e = .returned (.tuple #[.slice none 0 0, .int .i64 1]) ∧ w = w' := by
  have HM := Lib.hid hm
  clear hm
  go_enter Try.func38, Try.ntmps38
  go_wp2_with fail
  refine (mayPart_b false l fan _ HM.out).mono ?_
  rintro e w1 ⟨rfl, rfl⟩
  go_wp2_with fail
  go_ret2
  exact ⟨rfl, rfl⟩
end Go.Proofs.Ytlobgdfmgbedgaa
