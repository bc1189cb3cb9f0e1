/-
  The walk of PageFills.
-/
import Derived.Test.YtdjhoiamongdaaaPgW1
import Derived.Test.YtdjhoiamongdaaaPgK
import Derived.Test.YtdjhoiamongdaaaPgT
import Derived.Deep.QuietTactic
import Derived.BigQuiet
namespace Go.Proofs.Ytdjhoiamongdaaa
open Go.RowKit Go.Shelf

theorem PagesAt.keptF {w w' : World} {B : Option Addr} {ps : List (List Int)} (h : PagesAt w B ps) (hb : Below w.heap.size w w') : PagesAt w' B ps := by
  rcases h with h | ⟨b, off, hB, hlt, hc⟩
  · exact .inl h
  · refine .inr ⟨b, off, hB, Nat.lt_of_lt_of_le hlt hb.size, fun i r hr => ?_⟩
    obtain ⟨A, c, hcell, hrow, hA⟩ := hc i r hr
    exact ⟨A, c, (hb.cell (p := ⟨b, _, none⟩) hlt).trans hcell, hrow.kept hb, hA⟩
theorem str_atf {w : World} {A : Option Addr} {l : List Int} {L : Nat} (h : BytesAt w A l) (hL : l.length = L) (c : Nat) :
    (convert 25 9 (.slice A L c)).run Try.prog w = .ok (.string (strOfNums l)) w := by
  subst hL; exact h.str c
theorem fillP_len (rs : List (List Va)) : (fillP rs).length ≤ rs.length := by
  have : ∀ (rs : List (List Va)) (gs : List (List (List Va))), (rs.foldl addG gs).length ≤ gs.length + rs.length := by
    intro rs
    induction rs with
    | nil => intro gs; simp
    | cons r rs ih =>
      intro gs
      have h1 := ih (addG gs r)
      have h2 := addG_len gs r
      simp only [List.foldl_cons, List.length_cons]
      omega
  simpa [fillP] using this rs []

set_option maxRecDepth 100000 in
set_option maxHeartbeats 1000000 in
theorem pageFills_large (A : Option Addr) (c : Nat) (rs : List (List Va)) (w : World) (h : RowsAt w A rs) (hk : ∀ r ∈ rs, r.length ≤ 9223372036854775807) (hl : rs.length ≤ 9223372036854775807) (hb : largeP rs = true) :
    Calls Try.prog 5 #[.slice A rs.length c] w fun e w' => e = .returned (.bool true) ∧ Below w.heap.size w w' := by
  have HL := Lib.hid (largeP_any A c rs w h hk hl)
  rw [hb] at HL
  clear h hk hb
  go_enter Try.func5, Try.ntmps5
  go_wp2_with fail
  refine HL.out.mono ?_
  rintro e w1 ⟨rfl, rfl⟩
  go_wp2_with fail
  refine (livesP_yes _).mono ?_
  rintro e w2 ⟨rfl, hb⟩
  go_wp2_with fail
  go_ret
  exact ⟨rfl, hb⟩

set_option maxRecDepth 100000 in
set_option maxHeartbeats 4000000 in
theorem pageFills_bad (A : Option Addr) (c L : Nat) (rs : List (List Va)) (w : World) (h : RowsAt w A rs) (hL : rs.length = L) (hf : ∀ r ∈ rs, Fine r) (hk : ∀ r ∈ rs, r.length ≤ 9223372036854775807) (hb : largeP rs = false) (hbad : badP rs ≠ 0) :
    Calls Try.prog 5 #[.slice A L c] w fun e w' => e = .returned (.bool true) ∧ Below w.heap.size w w' := by
  have hlen := (largeP_len hb).1
  have HLg := Lib.hid (largeP_any A c rs w h hk (by omega))
  rw [hb, hL] at HLg
  rw [hL] at hlen
  have HFl := Lib.hid (fill_any A c L rs w h hL hlen hf hk)
  have HR := Lib.hid h
  have HL := Lib.hid hL
  have HF := Lib.hid hf
  have HK := Lib.hid hk
  have HBad := Lib.hid hbad
  clear h hL hf hk hb hbad
  go_enter Try.func5, Try.ntmps5
  go_wp2_with fail
  refine HLg.out.mono ?_
  rintro e w1 ⟨rfl, rfl⟩
  go_wp2_with fail
  refine HFl.out.mono ?_
  rintro e w2 ⟨hb2, he⟩
  rw [if_neg HBad.out] at he
  subst he
  have HB := Lib.hid hb2
  obtain ⟨m, hm⟩ : ∃ m, m = badP rs := ⟨_, rfl⟩
  rw [← hm]
  have HM := Lib.hid hm
  clear hb2 hm
  go_wp2_with fail
  refine (livesP_yes _).mono ?_
  rintro e w3 ⟨rfl, hb3⟩
  have HB := Lib.hid (bt HB.out hb3)
  clear hb3
  go_wp2_with fail
  go_loopw [5] (fun i wr => ∃ j : Nat, j ≤ L ∧ i = .int .i64 j ∧ Hid (badP (rs.take j) = 0) ∧ Hid (Below w.heap.size w wr)) (fun i _ => L - (intOf i).toNat)
  case atStart => exact ⟨0, Nat.zero_le _, rfl, Lib.hid rfl, HB⟩
  case round =>
    obtain ⟨j, hj, rfl, HZ, HB⟩ := hrel
    by_cases hlt : j < L
    · have hlt' : j < rs.length := by rw [HL.out]; exact hlt
      obtain ⟨b, off, rfl, A', c', c0, hr⟩ := (HR.out.kept HB.out).cellAt hlt'
      have HFj := Lib.hid (HF.out rs[j] (List.getElem_mem hlt'))
      have hkj := HK.out rs[j] (List.getElem_mem hlt')
      have HN := Lib.hid (badP_snoc (rs.take j) rs[j] HZ.out)
      rw [← List.take_succ_eq_append_getElem hlt'] at HN
      have HN3 := Lib.hid (badP_at hlt' HZ.out)
      generalize rs[j] = r at c0 hr HFj hkj HN HN3
      have HRj := Lib.hid hr
      clear hr
      go_wp2_with fail
      refine (may_any A' c' r wr HRj.out HFj.out hkj).mono ?_
      rintro e w4 ⟨rfl, hb⟩
      have HB := Lib.hid (bt HB.out hb)
      clear hb
      by_cases hm0 : mayI r = 0
      · have HNz := Lib.hid (HN.out.trans hm0)
        rw [hm0]
        clear hm0
        go_wp2_with fail
        go_roundw
        case rel => exact ⟨j + 1, by omega, by go_num, HNz, HB⟩
        case measure => simp [intOf]; omega
      · have HE := Lib.hid ((HM.out.trans (HN3.out hm0)).symm)
        have hne : (m != 0) = true := by rw [bne_iff_ne, ← HE.out]; exact hm0
        rw [HE.out]
        clear hm0
        go_wp2_with fail
        go_ret
        exact ⟨by simp, HB.out⟩
    · have hz := HZ.out
      rw [List.take_of_length_le (by rw [HL.out]; omega)] at hz
      exact absurd hz HBad.out

set_option maxRecDepth 100000 in
set_option maxHeartbeats 8000000 in
theorem pageFills_good (A : Option Addr) (c L : Nat) (rs : List (List Va)) (w : World) (h : RowsAt w A rs) (hL : rs.length = L) (hf : ∀ r ∈ rs, Fine r) (hk : ∀ r ∈ rs, r.length ≤ 9223372036854775807) (hb : largeP rs = false) (hgood : badP rs = 0) :
    Calls Try.prog 5 #[.slice A L c] w fun e w' => e = .returned (.bool true) ∧ Below w.heap.size w w' := by
  have hlen := (largeP_len hb).1
  have HLg := Lib.hid (largeP_any A c rs w h hk (by omega))
  rw [hb, hL] at HLg
  rw [hL] at hlen
  have HFl := Lib.hid (fill_any A c L rs w h hL hlen hf hk)
  have hGG := fillP_good (badP_zero hgood)
  have HGd := Lib.hid hGG.1
  have HFlat := Lib.hid hGG.2
  have HPg := Lib.hid (pagesP_make hGG.1)
  rw [HFlat.out] at HPg
  have HZr := Lib.hid (badP_zero hgood)
  have hgl := fillP_len rs
  rw [hL] at hgl
  have HR := Lib.hid h
  have HL := Lib.hid hL
  have HF := Lib.hid hf
  have HK := Lib.hid hk
  have HGood := Lib.hid hgood
  clear h hL hf hk hb hgood hGG
  go_enter Try.func5, Try.ntmps5
  go_wp2_with fail
  refine HLg.out.mono ?_
  rintro e w1 ⟨rfl, rfl⟩
  go_wp2_with fail
  refine HFl.out.mono ?_
  rintro e w2 ⟨hb2, he⟩
  rw [if_pos HGood.out] at he
  obtain ⟨Ap, cp, rfl, hpp, hAp⟩ := he
  obtain ⟨gs, hgs⟩ : ∃ gs, gs = fillP rs := ⟨_, rfl⟩
  rw [← hgs] at hpp hgl HGd HFlat HPg ⊢
  obtain ⟨K, hK⟩ : ∃ K, gs.length = K := ⟨_, rfl⟩
  rw [hK] at hgl ⊢
  have HGs := Lib.hid hgs
  have HKl := Lib.hid hK
  have HB := Lib.hid hb2
  have HPp := Lib.hid hpp
  clear hb2 hgs hK hpp hAp
  go_wp2_with fail
  refine (livesP_yes _).mono ?_
  rintro e w3 ⟨rfl, hb3⟩
  have HB := Lib.hid (bt HB.out hb3)
  have HPp := Lib.hid (HPp.out.keptF hb3)
  clear hb3
  go_wp2_with fail
  go_loopw [5] (fun i wr => ∃ j : Nat, j ≤ L ∧ i = .int .i64 j ∧ Hid (PagesAt wr Ap (gs.map makeP)) ∧ Hid (Below w.heap.size w wr)) (fun i _ => L - (intOf i).toNat)
  case atStart => exact ⟨0, Nat.zero_le _, rfl, HPp, HB⟩
  case round =>
    clear HPp HB
    obtain ⟨j, hj, rfl, HPp, HB⟩ := hrel
    by_cases hlt : j < L
    · have hlt' : j < rs.length := by rw [HL.out]; exact hlt
      obtain ⟨b, off, rfl, A', c', c0, hr⟩ := (HR.out.kept HB.out).cellAt hlt'
      have HFj := Lib.hid (HF.out rs[j] (List.getElem_mem hlt'))
      have hkj := HK.out rs[j] (List.getElem_mem hlt')
      have hmj := HZr.out rs[j] (List.getElem_mem hlt')
      generalize rs[j] = r at c0 hr HFj hkj hmj
      have HRj := Lib.hid hr
      have HMj := Lib.hid hmj
      clear hr hmj
      go_wp2_with fail
      refine (may_any A' c' r wr HRj.out HFj.out hkj).mono ?_
      rw [HMj.out]
      rintro e w4 ⟨rfl, hb⟩
      have HB := Lib.hid (bt HB.out hb)
      have HPp := Lib.hid (HPp.out.keptF hb)
      clear hb
      go_wp2_with fail
      go_roundw
      case rel => exact ⟨j + 1, by omega, by go_num, HPp, HB⟩
      case measure => simp [intOf]; omega
    · go_wp2_with fail
      refine (refFill_any A c L rs wr (HR.out.kept HB.out) HL.out HGood.out hlen).mono ?_
      rintro e w4 ⟨v, rfl, hg4, hb4⟩
      rw [← HGs.out] at hg4
      have HG := Lib.hid hg4
      have hszw := HB.out.size
      have HB := Lib.hid (bt HB.out hb4)
      have HPp := Lib.hid (HPp.out.keptF hb4)
      obtain ⟨Av, cv, rfl, _, _⟩ := hg4.form
      rw [HKl.out] at HG ⊢
      obtain ⟨B4, hB4⟩ : ∃ B4, B4 = wr.heap.size := ⟨_, rfl⟩
      rw [← hB4] at HG
      have hB4s : B4 ≤ w4.heap.size := by rw [hB4]; exact hb4.size
      clear hg4 hb4 hB4
      go_wp2_with fail
      go_loopw [8] (fun i wq => ∃ k : Nat, k ≤ K ∧ i = .int .i64 k ∧ Hid (PagesAt wq Ap (gs.map makeP)) ∧ Hid (Grps wq B4 (.slice Av K cv) gs) ∧ Hid (B4 ≤ wq.heap.size) ∧ Hid (Below w.heap.size w wq)) (fun i _ => K - (intOf i).toNat)
      case atStart => exact ⟨0, Nat.zero_le _, rfl, HPp, HG, Lib.hid hB4s, HB⟩
      case round =>
        clear HPp HG HB
        obtain ⟨k, hk, rfl, HPp, HG, HS, HB⟩ := hrel
        by_cases hkl : k < K
        · have hkl' : k < gs.length := by rw [HKl.out]; exact hkl
          obtain ⟨g, cap, hve, _, _, _, A3, c3, g0, hlo⟩ := HG.out.load hkl'
          rw [HKl.out] at hve
          cases hve
          obtain ⟨hfit, hokp, hpn⟩ := HGd.out gs[k] (List.getElem_mem hkl')
          clear hpn
          have hp85 := (fitsP_parts hfit).2.2
          have HPk := Lib.hid (show (gs.map makeP)[k]'(by simpa using hkl') = makeP gs[k] by simp)
          generalize gs[k] = p at g0 hlo hfit hokp hp85 HPk
          have HFt := Lib.hid hfit
          have HOk := Lib.hid hokp
          have HMl := Lib.hid (makeP_len hfit)
          have HBy := Lib.hid (makeP_byte hokp hfit)
          have HLo := Lib.hid (own_rowsF hlo)
          obtain ⟨N, hNl⟩ : ∃ N, p.length = N := ⟨_, rfl⟩
          rw [hNl] at g0 hp85
          have HNl := Lib.hid hNl
          clear hlo hfit hokp hNl
          have hki0 : (0 : Int) ≤ (k : Int) := Int.natCast_nonneg _
          have hki1 : (k : Int) < (K : Int) := by omega
          have HLp := Lib.hid (show k < (gs.map makeP).length by simpa using hkl')
          go_wp2_with fail
          have hmk := make_any A3 c3 N p wr HLo.out HNl.out HOk.out (by omega)
          refine hmk.mono ?_
          rintro e w5 ⟨hb5, he5⟩
          rw [if_pos HFt.out] at he5
          obtain ⟨g6, cap6, rfl, hbuf6⟩ := he5
          have HPp := Lib.hid (HPp.out.keptF hb5)
          have HG := Lib.hid (HG.out.kept HS.out hb5)
          have HB := Lib.hid (bt HB.out hb5)
          have HS := Lib.hid (Nat.le_trans HS.out hb5.size)
          have HQ := Lib.hid (hbuf6.bytes HBy.out)
          obtain ⟨b, off, rfl, Aq, cq, q0, hq, _⟩ := HPp.out.at (Below.refl _ _) (i := k) HLp.out
          rw [HPk.out, HMl.out] at q0
          rw [HPk.out] at hq
          have HQ2 := Lib.hid hq
          clear hb5 hbuf6 hq g0 hmk
          have hcv1 := fun q => str_atf (show BytesAt (w5.drewN q) (some ⟨g6, 0, none⟩) (makeP p) from HQ.out) HMl.out cap6
          have hcv2 := fun q => str_atf (show BytesAt (w5.drewN q) Aq (makeP p) from HQ2.out) HMl.out cq
          generalize strOfNums (makeP p) = X at hcv1 hcv2
          go_wp2_with fail
          go_quiet (fail)
          go_wp2_with fail
          go_roundw
          case rel => exact ⟨k + 1, by omega, by go_num, Lib.hid HPp.out, Lib.hid HG.out, Lib.hid HS.out, Lib.hid ⟨HB.out.os, HB.out.tape, HB.out.output, HB.out.size, HB.out.block⟩⟩
          case measure => simp [intOf]; omega
        · have HSL := Lib.hid (fun (A7 : Option Addr) (c7 : Nat) (W : World) (h1 : RowsAt W A7 rs) (h2 : RowsAt W A rs) => by
            have := sameList_self A7 A c7 c rs W h1 h2 (by rw [HL.out]; omega) HK.out
            rw [HL.out] at this
            exact this)
          go_wp2_with fail
          refine (pages_any Ap cp K (gs.map makeP) _ HPp.out (by simp [HKl.out]) (by omega)).mono ?_
          rw [HPg.out]
          rintro e w6 ⟨hb6, A7, c7, rfl, hr7, _, _⟩
          have HB := Lib.hid (bt HB.out hb6)
          have HR7 := Lib.hid hr7
          rw [HL.out]
          clear hb6 hr7
          go_wp2_with fail
          refine (HSL.out A7 c7 w6 HR7.out (HR.out.kept HB.out)).mono ?_
          rintro e w7 ⟨rfl, hb7⟩
          have HB := Lib.hid (bt HB.out hb7)
          clear hb7
          go_wp2_with fail
          go_ret
          exact ⟨rfl, HB.out⟩

theorem pageFills_walk (A : Option Addr) (c : Nat) (rs : List (List Va)) (w : World) (h : RowsAt w A rs) (hf : ∀ r ∈ rs, Fine r) (hk : ∀ r ∈ rs, r.length ≤ 9223372036854775807) (hl : rs.length ≤ 9223372036854775807) :
    Calls Try.prog 5 #[.slice A rs.length c] w fun e w' => e = .returned (.bool true) ∧ Below w.heap.size w w' := by
  cases hb : largeP rs with
  | true => exact pageFills_large A c rs w h hk hl hb
  | false =>
    by_cases hbad : badP rs = 0
    · exact pageFills_good A c rs.length rs w h rfl hf hk hb hbad
    · exact pageFills_bad A c rs.length rs w h rfl hf hk hb hbad
end Go.Proofs.Ytdjhoiamongdaaa
