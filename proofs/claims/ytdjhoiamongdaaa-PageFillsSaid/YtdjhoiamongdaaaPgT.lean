/-
  The contract of the document's own Fill.
-/
import Derived.Test.YtdjhoiamongdaaaPgY
import Derived.Deep.CutRange
namespace Go.Proofs.Ytdjhoiamongdaaa
open Go.RowKit Go.Shelf

theorem bt' {B : Nat} {w w1 w2 : World} (h1 : Below B w w1) (hB : B ≤ w1.heap.size) (h2 : Below w1.heap.size w1 w2) : Below B w w2 := h1.trans (h2.mono hB)
def RefFillEnd (w : World) (rs : List (List Va)) (e : Ending) (w' : World) : Prop := ∃ v, e = .returned v ∧ Grps w' w.heap.size v (fillP rs) ∧ Below w.heap.size w w'
theorem fits_used {p : List (List Va)} (h : fitsP p = true) : 1 + lenP p + 2 * p.length ≤ 256 := (fitsP_parts h).2.1
theorem fits_no {p : List (List Va)} (h : fitsP p = false) (hl : p.length ≤ 255) : 256 < 1 + lenP p + 2 * p.length := by
  unfold fitsP at h
  simp at h
  exact h hl

theorem own_rowsF {w : World} {B n c : Nat} {A : Option Addr} {p : List (List Va)} (h : ListOwn w B (.slice A n c) p) : RowsAt w A p := by
  obtain ⟨A', c', e, h2⟩ := h.rows
  cases e
  exact h2
theorem own_one {w : World} {B n c : Nat} {A : Option Addr} {r : List Va} (hE : w.heap[n]? = some (.cells #[.slice A r.length c] 30 (0, 0))) (hn : B ≤ n) (he : ElemAt w B A r) (hA : A = none → c = 0) : ListOwn w B (.slice (some ⟨n, 0, none⟩) 1 1) [r] :=
  ⟨[.slice A r.length c], ⟨rfl, .inr ⟨n, 1, #[.slice A r.length c], rfl, hn, hE, Nat.le_refl _, by simp [maxLen], rfl, rfl⟩⟩, (Elems.nil w B).push he hA⟩

set_option maxRecDepth 100000 in
set_option maxHeartbeats 8000000 in
theorem refFill_any (A : Option Addr) (c L : Nat) (rs : List (List Va)) (w : World) (h : RowsAt w A rs) (hL : rs.length = L) (hm : badP rs = 0) (hl : L ≤ 600) :
    Calls Try.prog 31 #[.slice A L c] w (RefFillEnd w rs) := by
  have HR := Lib.hid h
  have HL := Lib.hid hL
  have HM := Lib.hid (badP_zero hm)
  clear h hL hm
  go_enter Try.func31, Try.ntmps31
  go_wp2_with fail
  go_loopw [3, 4] (fun v i wr => ∃ (j : Nat) (gs : List (List (List Va))), j ≤ L ∧ i = .int .i64 j ∧ gs.length ≤ j ∧ Hid (Grps wr w.heap.size v gs) ∧ Hid (gs = fillP (rs.take j)) ∧ Hid (Below w.heap.size w wr)) (fun _ i _ => L - (intOf i).toNat)
  case atStart => exact ⟨0, [], Nat.zero_le _, rfl, Nat.le_refl _, Lib.hid (Grps.nil _ _), Lib.hid rfl, Lib.hid (Below.refl _ _)⟩
  case round =>
    obtain ⟨j, gs, hj, rfl, hgl, HG, HF, HB⟩ := hrel
    by_cases hlt : j < L
    · have hlt' : j < rs.length := by rw [HL.out]; exact hlt
      obtain ⟨b, off, rfl, hbw, A', c', c0, hr, hel, hA'⟩ := HR.out.at HB.out hlt'
      have hmj := HM.out rs[j] (List.getElem_mem hlt')
      have HN := Lib.hid (fillP_take rs j hlt')
      have HGd := Lib.hid (fillP_good (rs := rs.take j) (fun r hr => HM.out r (List.mem_of_mem_take hr))).1
      rw [← HF.out] at HGd
      generalize rs[j] = r at c0 hr hel hmj HN
      obtain ⟨hokr, _⟩ := mayI_ok hmj
      have HA' := Lib.hid hA'
      have HEl := Lib.hid hel
      have hsz := HB.out.size
      clear hr hel hA' hmj
      rcases List.eq_nil_or_concat gs with hnil | ⟨gs0, p, hcc⟩
      · subst hnil
        obtain ⟨A1, c1, rfl, _, _⟩ := HG.out.form
        have HSz := Lib.hid hsz
        go_wp2_with (at_builtin; refine wpList_pushG rfl (.tmp 37) (.tmp 43) rfl _ [] (.slice (some ⟨wr.heap.size, 0, none⟩) 1 1) [r] _ w.heap.size (wr.heap.size + 1) rfl rfl (HG.out.kept HSz.out (bt (ba wr _) (ba _ _))) ?c1 ?c2 ?c3 ?c4 ?_)
        case c1 => exact own_one (two_new wr _ _).1 HSz.out ((HEl.out.alloc HSz.out _).alloc (by have := HSz.out; simp; omega) _) HA'.out
        case c2 => exact (two_new wr _ _).2
        case c3 => have := HSz.out; simp; omega
        case c4 => simp <;> omega
        intro v1 w1 hg1 hG1
        have HG1 := Lib.hid hg1
        have HB1 := Lib.hid ((HB.out.trans ((bt (ba wr _) (ba _ _)).mono HSz.out)).trans hG1.1)
        clear hg1 hG1
        go_wp2_with fail
        go_roundw
        case rel => exact ⟨j + 1, [[r]], by omega, by go_num, by simp, HG1, Lib.hid (by rw [HN.out, ← HF.out]; rfl), HB1⟩
        case measure => simp [intOf]; omega
      · rw [List.concat_eq_append] at hcc
        subst hcc
        obtain ⟨hfp, hokp, hpne⟩ := HGd.out p (by simp)
        have hp85 := (fitsP_parts hfp).2.2
        obtain ⟨g, cap, rfl, hfz, hty, hBg, A0, d0, g0, hlo⟩ := HG.out.load (k := gs0.length) (by simp)
        rw [show (gs0 ++ [p])[gs0.length]'(by simp) = p by simp] at g0 hlo
        have hlen : (gs0 ++ [p]).length = gs0.length + 1 := by simp
        rw [hlen]
        rw [hlen] at HG hgl
        obtain ⟨G, hGl⟩ : ∃ G, G = gs0.length := ⟨_, rfl⟩
        rw [← hGl] at g0 hfz hgl HG ⊢
        obtain ⟨N, hNl⟩ : ∃ N, p.length = N := ⟨_, rfl⟩
        rw [hNl] at g0 hlo hp85
        have HN0 := Lib.hid hNl
        have HGl := Lib.hid hGl
        have hN0 : 0 < N := by rw [← hNl]; exact List.length_pos_iff.2 hpne
        have HLo := Lib.hid hlo
        have HTy := Lib.hid hty
        have HFp := Lib.hid hfp
        have HOkp := Lib.hid hokp
        clear hlo hty hNl hGl hlen hfp hokp hpne
        have hgi0 : (0 : Int) ≤ (G : Int) := Int.natCast_nonneg _
        have hgi1 : (G : Int) < ((G : Int) + 1) := by omega
        go_wp2_with fail
        go_cut [6] from 7 to 44 (fun s wx => ∃ (A1 : Option Addr) (c1 N1 : Nat), s = .slice A1 N1 c1 ∧ N1 ≤ 86 ∧ Hid ((p ++ [r]).length = N1) ∧ Hid (ListOwn wx w.heap.size (.slice A1 N1 c1) (p ++ [r])) ∧ Hid (Below wr.heap.size wr wx))
        case first =>
          have c00 := Lib.hid c0
          have g00 := Lib.hid g0
          have hgw : g < wr.heap.size := by obtain ⟨cs, fr, hcs⟩ := HTy.out; exact lt_of_block hcs
          have hbw2 : b < wr.heap.size := by omega
          have hji0 : (0 : Int) ≤ (j : Int) := Int.natCast_nonneg _
          have hji1 : (j : Int) < (L : Int) := by omega
          have HI0 := Lib.hid (show RowsIn wr w.heap.size A0 p by
            obtain ⟨A3, c3, e3, h3, _⟩ := HLo.out.inB
            cases e3
            exact h3)
          have HEa := Lib.hid (show (wr.alloc (.cells #[] 30)).drew.heap[wr.heap.size]? = some (.cells #[] 30 (0, 0)) from heap_alloc_new wr _)
          have HEb := Lib.hid (two_new wr (.cells #[] 30) (.cells #[.slice A' r.length c'] 30))
          have HEc := Lib.hid (two_new wr (.cells #[.slice A' r.length c'] 30) (.cells #[] 30))
          have HIa := Lib.hid (show RowsIn (wr.alloc (.cells #[] 30)).drew w.heap.size A0 p from (HI0.out.kept hsz (ba wr _)).heap rfl)
          have HIb := Lib.hid (show RowsIn ((wr.alloc (.cells #[] 30)).alloc (.cells #[.slice A' r.length c'] 30)).drew w.heap.size A0 p from (HI0.out.kept hsz (bt (ba wr _) (ba _ _))).heap rfl)
          have HIc := Lib.hid (show RowsIn ((wr.alloc (.cells #[.slice A' r.length c'] 30)).alloc (.cells #[] 30)).drew w.heap.size A0 p from (HI0.out.kept hsz (bt (ba wr _) (ba _ _))).heap rfl)
          have HGa := Lib.hid (show Grows w.heap.size wr (wr.alloc (.cells #[] 30)).drew from (Grows.below hsz (ba wr _)).drew)
          have HGb := Lib.hid (show Grows w.heap.size wr ((wr.alloc (.cells #[] 30)).alloc (.cells #[.slice A' r.length c'] 30)).drew from (Grows.below hsz (bt (ba wr _) (ba _ _))).drew)
          have HGc := Lib.hid (show Grows w.heap.size wr ((wr.alloc (.cells #[.slice A' r.length c'] 30)).alloc (.cells #[] 30)).drew from (Grows.below hsz (bt (ba wr _) (ba _ _))).drew)
          have HBa := Lib.hid (show Below wr.heap.size wr (wr.alloc (.cells #[] 30)).drew from (ba wr _).drew)
          have HBb := Lib.hid (show Below wr.heap.size wr ((wr.alloc (.cells #[] 30)).alloc (.cells #[.slice A' r.length c'] 30)).drew from (bt (ba wr _) (ba _ _)).drew)
          have HBc := Lib.hid (show Below wr.heap.size wr ((wr.alloc (.cells #[.slice A' r.length c'] 30)).alloc (.cells #[] 30)).drew from (bt (ba wr _) (ba _ _)).drew)
          have HFa := Lib.hid (show ∀ x, (x = wr.heap.size ∨ x = (wr.alloc (.cells #[] 30)).drew.heap.size) → wr.heap.size ≤ x from fun x hx => by simp at hx; omega)
          have HFb := Lib.hid (show ∀ x, (x = wr.heap.size ∨ x = ((wr.alloc (.cells #[] 30)).alloc (.cells #[.slice A' r.length c'] 30)).drew.heap.size) → wr.heap.size ≤ x from fun x hx => by simp at hx; omega)
          have HFc := Lib.hid (show ∀ x, (x = wr.heap.size + 1 ∨ x = ((wr.alloc (.cells #[.slice A' r.length c'] 30)).alloc (.cells #[] 30)).drew.heap.size) → wr.heap.size ≤ x from fun x hx => by simp at hx; omega)
          go_region_held3 (fun w' => w'.cell? ⟨g, G, none⟩ = some (.slice A0 N d0) ∧ w'.cell? ⟨b, off + j, none⟩ = some (.slice A' r.length c'))
            (first | exact ⟨hj9, hk9⟩ | exact ⟨hj1, hk1⟩ | go_keep)
            (first
              | (refine step_appF (by rfl) (.tmp 18) (.tmp 22) (by rfl) wr.heap.size A0 d0 N p _ w.heap.size (by rfl) (by rfl) (by exact HEa.out) (by exact hsz) HN0.out hN0 (by exact HIa.out) (by simp; omega) (by omega) ?_; intro g1 cap1 w5 hl1 hG1 hgr1 hat1; have hGw := HGa.out.trans hG1; have hbx := HBa.out.grown hgr1 (by simp) (fun k hk => by cases hk; exact Nat.le_refl _); have hg1 := HFa.out g1 hat1; have hj1 := (hbx.cell (p := ⟨g, G, none⟩) hgw).trans g00.out; have hk1 := (hbx.cell (p := ⟨b, off + j, none⟩) hbw2).trans c00.out)
              | (refine step_appF (by rfl) (.tmp 18) (.tmp 22) (by rfl) wr.heap.size A0 d0 N p _ w.heap.size (by rfl) (by rfl) (by exact HEb.out.1) (by exact hsz) HN0.out hN0 (by exact HIb.out) (by simp; omega) (by omega) ?_; intro g1 cap1 w5 hl1 hG1 hgr1 hat1; have hGw := HGb.out.trans hG1; have hbx := HBb.out.grown hgr1 (by simp; omega) (fun k hk => by cases hk; exact Nat.le_refl _); have hg1 := HFb.out g1 hat1; have hj1 := (hbx.cell (p := ⟨g, G, none⟩) hgw).trans g00.out; have hk1 := (hbx.cell (p := ⟨b, off + j, none⟩) hbw2).trans c00.out; have hrb := (hgr1.block (wr.heap.size + 1) (by simp) (by simp)).trans HEb.out.2)
              | (refine step_appF (by rfl) (.tmp 18) (.tmp 22) (by rfl) (wr.heap.size + 1) A0 d0 N p _ w.heap.size (by rfl) (by rfl) (by exact HEc.out.2) (by omega) HN0.out hN0 (by exact HIc.out) (by simp; omega) (by omega) ?_; intro g1 cap1 w5 hl1 hG1 hgr1 hat1; have hGw := HGc.out.trans hG1; have hbx := HBc.out.grown hgr1 (by simp; omega) (fun k hk => by cases hk; exact Nat.le_succ _); have hg1 := HFc.out g1 hat1; have hj1 := (hbx.cell (p := ⟨g, G, none⟩) hgw).trans g00.out; have hk1 := (hbx.cell (p := ⟨b, off + j, none⟩) hbw2).trans c00.out; have hrb := (hgr1.block wr.heap.size (by simp; omega) (by simp)).trans HEc.out.1)
              | (refine step_pushL (by rfl) (.tmp 23) (.tmp 28) (by rfl) (.slice (some ⟨g1, 0, none⟩) N cap1) p A' c' r _ w.heap.size w5.heap.size (by rfl) (by rfl) (by exact hl1.kept (by have := hbx.size; omega) (ba w5 _)) (by exact (HEl.out.kept hGw).alloc (by have := hbx.size; omega) _) HA'.out (by exact heap_alloc_new w5 _) (by have := hbx.size; simp; omega) (by rw [HN0.out]; omega) ?_; intro g9 cap9 w9 hl9 hgr9 hat9 hG9; have hbf := (bt' hbx hbx.size (ba w5 _)).grown hgr9 (by have := hbx.size; simp; omega) (fun k hk => by cases hk; exact hg1); have hj9 := (hbf.cell (p := ⟨g, G, none⟩) hgw).trans g00.out; have hk9 := (hbf.cell (p := ⟨b, off + j, none⟩) hbw2).trans c00.out)
              | (refine step_pushL (by rfl) (.tmp 23) (.tmp 28) (by rfl) (.slice (some ⟨g1, 0, none⟩) N cap1) p A' c' r _ w.heap.size (wr.heap.size + 1) (by rfl) (by rfl) (by exact hl1) (by exact HEl.out.kept hGw) HA'.out (by exact hrb) (by have := hbx.size; omega) (by rw [HN0.out]; omega) ?_; intro g9 cap9 w9 hl9 hgr9 hat9 hG9; have hbf := hbx.grown hgr9 hbx.size (fun k hk => by cases hk; exact hg1); have hj9 := (hbf.cell (p := ⟨g, G, none⟩) hgw).trans g00.out; have hk9 := (hbf.cell (p := ⟨b, off + j, none⟩) hbw2).trans c00.out)
              | (refine step_pushL (by rfl) (.tmp 23) (.tmp 28) (by rfl) (.slice (some ⟨g1, 0, none⟩) N cap1) p A' c' r _ w.heap.size wr.heap.size (by rfl) (by rfl) (by exact hl1) (by exact HEl.out.kept hGw) HA'.out (by exact hrb) (by have := hbx.size; omega) (by rw [HN0.out]; omega) ?_; intro g9 cap9 w9 hl9 hgr9 hat9 hG9; have hbf := hbx.grown hgr9 hbx.size (fun k hk => by cases hk; exact hg1); have hj9 := (hbf.cell (p := ⟨g, G, none⟩) hgw).trans g00.out; have hk9 := (hbf.cell (p := ⟨b, off + j, none⟩) hbw2).trans c00.out))
          all_goals
            go_wp2_with fail
            go_meet
            exact ⟨some ⟨g9, 0, none⟩, cap9, N + 1, by rw [HN0.out], by omega, Lib.hid (by simp [HN0.out]), Lib.hid (by rw [HN0.out] at hl9; exact hl9), Lib.hid hbf⟩
        case rest =>
          obtain ⟨A1, c1, N1, rfl, hN1, HN1, HL1, HB1⟩ := hcut
          have HB := Lib.hid (bt HB.out HB1.out)
          have HG := Lib.hid (HG.out.kept hsz HB1.out)
          have HEl := Lib.hid (HEl.out.kept (Grows.below hsz HB1.out))
          have hgw : g < wr.heap.size := by obtain ⟨cs, fr, hcs⟩ := HTy.out; exact lt_of_block hcs
          have g0 := cell_kept HB1.out g0
          have hfz := (HB1.out.frozen (p := ⟨g, G, none⟩) hgw).trans hfz
          have c0 := cell_kept HB1.out c0
          have hsz1 := HB.out.size
          have hgw1 : g < wc.heap.size := by have := HB1.out.size; omega
          have HOk2 := Lib.hid (show allOk (p ++ [r]) from fun x hx => by
            rcases List.mem_append.1 hx with hx | hx
            · exact HOkp.out x hx
            · simp at hx; subst hx; exact hokr)
          have HR1 := Lib.hid (own_rowsF HL1.out)
          clear HB1 HLo HTy HOkp HFp
          go_wp2_with fail
          refine (used_any A1 c1 N1 (p ++ [r]) _ HR1.out HN1.out HOk2.out (by omega)).mono ?_
          rintro e w5 ⟨rfl, hb⟩
          have HB := Lib.hid (bt HB.out hb)
          have HG := Lib.hid (HG.out.kept hsz1 hb)
          have HEl := Lib.hid (HEl.out.kept (Grows.below hsz1 hb))
          have HL1 := Lib.hid (HL1.out.kept hsz1 hb)
          have g0 := cell_kept hb g0
          have hfz := (hb.frozen (p := ⟨g, G, none⟩) hgw1).trans hfz
          have c0 := cell_kept hb c0
          have HSz := Lib.hid HB.out.size
          have HU1 := Lib.hid (fun h : fitsP (p ++ [r]) = true => fits_used h)
          have HU2 := Lib.hid (fun h : fitsP (p ++ [r]) = false => fits_no h (by rw [HN1.out]; omega))
          rw [HN1.out] at HU1 HU2
          generalize 1 + lenP (p ++ [r]) + 2 * N1 = U at HU1 HU2
          clear hb HR1 hgw1 hsz1
          by_cases hfn : fitsP (p ++ [r]) = true
          · have hU := HU1.out hfn
            have HFn := Lib.hid (addG_in (gs := gs0) hfn)
            clear hfn HU1 HU2
            go_wp2_with fail
            have hst := HG.out.store (k := G) (by simp [HGl.out]) HL1.out
            rw [show (gs0 ++ [p]).set G (p ++ [r]) = gs0 ++ [p ++ [r]] by rw [HGl.out]; simp] at hst
            exact ⟨⟨j + 1, gs0 ++ [p ++ [r]], by omega, by go_num, by have := HGl.out; simp; omega, Lib.hid hst.1, Lib.hid (by rw [HN.out, ← HF.out]; exact HFn.out.symm), Lib.hid (HB.out.trans hst.2.1)⟩, by simp [intOf]; omega⟩
          · have hfn' : fitsP (p ++ [r]) = false := by simpa using hfn
            have hU := HU2.out hfn'
            have HFn := Lib.hid (addG_new (gs := gs0) hfn')
            clear hfn hfn' HU1 HU2
            go_wp2_with (at_builtin; refine wpList_pushG rfl (.tmp 37) (.tmp 43) rfl _ (gs0 ++ [p]) (.slice (some ⟨w5.heap.size, 0, none⟩) 1 1) [r] _ w.heap.size (w5.heap.size + 1) rfl rfl (HG.out.kept HSz.out (bt (ba w5 _) (ba _ _))) ?c1 ?c2 ?c3 ?c4 ?_)
            case c1 => exact own_one (two_new w5 _ _).1 HSz.out ((HEl.out.alloc HSz.out _).alloc (by have := HSz.out; simp; omega) _) HA'.out
            case c2 => exact (two_new w5 _ _).2
            case c3 => have := HSz.out; simp; omega
            case c4 => have := HGl.out; simp; omega
            intro v1 w1 hg1 hG1
            have HG1 := Lib.hid hg1
            have HB1 := Lib.hid ((HB.out.trans ((bt (ba w5 _) (ba _ _)).mono HSz.out)).trans hG1.1)
            clear hg1 hG1
            go_wp2_with fail
            exact ⟨⟨j + 1, gs0 ++ [p, [r]], by omega, by go_num, by have := HGl.out; simp; omega, Lib.hid (by simpa using HG1.out), Lib.hid (by rw [HN.out, ← HF.out, HFn.out]; simp), HB1⟩, by simp [intOf]; omega⟩
    · have HT := Lib.hid (show rs.take j = rs from List.take_of_length_le (by rw [HL.out]; omega))
      have hF := HF.out
      rw [HT.out] at hF
      have HFs := Lib.hid hF
      clear hF
      go_wp2_with fail
      go_ret
      exact ⟨_, rfl, by rw [← HFs.out]; exact HG.out, HB.out⟩
end Go.Proofs.Ytdjhoiamongdaaa
