/-
  The contract of page.Fill.
-/
import Derived.Test.YtdjhoiamongdaaaPgH
namespace Go.Proofs.Ytdjhoiamongdaaa
open Go.RowKit Go.Shelf

theorem rowBytes_bad (A : Option Addr) (c : Nat) (r : List Va) (w : World) (h : RowAt w A r) (hf : Fine r) (hl : r.length ≤ 9223372036854775807) (hm : mayI r ≠ 0) :
    Calls Try.prog 63 #[.slice A r.length c] w fun e w' => e = .returned (.tuple #[.slice none 0 0, .int .i64 (mayI r)]) ∧ Below w.heap.size w w' := by
  refine (rowBytes_any A c r w h hf hl).mono fun e w' he => ?_
  unfold RBEnd at he
  unfold mayI at hm ⊢
  by_cases hok : okR r = true
  · by_cases hw : 253 < 1 + sumV r
    · simpa only [if_pos hok, if_pos hw] using he
    · simp only [if_pos hok, if_neg hw] at hm; exact absurd rfl hm
  · simpa only [if_neg hok] using he
theorem rowBytes_good (A : Option Addr) (c : Nat) (r : List Va) (w : World) (h : RowAt w A r) (hf : Fine r) (hl : r.length ≤ 9223372036854775807) (hm : mayI r = 0) :
    Calls Try.prog 63 #[.slice A r.length c] w (PutREnd w r) := by
  refine (rowBytes_any A c r w h hf hl).mono fun e w' he => ?_
  obtain ⟨hok, hw⟩ := mayI_ok hm
  unfold RBEnd at he
  rwa [if_pos hok, if_neg (by omega)] at he

/-- The draft: of no page, or of the last one. -/
def LastAt (w : World) (d : Nat) (bs : List Nat) (gs : List (List (List Va))) : Prop :=
  (∃ cs : Array Value, cs.size = 2 ∧ w.heap[d]? = some (.cells cs 100 (0, 0))) ∧ (gs = [] ∨ ∃ bs0 g gs0 p, bs = bs0 ++ [g] ∧ gs = gs0 ++ [p] ∧ DraftAt w d g ((1 + lenP p : Nat) : Int))
theorem LastAt.kept {w w' : World} {d : Nat} {bs : List Nat} {gs : List (List (List Va))} (h : LastAt w d bs gs) (hb : Below w.heap.size w w') : LastAt w' d bs gs := by
  obtain ⟨⟨cs, hs, h1⟩, h2⟩ := h
  have hd := hb.block d (lt_of_block h1)
  refine ⟨⟨cs, hs, hd.trans h1⟩, ?_⟩
  rcases h2 with h2 | ⟨bs0, g, gs0, p, e1, e2, e3⟩
  · exact .inl h2
  · exact .inr ⟨bs0, g, gs0, p, e1, e2, hd.trans e3⟩
theorem LastAt.of {w : World} {d g : Nat} {bs : List Nat} {gs : List (List (List Va))} {p : List (List Va)} {x : Int} (h : DraftAt w d g x) (hx : x = ((1 + lenP p : Nat) : Int)) : LastAt w d (bs ++ [g]) (gs ++ [p]) := by
  subst hx
  exact ⟨⟨_, rfl, h⟩, .inr ⟨bs, g, gs, p, rfl, rfl, h⟩⟩

/-- Bytes of a row in a block of bytes. -/
def BufAt (w : World) (g : Nat) (b : List Int) : Prop := BytesAt w (some ⟨g, 0, none⟩) b ∧ ∃ cs fr, w.heap[g]? = some (.cells cs 5 fr)
theorem bufAt {w : World} {base g cap N : Nat} {b : List Int} (h : Buf w base g cap N b) (hb : ∀ x ∈ b, 0 ≤ x ∧ x < 256) : BufAt w g b := by
  obtain ⟨_, cs, fr, hcs⟩ := owns_typed h.own g rfl
  exact ⟨h.bytes hb, cs, fr, hcs⟩
theorem BufAt.same {w w' : World} {g : Nat} {b : List Int} (h : BufAt w g b) (hk : w'.heap[g]? = w.heap[g]?) : BufAt w' g b := by
  obtain ⟨⟨h1, h2⟩, cs, fr, hcs⟩ := h
  refine ⟨⟨?_, h2⟩, cs, fr, hk.trans hcs⟩
  rcases h1 with h0 | ⟨ba, off, e, hlt, hc⟩
  · exact .inl h0
  · cases e
    refine .inr ⟨g, 0, rfl, lt_of_block (hk.trans hcs), fun i v hv => ?_⟩
    rw [← hc i v hv]
    simp [World.cell?, hk]
theorem PagesOwn.aside {w w' : World} {B d : Nat} {v : Value} {bs : List Nat} {gs : List (List (List Va))} (h : PagesOwn w B v bs gs) (ha : Aside d d w w') (hd : ∃ cs fr, w.heap[d]? = some (.cells cs 100 fr)) : PagesOwn w' B v bs gs := by
  obtain ⟨h1, h2, h3, h4⟩ := h
  obtain ⟨cs, fr, hd⟩ := hd
  have ht := owns_typed h1
  refine ⟨owns_same h1 (fun k hk => ?_), h2, fun k g p hg hp => ?_, h4⟩
  · obtain ⟨_, cs', fr', hk'⟩ := ht k hk
    have hne : k ≠ d := fun e => by subst e; rw [hd] at hk'; cases hk'
    exact ha.block k hne hne
  · obtain ⟨e1, e2⟩ := h3 k g p hg hp
    have hne : g ≠ d := fun e => by subst e; unfold OwnB at e2; rw [hd] at e2; cases e2
    exact ⟨e1, (ha.block g hne hne).trans e2⟩
theorem PagesOwn.old {w : World} {B : Nat} {v : Value} {bs : List Nat} {gs : List (List (List Va))} (h : PagesOwn w B v bs gs) {k g : Nat} (hk : bs[k]? = some g) : g < w.heap.size := by
  have hl := (List.getElem?_eq_some_iff.1 hk).1
  have h2 := h.2.1
  exact (h.2.2.1 k g _ hk (List.getElem?_eq_getElem (by omega))).2.lt

/-- What holds behind a new page's making, ahead of its append. -/
def Pushed (B d g g0 : Nat) (v : Value) (bs : List Nat) (gs : List (List (List Va))) (b : List Int) (w W : World) (W4 : World) : Prop :=
  PagesOwn W4 B v bs gs ∧ OwnB W4 g (makeP []) ∧ B ≤ g ∧ (∀ k : Nat, bs[k]? ≠ some g) ∧ W4.heap[W.heap.size]? = some (.cells #[pageV g] 25 (0, 0)) ∧ B ≤ W4.heap.size ∧ DraftAt W4 d g 1 ∧ BufAt W4 g0 b ∧ g0 ≠ g ∧ d ≠ g ∧ Below B w W4 ∧ B ≤ d
theorem newPage {w W2 w3 : World} {B d g g0 : Nat} {v : Value} {bs : List Nat} {gs : List (List (List Va))} {b : List Int} (hd : d = w.heap.size) (hB0 : B = w.heap.size) (HP : PagesOwn W2 B v bs gs) (HLa : LastAt W2 d bs gs) (HBf : BufAt W2 g0 b) (HB : Below B w W2) (hg : g = W2.heap.size) (hz : OwnB w3 g zeroP) (hb3 : Below W2.heap.size W2 w3) :
    (∃ x0 x1, w3.heap[d]? = some (.cells #[x0, x1] 100 (0, 0))) ∧ Pushed B d g g0 v bs gs b w w3 (((w3.setCell ⟨d, 0, none⟩ (.slice (some ⟨g, 0, none⟩) 256 256)).setCell ⟨d, 1, none⟩ (.int .i64 1)).alloc (.cells #[.slice (some ⟨g, 0, none⟩) 256 256] 25)) := by
  have hP3 := HP.kept hb3
  have hL3 := HLa.kept hb3
  obtain ⟨⟨cs, hcs, hdb⟩, _⟩ := hL3
  obtain ⟨x0, x1, rfl⟩ : ∃ x0 x1, cs = #[x0, x1] := by
    match cs, hcs with
    | ⟨[x0, x1]⟩, _ => exact ⟨x0, x1, rfl⟩
  refine ⟨⟨x0, x1, hdb⟩, ?_⟩
  have hdg : d ≠ g := fun e => by subst e; unfold OwnB at hz; rw [hdb] at hz; cases hz
  have ha : Aside d d w3 ((w3.setCell ⟨d, 0, none⟩ (.slice (some ⟨g, 0, none⟩) 256 256)).setCell ⟨d, 1, none⟩ (.int .i64 1)) :=
    ⟨rfl, rfl, rfl, by simp [World.setCell], fun k hk _ => (setCell_other _ d 1 k _ hk).trans (setCell_other _ d 0 k _ hk)⟩
  have hdr : DraftAt ((w3.setCell ⟨d, 0, none⟩ (.slice (some ⟨g, 0, none⟩) 256 256)).setCell ⟨d, 1, none⟩ (.int .i64 1)) d g 1 := by
    unfold DraftAt
    simp [World.setCell, Array.getElem?_modify, hdb]
  generalize (w3.setCell ⟨d, 0, none⟩ (.slice (some ⟨g, 0, none⟩) 256 256)).setCell ⟨d, 1, none⟩ (.int .i64 1) = W at ha hdr
  have hf3 : BufAt w3 g0 b := by
    obtain ⟨_, cs, fr, hcs⟩ := id HBf
    exact HBf.same (hb3.block g0 (lt_of_block hcs))
  have hg0 : g0 < W2.heap.size := by obtain ⟨_, cs, fr, hcs⟩ := HBf; exact lt_of_block hcs
  have hfd : g0 ≠ d := fun e => by obtain ⟨_, cs, fr, hcs⟩ := hf3; subst e; rw [hdb] at hcs; cases hcs
  have hs := HB.size
  have hBd : B ≤ d := by omega
  refine ⟨(hP3.aside ha ⟨_, _, hdb⟩).kept (ba W _), ?_, by omega, fun k hk => ?_, ?_, ?_, ((ba W _).block d (lt_of_block hdr)).trans hdr, ?_, by omega, hdg, ?_, hBd⟩
  · have : OwnB W g (makeP []) := by
      rw [make_nil]
      exact (ha.block g (Ne.symm hdg) (Ne.symm hdg)).trans hz
    exact this.kept (ba W _)
  · have := HP.old hk; omega
  · rw [← ha.size]; exact heap_alloc_new W _
  · simp [ha.size]
    have := hb3.size
    omega
  · have h4 := hf3.same (ha.block g0 hfd hfd)
    obtain ⟨_, cs, fr, hcs⟩ := id h4
    exact h4.same ((ba W _).block g0 (lt_of_block hcs))
  · have h5 : Below B w w3 := (HB.trans (hb3.mono (by omega)))
    exact (h5.trans (ha.below hBd hBd)).trans ((ba W _).mono (by have := ha.size; have := hb3.size; omega))
/-- .. and behind it. -/
theorem newPage2 {w W W4 w5 : World} {B d g g0 g' cap : Nat} {v : Value} {bs : List Nat} {gs : List (List (List Va))} {r : List Va} (hQ : Pushed B d g g0 v bs gs (putR r) w W W4) (hp : PushEnd W4 B v bs gs g [] g' cap w5) (hm : mayI r = 0) :
    DraftAt w5 d g ((1 : Nat) : Int) ∧ OwnB w5 g (makeP []) ∧ BytesAt w5 (some ⟨g0, 0, none⟩) (putR r) ∧ g0 ≠ g ∧ d ≠ g ∧
      ∀ w7, OwnB w7 g (putB (makeP []) 0 1 (putR r)) → DraftAt w7 d g ((1 + (1 + sumV r) : Nat) : Int) → Aside g d w5 w7 → PagesOwn w7 B (.slice (some ⟨g', 0, none⟩) (gs.length + 1) cap) (bs ++ [g]) (gs ++ [[r]]) ∧ LastAt w7 d (bs ++ [g]) (gs ++ [[r]]) ∧ Below B w w7 := by
  obtain ⟨q1, q2, q3, q4, q5, q6, q7, q8, q9, q10, q11, q12⟩ := hQ
  obtain ⟨hp5, hgr, hk5⟩ := hp
  have hd5 : DraftAt w5 d g ((1 : Nat) : Int) := (hk5 d _ _ _ q7 (by decide)).trans q7
  refine ⟨hd5, (hk5 g _ _ _ q2 (by decide)).trans q2, ?_, q9, q10, fun w7 hO hD hA => ?_⟩
  · obtain ⟨_, cs, fr, hcs⟩ := id q8
    exact (q8.same (hk5 g0 _ _ _ hcs (by decide))).1
  · have hfit := fits_one hm
    have e := put_make (rs := []) hfit
    rw [show putB (makeP []) [].length (1 + lenP []) (putR r) = putB (makeP []) 0 1 (putR r) from rfl] at e
    rw [e] at hO
    refine ⟨hp5.put hO hA ⟨_, _, hd5⟩, LastAt.of (p := [r]) hD (by rw [show lenP [r] = sizeR r by simp [lenP, bodyP, sizeR_len]]; unfold sizeR; rfl), ?_⟩
    have h6 : Below B w w5 := q11.grown hgr q6 (fun k hk => (owns_typed q1.1 k hk).1)
    exact h6.trans (hA.below q3 q12)

def FillEnd (w : World) (rs : List (List Va)) (e : Ending) (w' : World) : Prop :=
  Below w.heap.size w w' ∧ if badP rs = 0 then ∃ A c, e = .returned (.tuple #[.slice A (fillP rs).length c, .int .i64 0]) ∧ PagesAt w' A ((fillP rs).map makeP) ∧ (A = none → c = 0)
    else e = .returned (.tuple #[.slice none 0 0, .int .i64 (badP rs)])

set_option maxRecDepth 100000 in
set_option maxHeartbeats 1000000 in
theorem fill_any (A : Option Addr) (c L : Nat) (rs : List (List Va)) (w : World) (h : RowsAt w A rs) (hL : rs.length = L) (hl : L ≤ 600) (hf : ∀ r ∈ rs, Fine r) (hk : ∀ r ∈ rs, r.length ≤ 9223372036854775807) :
    Calls Try.prog 30 #[.slice A L c] w (FillEnd w rs) := by
  have HR := Lib.hid h
  have HL := Lib.hid hL
  have HF := Lib.hid hf
  have HK := Lib.hid hk
  clear h hL hf hk
  go_enter Try.func30, Try.ntmps30
  go_wp2_with fail
  obtain ⟨d, hd⟩ : ∃ d, d = w.heap.size := ⟨_, rfl⟩
  rw [← hd]
  go_loopw [4, 12] (fun v i wr => ∃ (j : Nat) (bs : List Nat) (gs : List (List (List Va))), j ≤ L ∧ i = .int .i64 j ∧ gs.length ≤ j ∧ Hid (PagesOwn wr w.heap.size v bs gs) ∧ Hid (LastAt wr d bs gs) ∧ Hid (gs = fillP (rs.take j)) ∧ Hid (badP (rs.take j) = 0) ∧ Hid (Below w.heap.size w wr)) (fun _ i _ => L - (intOf i).toNat)
  case atStart => exact ⟨0, [], [], Nat.zero_le _, rfl, Nat.le_refl _, Lib.hid (PagesOwn.nil _ _), Lib.hid ⟨⟨_, rfl, by rw [hd]; exact heap_alloc_new w _⟩, .inl rfl⟩, Lib.hid rfl, Lib.hid rfl, Lib.hid (ba w _)⟩
  case round =>
    obtain ⟨j, bs, gs, hj, rfl, hgl, HP, HLa, HG, HBd, HB⟩ := hrel
    have HD := Lib.hid hd
    clear hd
    by_cases hlt : j < L
    · have hlt' : j < rs.length := by rw [HL.out]; exact hlt
      obtain ⟨b, off, rfl, A', c', c0, hr⟩ := (HR.out.kept HB.out).cellAt hlt'
      have hfj := HF.out rs[j] (List.getElem_mem hlt')
      have hkj := HK.out rs[j] (List.getElem_mem hlt')
      have HN := Lib.hid (fillP_take rs j hlt')
      have HN2 := Lib.hid (badP_snoc (rs.take j) rs[j] HBd.out)
      rw [← List.take_succ_eq_append_getElem hlt'] at HN2
      have HN3 := Lib.hid (badP_at hlt' HBd.out)
      have hji : (j : Int) < (L : Int) := by omega
      generalize rs[j] = r at c0 hr hfj hkj HN HN2 HN3
      have HRj := Lib.hid hr
      clear hr
      by_cases hm : mayI r = 0
      · have HC := Lib.hid (fun W hW => rowBytes_good A' c' r W hW hfj hkj hm)
        obtain ⟨hok, hw⟩ := mayI_ok hm
        have HPL := Lib.hid (putR_len r)
        have HY := Lib.hid (putR_byte r hok)
        by_cases h0 : j = 0
        · have hj0 : ((j : Int) == 0) = true := by simp [h0]
          obtain rfl : gs = [] := List.eq_nil_of_length_eq_zero (by omega)
          clear h0
          go_wp2_with fail
          refine (HC.out _ HRj.out).mono ?_
          rintro e W2 ⟨g0, rfl, hbuf, hb2⟩
          have HBf := Lib.hid (show BufAt W2 g0 (putR r) from bufAt hbuf HY.out)
          have HP := Lib.hid (HP.out.kept hb2)
          have HLa := Lib.hid (HLa.out.kept hb2)
          have HB := Lib.hid (bt HB.out hb2)
          clear hbuf hb2 HRj c0
          go_wp2_with fail
          refine (pageNew_any _).mono ?_
          rintro e w3 ⟨g, rfl, hg, hz, hb3⟩
          subst hg
          obtain ⟨g, hg⟩ : ∃ g, g = W2.heap.size := ⟨_, rfl⟩
          rw [← hg] at hz ⊢
          have HX := Lib.hid (newPage HD.out rfl HP.out HLa.out HBf.out HB.out hg hz hb3)
          clear HP HLa HBf HB hz hb3 hg
          obtain ⟨⟨x0, x1, hdb⟩, hrest⟩ := HX.out
          have d0 : w3.cell? ⟨d, 0, none⟩ = some x0 := by simp [World.cell?, hdb]
          have d1 : w3.cell? ⟨d, 1, none⟩ = some x1 := by simp [World.cell?, hdb]
          have f0 : w3.frozen? ⟨d, 0, none⟩ = false := by simp [World.frozen?, hdb]
          have f1 : w3.frozen? ⟨d, 1, none⟩ = false := by simp [World.frozen?, hdb]
          have HQ := Lib.hid hrest
          clear hdb hrest HX
          go_wp2_with (at_builtin; refine wpList_pushP rfl (.tmp 34) (.tmp 37) rfl u4 bs [] g [] _ w.heap.size w3.heap.size rfl rfl HQ.out.1 HQ.out.2.1 HQ.out.2.2.1 HQ.out.2.2.2.1 HQ.out.2.2.2.2.1 ?c1 ?c2 ?_)
          case c1 => exact HQ.out.2.2.2.2.2.1
          case c2 => omega
          intro g' cap w5 hp5
          have HY5 := Lib.hid (newPage2 HQ.out hp5 hm)
          clear HQ hp5 d0 d1 f0 f1
          go_wp2_with fail
          refine (put_any d g 1 (makeP []) (some ⟨g0, 0, none⟩) (putR r) (1 + sumV r) (1 + sumV r) 0 w5 HY5.out.1 HY5.out.2.1 rfl rfl (by omega) HY5.out.2.2.1 (fun a ha => by cases ha; exact HY5.out.2.2.2.1) HPL.out (by omega) (by omega) (by omega) HY5.out.2.2.2.2.1).mono ?_
          rintro e w7 ⟨rfl, hO, hD, hAs⟩
          have HZ := Lib.hid (HY5.out.2.2.2.2.2 w7 hO hD hAs)
          clear HY5 hO hD hAs
          go_wp2_with fail
          go_roundw
          case rel => exact ⟨j + 1, bs ++ [g], [] ++ [[r]], by omega, by go_num, by simp, Lib.hid HZ.out.1, Lib.hid HZ.out.2.1, Lib.hid (by rw [HN.out, ← HG.out]; rfl), Lib.hid (by rw [HN2.out]; exact hm), Lib.hid HZ.out.2.2⟩
          case measure => simp [intOf]; omega
        · have hj0 : ((j : Int) == 0) = false := by simp [h0]
          have hne : gs ≠ [] := by
            rw [HG.out]
            obtain ⟨j', rfl⟩ : ∃ j', j = j' + 1 := ⟨j - 1, by omega⟩
            rw [fillP_take rs j' (by omega)]
            exact addG_ne _ _
          have HGd := Lib.hid (fillP_good (badP_zero HBd.out)).1
          rw [← HG.out] at HGd
          go_wp2_with fail
          refine (HC.out _ HRj.out).mono ?_
          rintro e w2 ⟨g0, rfl, hbuf, hb2⟩
          have hg0 := hbuf.lt.1
          have HBf := Lib.hid (show BufAt w2 g0 (putR r) from bufAt hbuf HY.out)
          have HPo := Lib.hid HP.out
          have HP := Lib.hid (HP.out.kept hb2)
          have HLa := Lib.hid (HLa.out.kept hb2)
          have HB := Lib.hid (bt HB.out hb2)
          clear hbuf hb2 HRj c0
          obtain ⟨⟨xs, hxs, hxd⟩, hla⟩ := HLa.out
          obtain ⟨bs0, g, gs0, p, rfl, rfl, hdr⟩ := hla.resolve_left hne
          obtain ⟨hBg, hOw⟩ := HP.out.last
          have hgo : g < wr.heap.size := HPo.out.last.2.lt
          obtain ⟨hfp, hokp, _⟩ := HGd.out p (by simp)
          obtain ⟨_, hfp2, hfp3⟩ := fitsP_parts hfp
          have HFit := Lib.hid (fits_snoc (r := r) hfp)
          have hml := makeP_len hfp
          have hmh := makeP_head p
          have HDr := Lib.hid hdr
          have HOw := Lib.hid hOw
          have HML := Lib.hid hml
          have HMH := Lib.hid hmh
          have HXd := Lib.hid (show ∃ cs fr, w2.heap[d]? = some (.cells cs 100 fr) from ⟨_, _, hxd⟩)
          have hdg : d ≠ g := fun e => by subst e; unfold OwnB at hOw; unfold DraftAt at hdr; rw [hdr] at hOw; cases hOw
          clear hdr hOw hml hmh hxs hxd hla hne
          go_wp2_with fail
          refine (fits_any d g (1 + lenP p) (makeP p) _ _ _ p.length w2 HDr.out HOw.out HML.out HMH.out (by omega) (by omega)).mono ?_
          rintro e w6 ⟨rfl, q, rfl⟩
          have HRoom := Lib.hid (show fitsP (p ++ [r]) = decide (((1 + sumV r : Nat) : Int) ≤ roomI p.length ((1 + lenP p : Nat) : Int)) from HFit.out)
          by_cases hroom : ((1 + sumV r : Nat) : Int) ≤ roomI p.length ((1 + lenP p : Nat) : Int)
          · simp only [decide_eq_true hroom]
            have HFn := Lib.hid (show fitsP (p ++ [r]) = true by rw [HRoom.out]; simpa using hroom)
            have hfit2 : (1 + lenP p) + (1 + sumV r) ≤ 254 - 2 * p.length := by unfold roomI at hroom; omega
            have HPUT := Lib.hid (put_any d g (1 + lenP p) (makeP p) (some ⟨g0, 0, none⟩) (putR r) (1 + sumV r) (1 + sumV r) p.length (w2.drewN q) HDr.out HOw.out HML.out HMH.out (by omega) HBf.out.1 (fun a ha => by cases ha; show g0 ≠ g; omega) HPL.out (by omega) (by omega) hfit2 hdg)
            have HBq := Lib.hid (show Below w.heap.size w (w2.drewN q) from ⟨HB.out.os, HB.out.tape, HB.out.output, HB.out.size, HB.out.block⟩)
            have HPq := Lib.hid (show PagesOwn (w2.drewN q) w.heap.size u4 (bs0 ++ [g]) (gs0 ++ [p]) from HP.out)
            have HDd := Lib.hid HD.out
            go_wp2_with fail
            refine HPUT.out.mono ?_
            rintro e w7 ⟨rfl, hO, hD, hAs⟩
            rw [put_make HFn.out] at hO
            have HZ1 := Lib.hid (HPq.out.put hO hAs HXd.out)
            have HZ2 := Lib.hid (show LastAt w7 d (bs0 ++ [g]) (gs0 ++ [p ++ [r]]) from LastAt.of hD (by rw [lenP_snoc]; unfold sizeR; omega))
            have HZ3 := Lib.hid (HBq.out.trans (hAs.below hBg (by rw [HDd.out]; exact Nat.le_refl _)))
            clear hO hD hAs
            go_wp2_with fail
            go_roundw
            case rel => exact ⟨j + 1, bs0 ++ [g], gs0 ++ [p ++ [r]], by omega, by go_num, by simp at hgl ⊢; omega, HZ1, HZ2, Lib.hid (by rw [HN.out, ← HG.out, addG_in HFn.out]), Lib.hid (by rw [HN2.out]; exact hm), HZ3⟩
            case measure => simp [intOf]; omega
          · simp only [decide_eq_false hroom]
            have HFn := Lib.hid (show fitsP (p ++ [r]) = false by rw [HRoom.out]; simpa using hroom)
            have HBf := Lib.hid (show BufAt (w2.drewN q) g0 (putR r) from HBf.out)
            have HP := Lib.hid (show PagesOwn (w2.drewN q) w.heap.size u4 (bs0 ++ [g]) (gs0 ++ [p]) from HP.out)
            have HLa := Lib.hid (show LastAt (w2.drewN q) d (bs0 ++ [g]) (gs0 ++ [p]) from HLa.out)
            have HB := Lib.hid (show Below w.heap.size w (w2.drewN q) from ⟨HB.out.os, HB.out.tape, HB.out.output, HB.out.size, HB.out.block⟩)
            generalize w2.drewN q = W2 at HBf HP HLa HB ⊢
            generalize bs0 ++ [g] = bs at HP HLa
            have HAd := Lib.hid (addG_new (gs := gs0) HFn.out)
            have HG := Lib.hid HG.out
            generalize gs0 ++ [p] = gs at HP HLa HAd hgl HG
            clear hdg hgo hBg HDr HOw HXd HPo
            go_wp2_with fail
            refine (pageNew_any _).mono ?_
            rintro e w3 ⟨g, rfl, hg, hz, hb3⟩
            subst hg
            obtain ⟨g, hg⟩ : ∃ g, g = W2.heap.size := ⟨_, rfl⟩
            rw [← hg] at hz ⊢
            have HX := Lib.hid (newPage HD.out rfl HP.out HLa.out HBf.out HB.out hg hz hb3)
            clear HP HLa HBf HB hz hb3 hg
            obtain ⟨⟨x0, x1, hdb⟩, hrest⟩ := HX.out
            have d0 : w3.cell? ⟨d, 0, none⟩ = some x0 := by simp [World.cell?, hdb]
            have d1 : w3.cell? ⟨d, 1, none⟩ = some x1 := by simp [World.cell?, hdb]
            have f0 : w3.frozen? ⟨d, 0, none⟩ = false := by simp [World.frozen?, hdb]
            have f1 : w3.frozen? ⟨d, 1, none⟩ = false := by simp [World.frozen?, hdb]
            have HQ := Lib.hid hrest
            clear hdb hrest HX
            go_wp2_with (at_builtin; refine wpList_pushP rfl (.tmp 34) (.tmp 37) rfl u4 bs gs g [] _ w.heap.size w3.heap.size rfl rfl HQ.out.1 HQ.out.2.1 HQ.out.2.2.1 HQ.out.2.2.2.1 HQ.out.2.2.2.2.1 ?c1 ?c2 ?_)
            case c1 => exact HQ.out.2.2.2.2.2.1
            case c2 => omega
            intro g' cap w5 hp5
            have HY5 := Lib.hid (newPage2 HQ.out hp5 hm)
            clear HQ hp5 d0 d1 f0 f1
            go_wp2_with fail
            refine (put_any d g 1 (makeP []) (some ⟨g0, 0, none⟩) (putR r) (1 + sumV r) (1 + sumV r) 0 w5 HY5.out.1 HY5.out.2.1 rfl rfl (by omega) HY5.out.2.2.1 (fun a ha => by cases ha; exact HY5.out.2.2.2.1) HPL.out (by omega) (by omega) (by omega) HY5.out.2.2.2.2.1).mono ?_
            rintro e w7 ⟨rfl, hO, hD, hAs⟩
            have HZ := Lib.hid (HY5.out.2.2.2.2.2 w7 hO hD hAs)
            clear HY5 hO hD hAs
            go_wp2_with fail
            go_roundw
            case rel => exact ⟨j + 1, bs ++ [g], gs ++ [[r]], by omega, by go_num, by simp; omega, Lib.hid HZ.out.1, Lib.hid HZ.out.2.1, Lib.hid (by rw [HN.out, ← HG.out]; exact HAd.out.symm), Lib.hid (by rw [HN2.out]; exact hm), Lib.hid HZ.out.2.2⟩
            case measure => simp [intOf]; omega
      · have HC := Lib.hid (fun W hW => rowBytes_bad A' c' r W hW hfj hkj hm)
        have hm' : (mayI r != 0) = true := by simpa using hm
        have HE := Lib.hid (HN3.out hm)
        have HM := Lib.hid hm
        clear hm
        generalize mayI r = m at HC hm' HE HM
        go_wp2_with fail
        refine (HC.out _ HRj.out).mono ?_
        rintro e w2 ⟨rfl, hb2⟩
        go_wp2_with fail
        go_ret2
        refine ⟨bt HB.out hb2, ?_⟩
        rw [HE.out, if_neg HM.out]
        rfl
    · have hjL : j = L := by omega
      have HGd := Lib.hid (fillP_good (badP_zero HBd.out)).1
      rw [← HG.out] at HGd
      obtain ⟨A9, c9, rfl, hp9, hA9⟩ := pages_end HP.out HGd.out
      have HT := Lib.hid (List.take_of_length_le (l := rs) (i := j) (by rw [HL.out]; omega))
      have HP9 := Lib.hid hp9
      have HA9 := Lib.hid hA9
      clear hp9 hA9
      go_wp2_with fail
      go_ret2
      refine ⟨HB.out, ?_⟩
      have hb0 := HBd.out
      have hg0 := HG.out
      rw [HT.out] at hb0 hg0
      rw [if_pos hb0, ← hg0]
      exact ⟨A9, c9, rfl, HP9.out, HA9.out⟩
end Go.Proofs.Ytdjhoiamongdaaa
