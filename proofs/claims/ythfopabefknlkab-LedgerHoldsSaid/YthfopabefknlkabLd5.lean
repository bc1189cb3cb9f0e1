/-
  Package ledger: each with under's closure; under.
-/
import Derived.Test.YthfopabefknlkabLd4
namespace Go.Proofs.Ythfopabefknlkab
open Go.RowKit Go.Maps

/-- Accounts as they may be. -/
structure Sane (L : List Ac) : Prop where
  len : L.length ≤ 1000
  num : ∀ a ∈ L, 0 ≤ a.n ∧ a.n ≤ 1000000
  gr : ∀ a ∈ L, 0 ≤ a.g ∧ a.g ≤ 16384
  he : ∀ a ∈ L, 0 ≤ a.h ∧ a.h ≤ 16384
theorem tot_bound (f : Ac → Int) (M : Nat) (L : List Ac) (left : Int → Bool) (h : ∀ a ∈ L, 0 ≤ f a ∧ f a ≤ M) : 0 ≤ tot f L left ∧ tot f L left ≤ (M * L.length : Nat) := by
  induction L with
  | nil => exact ⟨Int.le_refl _, by simp [tot]⟩
  | cons a L ih =>
    obtain ⟨h1, h2⟩ := ih (fun b hb => h b (by simp [hb]))
    obtain ⟨h3, h4⟩ := h a (by simp)
    rw [tot_cons, List.length_cons, Nat.mul_succ]
    split <;> constructor <;> push_cast at * <;> omega
theorem cntU_bound (n : Int) (a : Ac) : 0 ≤ cntU n a ∧ cntU n a ≤ (1 : Nat) := by unfold cntU; split <;> omega
theorem sumU_bound {L : List Ac} (hs : Sane L) (n : Int) : ∀ a ∈ L, 0 ≤ sumU n a ∧ sumU n a ≤ (16384 : Nat) := fun a ha => by
  obtain ⟨h1, h2⟩ := hs.gr a ha
  unfold sumU; split <;> omega
theorem LedAt.aloof {w w' : World} {l m bc bg : Nat} {L : List Ac} {last most c t : Int} (h : LedAt w l m L last most) (hc : BoxI w bc c) (hg : BoxI w bg t) (ha : Aloof bc bg w w') : LedAt w' l m L last most := by
  have hb := h.box
  unfold BoxI at hc hg
  have e1 : l ≠ bc := fun e => by subst e; rw [hb] at hc; cases hc
  have e2 : l ≠ bg := fun e => by subst e; rw [hb] at hg; cases hg
  have hm := h.map
  obtain ⟨D, ⟨es, clock, hmb, _⟩, _⟩ := id hm
  have e3 : m ≠ bc := fun e => by subst e; rw [hmb] at hc; cases hc
  have e4 : m ≠ bg := fun e => by subst e; rw [hmb] at hg; cases hg
  refine ⟨(ha.block l (block_lt hb) e1 e2).trans hb, hm.kept (ha.block m hm.lt e3 e4), fun a hal => ?_, h.nums, h.blks⟩
  have hab := h.acs a hal
  unfold AcAt at hab ⊢
  have e5 : a.b ≠ bc := fun e => by rw [e, hc] at hab; cases hab
  have e6 : a.b ≠ bg := fun e => by rw [e, hg] at hab; cases hab
  exact (ha.block a.b (block_lt hab) e5 e6).trans hab

set_option maxRecDepth 100000 in
set_option maxHeartbeats 2000000 in
theorem eachU_any (l m : Nat) (L : List Ac) (last most n : Int) (bn bc bg : Nat) (w : World) (h : LedAt w l m L last most) (hs : Sane L) (hn : BoxI w bn n) (hc : BoxI w bc 0) (hg : BoxI w bg 0) (h1 : bn ≠ bc) (h2 : bn ≠ bg) (h3 : bc ≠ bg) :
    Calls Try.prog 38 #[.pointer (some ⟨l, 0, none⟩), .func (.func 49) #[] #[.pointer (some ⟨bn, 0, none⟩), .pointer (some ⟨bc, 0, none⟩), .pointer (some ⟨bg, 0, none⟩)]] w fun e w' => e = .returned (.tuple #[]) ∧ BoxI w' bc (L.map (cntU n)).sum ∧ BoxI w' bg (L.map (sumU n)).sum ∧ Aloof bc bg w w' := by
  have c0 := h.c0
  have HC := Lib.hid (closed_no l m w c0)
  have HL := Lib.hid h
  have HS := Lib.hid hs
  have HN := Lib.hid hn
  have HBc := Lib.hid hc
  have HBg := Lib.hid hg
  clear h hs hn hc hg
  go_enter Try.func38, Try.ntmps38
  go_wp2_with fail
  refine HC.out.mono ?_
  rintro e w1 ⟨rfl, rfl⟩
  go_wp2_with (at_range; refine wpList_rangeA rfl _ rfl m L w rfl HL.out.map ?_; intro w0 hrg0 hg0 hs0)
  go_frame
  have HR0 := Lib.hid hrg0
  have HA0 := Lib.hid (show Aloof bc bg w w0 from ⟨hg0.os, hg0.tape, hg0.output, hg0.size, fun k hk _ _ => hg0.block k hk (by simp)⟩)
  have lc := block_lt HBc.out
  have lg := block_lt HBg.out
  have ln := block_lt HN.out
  have HC0 := Lib.hid (HBc.out.kept (hg0.block bc lc (by simp)))
  have HG0 := Lib.hid (HBg.out.kept (hg0.block bg lg (by simp)))
  have HN0 := Lib.hid (HN.out.kept (hg0.block bn ln (by simp)))
  obtain ⟨R, hR⟩ : ∃ R, R = w.heap.size := ⟨_, rfl⟩
  rw [← hR] at HR0 ⊢
  have HRr := Lib.hid hR
  clear hrg0 hg0 hs0 hR c0
  go_loopw [4] (fun _ wr => ∃ (left : Int → Bool) (cnt : Nat) (c t : Int), Hid (RangeOf wr m R L left cnt) ∧ Hid (c = tot (cntU n) L left) ∧ Hid (t = tot (sumU n) L left) ∧ Hid (BoxI wr bc c) ∧ Hid (BoxI wr bg t) ∧ Hid (BoxI wr bn n) ∧ Hid (Aloof bc bg w wr)) (fun _ wr => wr.rangeLeft m R)
  case atStart => exact ⟨_, _, 0, 0, HR0, Lib.hid (tot_start _ _).symm, Lib.hid (tot_start _ _).symm, HC0, HG0, HN0, HA0⟩
  case round =>
    obtain ⟨left, cnt, c, t, HR, HCe, HTe, HBc1, HBg1, HN1, HA⟩ := hrel
    clear HR0 HC0 HG0 HN0 HA0
    go_wp2_with (at_next; refine wpList_nextA rfl _ rfl m R L left cnt _ rfl HR.out ?_ ?_)
    · intro hl0
      have hc1 := HCe.out
      have ht1 := HTe.out
      rw [tot_end _ _ _ hl0] at hc1 ht1
      have HX := Lib.hid (show BoxI wr bc (L.map (cntU n)).sum by rw [← hc1]; exact HBc1.out)
      have HY := Lib.hid (show BoxI wr bg (L.map (sumU n)).sum by rw [← ht1]; exact HBg1.out)
      clear hc1 ht1 hl0
      go_wp2_with fail
      go_end0
      exact ⟨rfl, HX.out, HY.out, HA.out⟩
    · intro x w1 cnt1 hx hlx hrg1 hlt1 hg1 hs1 hen
      obtain ⟨hxm, _⟩ := acOf_mem hx
      have hcb := tot_bound (cntU n) 1 L left (fun a _ => cntU_bound n a)
      have htb := tot_bound (sumU n) 16384 L left (sumU_bound HS.out n)
      rw [← HCe.out] at hcb
      rw [← HTe.out] at htb
      have hlen := HS.out.len
      obtain ⟨hxg0, hxg1⟩ := HS.out.gr x hxm
      have HCn := Lib.hid (show c + cntU n x = tot (cntU n) L (fun k => left k && k != x.n) by rw [HCe.out, tot_step _ _ _ _ hx hlx HL.out.nums])
      have HTn := Lib.hid (show t + sumU n x = tot (sumU n) L (fun k => left k && k != x.n) by rw [HTe.out, tot_step _ _ _ _ hx hlx HL.out.nums])
      have hRs := HRr.out
      have hwr := HA.out.size
      have HA1 := Lib.hid (show Aloof bc bg w w1 from ⟨hg1.os.trans HA.out.os, hg1.tape.trans HA.out.tape, hg1.output.trans HA.out.output, Nat.le_trans HA.out.size hg1.size, fun k hk hb hc => (hg1.block k (by omega) (by simp; omega)).trans (HA.out.block k hk hb hc)⟩)
      have HBc2 := Lib.hid (HBc1.out.kept (hg1.block bc (by omega) (by simp; omega)))
      have HBg2 := Lib.hid (HBg1.out.kept (hg1.block bg (by omega) (by simp; omega)))
      have HN2 := Lib.hid (HN1.out.kept (hg1.block bn (by omega) (by simp; omega)))
      have HL1 := Lib.hid (HL.out.aloof HBc.out HBg.out HA1.out)
      have hab := HL1.out.acs x hxm
      unfold AcAt at hab
      have x0 : w1.cell? ⟨x.b, 0, none⟩ = some (.int .i64 x.u) := by simp only [World.cell?, hab]; rfl
      have x1 : w1.cell? ⟨x.b, 1, none⟩ = some (.int .i64 x.g) := by simp only [World.cell?, hab]; rfl
      have x2 : w1.cell? ⟨x.b, 2, none⟩ = some (.int .i64 x.h) := by simp only [World.cell?, hab]; rfl
      have x3 : w1.cell? ⟨x.b, 3, none⟩ = some (.int .i64 x.p) := by simp only [World.cell?, hab]; rfl
      have HRg := Lib.hid hrg1
      have HLt := Lib.hid hlt1
      have hU := under1_any x n c t bn bc bg w1 HN2.out HBc2.out HBg2.out h1 h2 h3 hcb.1 (by omega) htb.1 (by omega) hxg0 (by omega)
      have HU := Lib.hid hU
      have hmm := HL1.out.map
      have HMb := Lib.hid (show m ≠ bc ∧ m ≠ bg ∧ R ≠ bc ∧ R ≠ bg from by
        obtain ⟨D, ⟨es, clock, hmb, _⟩, _⟩ := hmm
        have hc := HBc2.out
        have hg := HBg2.out
        unfold BoxI at hc hg
        exact ⟨fun e => (by subst e; rw [hmb] at hc; cases hc), fun e => (by subst e; rw [hmb] at hg; cases hg), by omega, by omega⟩)
      clear hx hlx hxm hcb htb hlen hxg0 hxg1 hRs hwr hab hrg1 hlt1 hg1 hs1 hU hmm HCe HTe
      go_wp2_with fail
      refine HU.out.mono ?_
      rintro e w2 ⟨rfl, hc2, hg2, hn2, ha2⟩
      have HRg2 := Lib.hid (HRg.out.kept (ha2.block m HRg.out.lt.1 HMb.out.1 HMb.out.2.1) (ha2.block R HRg.out.lt.2.1 HMb.out.2.2.1 HMb.out.2.2.2))
      have HA2 := Lib.hid (HA1.out.trans ha2)
      have HX := Lib.hid hc2
      have HY := Lib.hid hg2
      have HZ := Lib.hid hn2
      clear hc2 hg2 hn2 ha2 hen x0 x1 x2 x3
      go_wp2_with fail
      go_roundw
      case rel => exact ⟨_, cnt1, c + cntU n x, t + sumU n x, HRg2, HCn, HTn, HX, HY, HZ, HA2⟩
      case measure => rw [HRg2.out.left_eq, HR.out.left_eq]; exact HLt.out
/-- How many are right under n, and their grants together. -/
def cntN (L : List Ac) (n : Int) : Int := (L.map (cntU n)).sum
def sumN (L : List Ac) (n : Int) : Int := (L.map (sumU n)).sum
set_option maxRecDepth 100000 in
set_option maxHeartbeats 2000000 in
theorem under_any (l m : Nat) (L : List Ac) (last most n : Int) (w : World) (h : LedAt w l m L last most) (hs : Sane L) :
    Calls Try.prog 37 #[.pointer (some ⟨l, 0, none⟩), .int .i64 n] w fun e w' => e = .returned (.tuple #[.int .i64 (cntN L n), .int .i64 (sumN L n)]) ∧ Below w.heap.size w w' := by
  have n1 := MapKept.heap_alloc w (.cells #[.int .i64 n] 3)
  have n2 := MapKept.heap_alloc (w.alloc (.cells #[.int .i64 n] 3)) (.cells #[.int .i64 0] 3)
  have n3 := MapKept.heap_alloc ((w.alloc (.cells #[.int .i64 n] 3)).alloc (.cells #[.int .i64 0] 3)) (.cells #[.int .i64 0] 3)
  have hb3 : Below w.heap.size w (((w.alloc (.cells #[.int .i64 n] 3)).alloc (.cells #[.int .i64 0] 3)).alloc (.cells #[.int .i64 0] 3)) := bt (ba2 w _ _) (ba _ _)
  have HL := Lib.hid (h.kept hb3)
  have HS := Lib.hid hs
  simp only [World.size_alloc] at n2 n3
  have HN := Lib.hid (show BoxI (((w.alloc (.cells #[.int .i64 n] 3)).alloc (.cells #[.int .i64 0] 3)).alloc (.cells #[.int .i64 0] 3)) w.heap.size n from (n3.2 _ (by omega)).trans ((n2.2 _ (by omega)).trans n1.1))
  have HC := Lib.hid (show BoxI (((w.alloc (.cells #[.int .i64 n] 3)).alloc (.cells #[.int .i64 0] 3)).alloc (.cells #[.int .i64 0] 3)) (w.heap.size + 1) 0 from (n3.2 _ (by omega)).trans n2.1)
  have HG := Lib.hid (show BoxI (((w.alloc (.cells #[.int .i64 n] 3)).alloc (.cells #[.int .i64 0] 3)).alloc (.cells #[.int .i64 0] 3)) (w.heap.size + 1 + 1) 0 from n3.1)
  have HB := Lib.hid hb3
  clear n1 n2 n3 hb3 h hs
  go_enter Try.func37, Try.ntmps37
  go_wp2_with fail
  generalize ((w.alloc (.cells #[.int .i64 n] 3)).alloc (.cells #[.int .i64 0] 3)).alloc (.cells #[.int .i64 0] 3) = W at HL HN HC HG HB ⊢
  refine (eachU_any l m L last most n w.heap.size (w.heap.size + 1) (w.heap.size + 1 + 1) W HL.out HS.out HN.out HC.out HG.out (by omega) (by omega) (by omega)).mono ?_
  rintro e w2 ⟨rfl, hc, hg, ha⟩
  obtain ⟨B, hB⟩ : ∃ B, B = w.heap.size := ⟨_, rfl⟩
  rw [← hB] at hc hg ha ⊢
  have hwb : B ≤ W.heap.size := by rw [hB]; exact HB.out.size
  have HB2 := Lib.hid (show Below B w w2 by rw [← hB] at HB; exact HB.out.trans (ha.below (by omega) (by omega) hwb))
  obtain ⟨cn, hcn⟩ : ∃ x, x = cntN L n := ⟨_, rfl⟩
  obtain ⟨sn, hsn⟩ : ∃ x, x = sumN L n := ⟨_, rfl⟩
  have HX := Lib.hid (show BoxI w2 (B + 1) cn by rw [hcn]; exact hc)
  have HY := Lib.hid (show BoxI w2 (B + 1 + 1) sn by rw [hsn]; exact hg)
  have HCn := Lib.hid hcn
  have HSn := Lib.hid hsn
  clear hcn hsn
  have x0 := HX.out.cell
  have x1 := HX.out.free
  have y0 := HY.out.cell
  have y1 := HY.out.free
  have HBe := Lib.hid hB
  clear hc hg ha hB hwb HL HN HC HG HB
  have hne1 : B + 1 ≠ B + 1 + 1 := by omega
  go_wp2_with fail
  go_region
  have hx9 : BoxI ((w2.setCell ⟨B + 1, 0, none⟩ (.int .i64 cn)).setCell ⟨B + 1 + 1, 0, none⟩ (.int .i64 sn)).drew (B + 1) cn := (HX.out.set cn).other hne1 _
  have hy9 : BoxI ((w2.setCell ⟨B + 1, 0, none⟩ (.int .i64 cn)).setCell ⟨B + 1 + 1, 0, none⟩ (.int .i64 sn)).drew (B + 1 + 1) sn := (HY.out.other (Ne.symm hne1) _).set sn
  have HB9 := Lib.hid (show Below B w ((w2.setCell ⟨B + 1, 0, none⟩ (.int .i64 cn)).setCell ⟨B + 1 + 1, 0, none⟩ (.int .i64 sn)).drew from ((HB2.out.setCell (by simp) _).setCell (by simp; omega) _).drew)
  generalize ((w2.setCell ⟨B + 1, 0, none⟩ (.int .i64 cn)).setCell ⟨B + 1 + 1, 0, none⟩ (.int .i64 sn)).drew = W9 at hx9 hy9 HB9 ⊢
  have X9 := hx9.cell
  have Y9 := hy9.cell
  clear hx9 hy9 x0 x1 y0 y1 HX HY HB2
  go_wp2_with fail
  refine bodyPost_ret (v := .tuple #[.int .i64 cn, .int .i64 sn]) (by simp [results, Try.results37, go_sem, X9, Y9]) rfl ⟨by rw [HCn.out, HSn.out], ?_⟩
  rw [← HBe.out]
  exact HB9.out
end Go.Proofs.Ythfopabefknlkab
