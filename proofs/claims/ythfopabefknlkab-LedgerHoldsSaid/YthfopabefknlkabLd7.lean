/-
  Package ledger: each with Total's closure; Total.
-/
import Derived.Test.YthfopabefknlkabLd6
import Derived.Deep.CutRange
namespace Go.Proofs.Ythfopabefknlkab
open Go.RowKit Go.Maps

set_option maxRecDepth 100000 in
set_option maxHeartbeats 1000000 in
theorem total1_any (a : Ac) (c : Int) (bc : Nat) (w : World) (hc : BoxI w bc c) (c0 : 0 ≤ c) (c1 : c ≤ 1000000000000) (g0 : 0 ≤ a.h) (g1 : a.h ≤ 1000000) :
    Calls Try.prog 41 #[.int .i64 a.n, .agg #[.int .i64 a.u, .int .i64 a.g, .int .i64 a.h, .int .i64 a.p], .pointer (some ⟨bc, 0, none⟩)] w fun e w' => e = .returned (.tuple #[]) ∧ BoxI w' bc (c + a.h) ∧ Aloof bc bc w w' := by
  have lc := block_lt hc
  have HC := Lib.hid (hc.kept ((ba w (.cells #[.int .i64 a.u, .int .i64 a.g, .int .i64 a.h, .int .i64 a.p] 65)).block bc lc))
  have hbx : (w.alloc (.cells #[.int .i64 a.u, .int .i64 a.g, .int .i64 a.h, .int .i64 a.p] 65)).heap[w.heap.size]? = some (.cells #[.int .i64 a.u, .int .i64 a.g, .int .i64 a.h, .int .i64 a.p] 65 (0, 0)) := MapKept.heap_alloc w _ |>.1
  have HA := Lib.hid (Aloof.of_below (b := bc) (c := bc) (ba w (.cells #[.int .i64 a.u, .int .i64 a.g, .int .i64 a.h, .int .i64 a.p] 65)))
  clear hc
  go_enter Try.func41, Try.ntmps41
  go_upto_region 1 with fail
  generalize w.alloc (.cells #[.int .i64 a.u, .int .i64 a.g, .int .i64 a.h, .int .i64 a.p] 65) = W at HC HA hbx ⊢
  obtain ⟨B, hB⟩ : ∃ B, B = w.heap.size := ⟨_, rfl⟩
  rw [← hB] at hbx lc ⊢
  have x0 : W.cell? ⟨B, 2, none⟩ = some (.int .i64 a.h) := by simp only [World.cell?, hbx]; rfl
  have ec := HC.out.cell
  have fc := HC.out.free
  clear hB hbx lc
  go_wp2_with fail
  go_end0
  exact ⟨rfl, HC.out.set _, HA.out.trans (Aloof.set1 _ _)⟩

set_option maxRecDepth 100000 in
set_option maxHeartbeats 2000000 in
theorem eachT_any (l m : Nat) (L : List Ac) (last most : Int) (bc : Nat) (w : World) (h : LedAt w l m L last most) (hs : Sane L) (hc : BoxI w bc 0) :
    Calls Try.prog 38 #[.pointer (some ⟨l, 0, none⟩), .func (.func 41) #[] #[.pointer (some ⟨bc, 0, none⟩)]] w fun e w' => e = .returned (.tuple #[]) ∧ BoxI w' bc (L.map Ac.h).sum ∧ Aloof bc bc w w' := by
  have c0 := h.c0
  have HC := Lib.hid (closed_no l m w c0)
  have HL := Lib.hid h
  have HS := Lib.hid hs
  have HBc := Lib.hid hc
  clear h hs hc
  go_enter Try.func38, Try.ntmps38
  go_wp2_with fail
  refine HC.out.mono ?_
  rintro e w1 ⟨rfl, rfl⟩
  go_wp2_with (at_range; refine wpList_rangeA rfl _ rfl m L w rfl HL.out.map ?_; intro w0 hrg0 hg0 hs0)
  go_frame
  have HR0 := Lib.hid hrg0
  have HA0 := Lib.hid (show Aloof bc bc w w0 from ⟨hg0.os, hg0.tape, hg0.output, hg0.size, fun k hk _ _ => hg0.block k hk (by simp)⟩)
  have lc := block_lt HBc.out
  have HC0 := Lib.hid (HBc.out.kept (hg0.block bc lc (by simp)))
  obtain ⟨R, hR⟩ : ∃ R, R = w.heap.size := ⟨_, rfl⟩
  rw [← hR] at HR0 ⊢
  have HRr := Lib.hid hR
  clear hrg0 hg0 hs0 hR c0
  go_loopw [4] (fun _ wr => ∃ (left : Int → Bool) (cnt : Nat) (c : Int), Hid (RangeOf wr m R L left cnt) ∧ Hid (c = tot Ac.h L left) ∧ Hid (BoxI wr bc c) ∧ Hid (Aloof bc bc w wr)) (fun _ wr => wr.rangeLeft m R)
  case atStart => exact ⟨_, _, 0, HR0, Lib.hid (tot_start _ _).symm, HC0, HA0⟩
  case round =>
    obtain ⟨left, cnt, c, HR, HCe, HBc1, HA⟩ := hrel
    clear HR0 HC0 HA0
    go_wp2_with (at_next; refine wpList_nextA rfl _ rfl m R L left cnt _ rfl HR.out ?_ ?_)
    · intro hl0
      have hc1 := HCe.out
      rw [tot_end _ _ _ hl0] at hc1
      have HX := Lib.hid (show BoxI wr bc (L.map Ac.h).sum by rw [← hc1]; exact HBc1.out)
      clear hc1 hl0
      go_wp2_with fail
      go_end0
      exact ⟨rfl, HX.out, HA.out⟩
    · intro x w1 cnt1 hx hlx hrg1 hlt1 hg1 hs1 hen
      obtain ⟨hxm, _⟩ := acOf_mem hx
      have hcb := tot_bound Ac.h 16384 L left (fun a ha => by have := HS.out.he a ha; omega)
      rw [← HCe.out] at hcb
      have hlen := HS.out.len
      obtain ⟨hxg0, hxg1⟩ := HS.out.he x hxm
      have HCn := Lib.hid (show c + x.h = tot Ac.h L (fun k => left k && k != x.n) by rw [HCe.out, tot_step _ _ _ _ hx hlx HL.out.nums])
      have hRs := HRr.out
      have hwr := HA.out.size
      have HA1 := Lib.hid (show Aloof bc bc w w1 from ⟨hg1.os.trans HA.out.os, hg1.tape.trans HA.out.tape, hg1.output.trans HA.out.output, Nat.le_trans HA.out.size hg1.size, fun k hk hb hc => (hg1.block k (by omega) (by simp; omega)).trans (HA.out.block k hk hb hc)⟩)
      have HBc2 := Lib.hid (HBc1.out.kept (hg1.block bc (by omega) (by simp; omega)))
      have HL1 := Lib.hid (HL.out.aloof HBc.out HBc.out HA1.out)
      have hab := HL1.out.acs x hxm
      unfold AcAt at hab
      have x0 : w1.cell? ⟨x.b, 0, none⟩ = some (.int .i64 x.u) := by simp only [World.cell?, hab]; rfl
      have x1 : w1.cell? ⟨x.b, 1, none⟩ = some (.int .i64 x.g) := by simp only [World.cell?, hab]; rfl
      have x2 : w1.cell? ⟨x.b, 2, none⟩ = some (.int .i64 x.h) := by simp only [World.cell?, hab]; rfl
      have x3 : w1.cell? ⟨x.b, 3, none⟩ = some (.int .i64 x.p) := by simp only [World.cell?, hab]; rfl
      have HRg := Lib.hid hrg1
      have HLt := Lib.hid hlt1
      have hU := total1_any x c bc w1 HBc2.out hcb.1 (by omega) hxg0 (by omega)
      have HU := Lib.hid hU
      have hmm := HL1.out.map
      have HMb := Lib.hid (show m ≠ bc ∧ R ≠ bc from by
        obtain ⟨D, ⟨es, clock, hmb, _⟩, _⟩ := hmm
        have hc := HBc2.out
        unfold BoxI at hc
        exact ⟨fun e => (by subst e; rw [hmb] at hc; cases hc), by omega⟩)
      clear hx hlx hxm hcb hlen hxg0 hxg1 hRs hwr hab hrg1 hlt1 hg1 hs1 hU hmm HCe
      go_wp2_with fail
      refine HU.out.mono ?_
      rintro e w2 ⟨rfl, hc2, ha2⟩
      have HRg2 := Lib.hid (HRg.out.kept (ha2.block m HRg.out.lt.1 HMb.out.1 HMb.out.1) (ha2.block R HRg.out.lt.2.1 HMb.out.2 HMb.out.2))
      have HA2 := Lib.hid (HA1.out.trans ha2)
      have HX := Lib.hid hc2
      clear hc2 ha2 hen x0 x1 x2 x3
      go_wp2_with fail
      go_roundw
      case rel => exact ⟨_, cnt1, c + x.h, HRg2, HCn, HX, HA2⟩
      case measure => rw [HRg2.out.left_eq, HR.out.left_eq]; exact HLt.out
set_option maxRecDepth 100000 in
set_option maxHeartbeats 1000000 in
theorem each_nil (f : Value) (w : World) :
    Calls Try.prog 38 #[.pointer none, f] w fun e w' => e = .returned (.tuple #[]) ∧ w = w' := by
  have HC := Lib.hid (closed_nil w)
  go_enter Try.func38, Try.ntmps38
  go_wp2_with fail
  refine HC.out.mono ?_
  rintro e w1 ⟨rfl, rfl⟩
  go_wp2_with fail
  exact bodyPost_ret (v := .tuple #[]) (by simp [results, Try.results38, go_sem]) rfl ⟨rfl, rfl⟩
def heldN (L : List Ac) : Int := (L.map Ac.h).sum
set_option maxRecDepth 100000 in
set_option maxHeartbeats 1000000 in
theorem total_any (l m : Nat) (L : List Ac) (last most : Int) (w : World) (h : LedAt w l m L last most) (hs : Sane L) :
    Calls Try.prog 19 #[.pointer (some ⟨l, 0, none⟩)] w fun e w' => e = .returned (.int .i64 (heldN L)) ∧ Below w.heap.size w w' := by
  have HL := Lib.hid (h.kept (ba w (.cells #[.int .i64 0] 3)))
  have HS := Lib.hid hs
  have HC := Lib.hid (show BoxI (w.alloc (.cells #[.int .i64 0] 3)) w.heap.size 0 from (MapKept.heap_alloc w _).1)
  have HB := Lib.hid (ba w (.cells #[.int .i64 0] 3))
  clear h hs
  go_enter Try.func19, Try.ntmps19
  go_wp2_with fail
  generalize w.alloc (.cells #[.int .i64 0] 3) = W at HL HC HB ⊢
  refine (eachT_any l m L last most w.heap.size W HL.out HS.out HC.out).mono ?_
  rintro e w2 ⟨rfl, hc, ha⟩
  have HB2 := Lib.hid (HB.out.trans (ha.below (Nat.le_refl _) (Nat.le_refl _) HB.out.size))
  have x0 := hc.cell
  clear hc ha
  go_wp2_with fail
  go_ret
  exact ⟨rfl, HB2.out⟩
set_option maxRecDepth 100000 in
set_option maxHeartbeats 1000000 in
theorem total_nil (w : World) :
    Calls Try.prog 19 #[.pointer none] w fun e w' => e = .returned (.int .i64 0) ∧ Below w.heap.size w w' := by
  have HB := Lib.hid (ba w (.cells #[.int .i64 0] 3))
  have x0 : (w.alloc (.cells #[.int .i64 0] 3)).cell? ⟨w.heap.size, 0, none⟩ = some (.int .i64 0) := (show BoxI (w.alloc (.cells #[.int .i64 0] 3)) w.heap.size 0 from (MapKept.heap_alloc w _).1).cell
  go_enter Try.func19, Try.ntmps19
  go_wp2_with fail
  refine (each_nil _ _).mono ?_
  rintro e w2 ⟨rfl, rfl⟩
  go_wp2_with fail
  go_ret
  exact ⟨rfl, HB.out⟩
end Go.Proofs.Ythfopabefknlkab
