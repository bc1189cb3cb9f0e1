/-
  Package disk: deed.
-/
import Derived.Test.YthimgldohhaimabDk2
import Derived.Deep.CutRange
import Derived.Deep.CutBlock
import Derived.Deep.RegionWith
import Derived.BigRegion
namespace Go.Proofs.Ythimgldohhaimab
open Go.RowKit Go.Maps

theorem vOf_flt (fa : List Int) (n : Int) : vOf (fa.map fun n => (n, Value.agg #[])) n = if n ∈ fa then some (.agg #[]) else none := by
  induction fa with
  | nil => simp [vOf]
  | cons a fa ih =>
    rw [List.map_cons, vOf_cons, ih]
    by_cases e : a = n
    · subst e; simp
    · rw [if_neg e]
      by_cases h : n ∈ fa
      · rw [if_pos h, if_pos (List.mem_cons_of_mem _ h)]
      · rw [if_neg h, if_neg (fun hh => by rcases List.mem_cons.1 hh with hh | hh; exact e hh.symm; exact h hh)]
theorem del_flt (fa : List Int) (n : Int) : delV (fa.map fun n => (n, Value.agg #[])) n = (fa.filter fun k => k != n).map fun n => (n, Value.agg #[]) := by
  unfold delV
  rw [List.filter_map]
  rfl
theorem fst_flt (fa : List Int) : (fa.map fun n => (n, Value.agg #[])).map Prod.fst = fa := by
  rw [List.map_map]
  exact List.map_id _
theorem zeroU (w : World) : (zeroValue 54).run Try.prog w = .ok (.agg #[]) w := by kernel_rfl
theorem wfI {n : Int} (h0 : -9223372036854775808 ≤ n) (h1 : n ≤ 9223372036854775807) : (Lit.int .i64 n).wf = true := WalkArith.wf_i64 ⟨h0, h1⟩

def Dk.deed (d : Dk) : Dk := { d with deeds := d.deeds + 1, fa := d.fa.filter fun k => k != d.deeds + 1 }
theorem Sd.deed1 {d : Dk} (h : Sd d) : Sd { d with deeds := d.deeds + 1 } := ⟨h.room, h.fnod, h.flen, h.nums, h.num, h.len, h.apart, h.pages, h.used, h.most, h.peak, h.pos.1, by have := h.pos.2.1; show 0 ≤ d.deeds + 1; omega, h.pos.2.2⟩
theorem Sd.deed {d : Dk} (h : Sd d) : Sd d.deed := ⟨h.room, h.fnod.filter _, Nat.le_trans (List.length_filter_le _ _) h.flen, h.nums, h.num, h.len, h.apart, h.pages, h.used, h.most, h.peak, h.pos.1, by have := h.pos.2.1; show 0 ≤ d.deeds + 1; omega, h.pos.2.2⟩
theorem deed_no {d : Dk} (h : d.deeds + 1 ∉ d.fa) : d.deed = { d with deeds := d.deeds + 1 } := by
  unfold Dk.deed
  congr 1
  exact List.filter_eq_self.2 (fun k hk => by simp; intro e; exact h (e ▸ hk))
/-- The map of faults has been written. -/
theorem DkAt.flt_turned {B : Nat} {w w' : World} {l mf ms : Nat} {d d' : Dk} (h : DkAt B w l mf ms d) (hm : MpAt w' mf d'.flt) (ht : w.mapTurned w' mf) (hb : d'.box mf ms = d.box mf ms) (hf : d'.fs = d.fs) (hs : Sd d') : DkAt B w' l mf ms d' ∧ Dg B w w' := by
  have hg := ht.grown
  have hp := h.ptr
  obtain ⟨es, c, h1⟩ := h.flt.isMap
  have ho : ∀ k, k < w.heap.size → k ≠ mf → w'.heap[k]? = w.heap[k]? := fun k hk hne => hg.block k hk (by simpa using hne)
  refine ⟨⟨⟨?_, hm, ?_, fun f hf' => ?_, h.lo, h.ne⟩, hs⟩, Dg.grown h.lo.2.1 h1 rfl hg⟩
  · rw [hb]; exact (ho l (block_ltD h.box) hp.1).trans h.box
  · unfold Dk.fls; rw [hf]; exact h.fls.kept (ho ms h.fls.lt (Ne.symm h.ne))
  · rw [hf] at hf'
    exact ownsRow_same (h.pgs f hf') (fun k hk => ho k ((h.pgs f hf').lt k hk).2 (h.page_ne hf' hk).2.1)

def DeedEnd (B : Nat) (w : World) (l mf ms : Nat) (d : Dk) (e : Ending) (w' : World) : Prop :=
  e = .returned (.int .i64 (if d.deeds + 1 ∈ d.fa then 50 else 0)) ∧ DkAt B w' l mf ms d.deed ∧ Dg B w w'
set_option maxRecDepth 100000 in
set_option maxHeartbeats 2000000 in
theorem deed_any (B l mf ms : Nat) (d : Dk) (w : World) (h : DkAt B w l mf ms d) (hd : d.deeds < 1000000000000) :
    Calls Try.prog 24 #[.pointer (some ⟨l, 0, none⟩)] w (DeedEnd B w l mf ms d) := by
  obtain ⟨n, hn⟩ : ∃ n, n = d.deeds := ⟨_, rfl⟩
  have hpos := h.sane.pos.2.1
  have c4 := h.c4
  have f4 := h.fz 4
  have hset := h.set (d' := { d with deeds := d.deeds + 1 }) (i := 4) (x := d.deeds + 1) (by rfl) rfl rfl h.sane.deed1
  have HS := Lib.hid hset
  have HD := Lib.hid h
  rw [← hn] at c4 hpos hd hset
  have HN := Lib.hid hn
  clear h hset hn
  go_enter Try.func24, Try.ntmps24
  go_upto_region 2 with fail
  rw [← HN.out] at HS
  generalize w.setCell ⟨l, 4, none⟩ (.int .i64 (n + 1)) = W at HS ⊢
  have x1 := HS.out.1.c1
  have x4 : W.cell? ⟨l, 4, none⟩ = some (.int .i64 (n + 1)) := HS.out.1.c4
  have hlk := (HS.out.1.kept (Below.drew (Below.refl _ _))).flt.look (n := n + 1) (wfI (by omega) (by omega)) Try.underlying50 (zeroU _) true
  rw [show vOf (Dk.flt { d with deeds := n + 1 }) (n + 1) = _ from vOf_flt d.fa (n + 1)] at hlk
  have hka := HS.out.1.kept (ba W (.cells #[] 54))
  have y1 := hka.c1
  have y4 : (W.alloc (.cells #[] 54)).cell? ⟨l, 4, none⟩ = some (.int .i64 (n + 1)) := hka.c4
  have hlk2 := (hka.kept (Below.drew (Below.refl _ _))).flt.look (n := n + 1) (wfI (by omega) (by omega)) Try.underlying50 (zeroU _) true
  rw [show vOf (Dk.flt { d with deeds := n + 1 }) (n + 1) = _ from vOf_flt d.fa (n + 1)] at hlk2
  clear c4 f4 hka
  by_cases hm : n + 1 ∈ d.fa
  · rw [if_pos hm] at hlk hlk2
    simp only [if_true, Option.getD_some, Option.isSome_some] at hlk hlk2
    have HV := Lib.hid (show DkAt B (W.alloc (.cells #[] 54)).drew l mf ms { d with deeds := n + 1 } from (HS.out.1.kept (ba W _)).kept (Below.drew (Below.refl _ _)))
    have HG := Lib.hid (show Dg B w (W.alloc (.cells #[] 54)).drew from HS.out.2.trans (Dg.of_below HS.out.1.lt (Below.drew (ba W _))))
    go_wp2_with fail
    go_region
    all_goals
      clear x1 x4 y1 y4 hlk hlk2
      generalize (W.alloc (.cells #[] 54)).drew = V at HV HG ⊢
      have x1 := HV.out.c1
      have x4 : V.cell? ⟨l, 4, none⟩ = some (.int .i64 (n + 1)) := HV.out.c4
      have HVd := HV.out.kept (Below.drew (Below.refl _ _))
      have hdl := fun ty => HVd.flt.del (n + 1) (wfI (by omega) (by omega)) (by rw [show Dk.flt { d with deeds := n + 1 } = d.fa.map fun n => (n, Value.agg #[]) from rfl, fst_flt]; exact HVd.sane.fnod) Try.underlying50 ty
      obtain ⟨w', hrun, hm', ht'⟩ := hdl 0
      rw [show delV (Dk.flt { d with deeds := n + 1 }) (n + 1) = Dk.flt { d with deeds := n + 1, fa := d.fa.filter fun k => k != n + 1 } from del_flt d.fa (n + 1)] at hm'
      have hfin := HVd.flt_turned hm' ht' rfl rfl (by have := HVd.sane; have h2 := HD.out.sane.deed; rw [HN.out]; exact h2)
      have HF := Lib.hid hfin
      clear hdl hm' ht' hfin HVd
      go_wp2_with fail
      go_region
      go_wp2_with fail
      go_ret
      refine ⟨?_, ?_, HG.out.trans ((Dg.of_below HV.out.lt (Below.drew (Below.refl _ _))).trans HF.out.2)⟩
      · rw [if_pos (by rw [← HN.out]; exact hm)]
        rfl
      · have := HF.out.1
        unfold Dk.deed
        rw [← HN.out]
        exact this
  · rw [if_neg hm] at hlk hlk2
    simp only [if_true, Option.getD_none, Option.isSome_none] at hlk hlk2
    have HV := Lib.hid (show DkAt B (W.alloc (.cells #[] 54)).drew l mf ms { d with deeds := n + 1 } from (HS.out.1.kept (ba W _)).kept (Below.drew (Below.refl _ _)))
    have HG := Lib.hid (show Dg B w (W.alloc (.cells #[] 54)).drew from HS.out.2.trans (Dg.of_below HS.out.1.lt (Below.drew (ba W _))))
    go_wp2_with fail
    go_region
    all_goals
      go_wp2_with fail
      go_ret
      refine ⟨?_, ?_, HG.out⟩
      · rw [if_neg (by rw [← HN.out]; exact hm)]
        rfl
      · rw [deed_no (by rw [← HN.out]; exact hm), ← HN.out]
        exact HV.out
end Go.Proofs.Ythimgldohhaimab
