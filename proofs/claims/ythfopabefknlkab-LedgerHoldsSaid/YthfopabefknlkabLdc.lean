/-
  Package ledger: Open.
-/
import Derived.Test.YthfopabefknlkabLdb
import Derived.Deep.CutRange
namespace Go.Proofs.Ythfopabefknlkab
open Go.RowKit Go.Maps

theorem LedAt.last_set {w : World} {l m : Nat} {L : List Ac} {last most : Int} (h : LedAt w l m L last most) (v : Int) : LedAt (w.setCell ⟨l, 1, none⟩ (.int .i64 v)) l m L v most := by
  have ho : ∀ k, k ≠ l → (w.setCell ⟨l, 1, none⟩ (.int .i64 v)).heap[k]? = w.heap[k]? := fun k hk => by simp [World.setCell, Array.getElem?_modify, Ne.symm hk]
  have hb := h.box
  obtain ⟨D, ⟨es, clock, hmb, _⟩, _⟩ := h.map
  refine ⟨by simp [World.setCell, Array.getElem?_modify, hb], h.map.kept (ho m (fun e => by rw [e, hb] at hmb; cases hmb)), fun a ha => ?_, h.nums, h.blks⟩
  exact (ho a.b (fun e => (h.apart ha).1 e.symm)).trans (h.acs a ha)
theorem acOf_none {L : List Ac} {n : Int} (h : ∀ a ∈ L, a.n < n) : acOf L n = none := by
  unfold acOf
  rw [List.find?_eq_none]
  intro a ha
  have := h a ha
  simp
  omega
/-- An account is laid, and put into the map. -/
theorem Led.add {B : Nat} {w : World} {l m : Nat} {L : List Ac} {last most u g n : Int} (h : Led B w l m L last most) (hn : ∀ a ∈ L, a.n < n) (h0 : 0 ≤ n) (h1 : n ≤ 1000000) (g0 : 0 ≤ g) (g1 : g ≤ 16384) (hl : L.length < 1000) :
    ∃ w', (Instr.mapUpdate 66 (.map (some m)) (.int .i64 n) (.pointer (some ⟨w.heap.size, 0, none⟩))).run Try.prog (w.alloc (.cells #[.int .i64 u, .int .i64 g, .int .i64 0, .int .i64 0] 65)).drew = .ok () w' ∧ Led B w' l m (L ++ [⟨n, w.heap.size, u, g, 0, 0⟩]) last most ∧ Below B w w' := by
  have hb := ba w (.cells #[.int .i64 u, .int .i64 g, .int .i64 0, .int .i64 0] 65)
  have hk : Led B (w.alloc (.cells #[.int .i64 u, .int .i64 g, .int .i64 0, .int .i64 0] 65)).drew l m L last most := (h.kept hb).heap rfl
  obtain ⟨w', hrun, hm', ht'⟩ := hk.at_.map.put ⟨n, w.heap.size, u, g, 0, 0⟩ (wf_of (by show -9223372036854775808 ≤ n; omega) (by show n ≤ 9223372036854775807; omega)) (acOf_none hn) (by omega)
  have hg := ht'.grown
  have hnew : (w.alloc (.cells #[.int .i64 u, .int .i64 g, .int .i64 0, .int .i64 0] 65)).drew.heap[w.heap.size]? = some (.cells #[.int .i64 u, .int .i64 g, .int .i64 0, .int .i64 0] 65 (0, 0)) := (MapKept.heap_alloc w _).1
  have hml := h.at_.map.lt
  have hbx := hk.at_.box
  have hlm : l ≠ m := by
    obtain ⟨D, ⟨es, clock, hmb, _⟩, _⟩ := hk.at_.map
    exact fun e => (by rw [e, hmb] at hbx; cases hbx)
  refine ⟨w', hrun, ⟨⟨(hg.block l (block_lt hbx) (by simp [hlm])).trans hbx, hm', fun a ha => ?_, ?_, ?_⟩, ⟨by simp; omega, fun a ha => ?_, fun a ha => ?_, fun a ha => ?_⟩, h.lo.1, h.lo.2.1, fun a ha => ?_⟩, ?_⟩
  · rcases List.mem_append.1 ha with ha | ha
    · have hac := hk.at_.acs a ha
      exact (hg.block a.b (block_lt hac) (by simp; exact fun e => (hk.at_.apart ha).2.1 e.symm)).trans hac
    · simp at ha
      subst ha
      exact (hg.block w.heap.size (block_lt hnew) (by simp; omega)).trans hnew
  · rw [List.map_append, List.nodup_append]
    refine ⟨h.at_.nums, by simp, fun x hx y hy => ?_⟩
    obtain ⟨a, ha, rfl⟩ := List.mem_map.1 hx
    simp at hy
    subst hy
    have := hn a ha
    omega
  · rw [List.map_append, List.nodup_append]
    refine ⟨h.at_.blks, by simp, fun x hx y hy => ?_⟩
    obtain ⟨a, ha, rfl⟩ := List.mem_map.1 hx
    simp at hy
    subst hy
    have := block_lt (h.at_.acs a ha)
    omega
  · rcases List.mem_append.1 ha with ha | ha
    · exact h.sane.num a ha
    · simp at ha; subst ha; exact ⟨h0, h1⟩
  · rcases List.mem_append.1 ha with ha | ha
    · exact h.sane.gr a ha
    · simp at ha; subst ha; exact ⟨g0, g1⟩
  · rcases List.mem_append.1 ha with ha | ha
    · exact h.sane.he a ha
    · simp at ha; subst ha; exact ⟨Int.le_refl _, by simp⟩
  · rcases List.mem_append.1 ha with ha | ha
    · exact h.lo.2.2 a ha
    · simp at ha; subst ha; exact h.below
  · exact ((hb.drew).mono h.below).grown hg (by have := h.below; simp; omega) (fun k hk => by cases hk; exact h.lo.2.1)

def OpenEndL (B : Nat) (w : World) (l m : Nat) (L : List Ac) (last most u g : Int) (e : Ending) (w' : World) : Prop :=
  Below B w w' ∧ if g < 0 then e = .returned (.tuple #[.int .i64 0, .int .i64 1]) ∧ Led B w' l m L last most else match acOf L u with
    | none => e = .returned (.tuple #[.int .i64 0, .int .i64 4]) ∧ Led B w' l m L last most
    | some _ => if 256 ≤ L.length then e = .returned (.tuple #[.int .i64 0, .int .i64 2]) ∧ Led B w' l m L last most else
      if leftOf L u < g then e = .returned (.tuple #[.int .i64 0, .int .i64 60]) ∧ Led B w' l m L last most else
      e = .returned (.tuple #[.int .i64 (last + 1), .int .i64 0]) ∧ ∃ b, Led B w' l m (L ++ [⟨last + 1, b, u, g, 0, 0⟩]) (last + 1) most
theorem OpenEndL.neg {B : Nat} {w w' : World} {l m : Nat} {L : List Ac} {last most u g : Int} (hg : g < 0) (hb : Below B w w') (hL : Led B w' l m L last most) : OpenEndL B w l m L last most u g (.returned (.tuple #[.int .i64 0, .int .i64 1])) w' := by
  unfold OpenEndL
  rw [if_pos hg]
  exact ⟨hb, rfl, hL⟩
theorem OpenEndL.no {B : Nat} {w w' : World} {l m : Nat} {L : List Ac} {last most u g : Int} (hg : ¬ g < 0) (ha : acOf L u = none) (hb : Below B w w') (hL : Led B w' l m L last most) : OpenEndL B w l m L last most u g (.returned (.tuple #[.int .i64 0, .int .i64 4])) w' := by
  unfold OpenEndL
  rw [if_neg hg, ha]
  exact ⟨hb, rfl, hL⟩
theorem OpenEndL.full {B : Nat} {w w' : World} {l m : Nat} {L : List Ac} {last most u g : Int} {a : Ac} (hg : ¬ g < 0) (ha : acOf L u = some a) (hn : 256 ≤ L.length) (hb : Below B w w') (hL : Led B w' l m L last most) : OpenEndL B w l m L last most u g (.returned (.tuple #[.int .i64 0, .int .i64 2])) w' := by
  unfold OpenEndL
  rw [if_neg hg, ha]
  show _ ∧ (if _ then _ else _)
  rw [if_pos hn]
  exact ⟨hb, rfl, hL⟩
theorem OpenEndL.poor {B : Nat} {w w' : World} {l m : Nat} {L : List Ac} {last most u g : Int} {a : Ac} (hg : ¬ g < 0) (ha : acOf L u = some a) (hn : ¬ 256 ≤ L.length) (hl : leftOf L u < g) (hb : Below B w w') (hL : Led B w' l m L last most) : OpenEndL B w l m L last most u g (.returned (.tuple #[.int .i64 0, .int .i64 60])) w' := by
  unfold OpenEndL
  rw [if_neg hg, ha]
  show _ ∧ (if _ then _ else _)
  rw [if_neg hn, if_pos hl]
  exact ⟨hb, rfl, hL⟩
theorem OpenEndL.good {B : Nat} {w w' : World} {l m : Nat} {L : List Ac} {last most u g : Int} {a : Ac} {b : Nat} (hg : ¬ g < 0) (ha : acOf L u = some a) (hn : ¬ 256 ≤ L.length) (hl : ¬ leftOf L u < g) (hb : Below B w w') (hL : Led B w' l m (L ++ [⟨last + 1, b, u, g, 0, 0⟩]) (last + 1) most) : OpenEndL B w l m L last most u g (.returned (.tuple #[.int .i64 (last + 1), .int .i64 0])) w' := by
  unfold OpenEndL
  rw [if_neg hg, ha]
  show _ ∧ (if _ then _ else _)
  rw [if_neg hn, if_neg hl]
  exact ⟨hb, rfl, b, hL⟩
set_option maxRecDepth 100000 in
set_option maxHeartbeats 4000000 in
theorem open_anyL (B l m : Nat) (L : List Ac) (last most u g : Int) (w : World) (h : Led B w l m L last most) (hw : (Lit.int .i64 u).wf = true) (hfr : ∀ a ∈ L, a.n ≤ last) (h0 : 0 ≤ last) (h1 : last < 1000000) :
    Calls Try.prog 10 #[.pointer (some ⟨l, 0, none⟩), .int .i64 u, .int .i64 g] w (OpenEndL B w l m L last most u g) := by
  have c0 := h.at_.c0
  have HC := Lib.hid (closed_no l m w c0)
  have HA := Lib.hid (account_any l m L last most u w h.at_ hw)
  have HL := Lib.hid h
  have HW := Lib.hid hw
  have HFr := Lib.hid (show ∀ a ∈ L, a.n < last + 1 from fun a ha => by have := hfr a ha; omega)
  have hBw := h.below
  clear hw h c0 hfr
  by_cases hg : g < 0
  · have HGz := Lib.hid hg
    go_enter Try.func10, Try.ntmps10
    go_wp2_with fail
    refine HC.out.mono ?_
    rintro e w1 ⟨rfl, rfl⟩
    go_wp2_with fail
    go_ret2
    exact OpenEndL.neg HGz.out (Below.refl _ _) HL.out
  · have HGz := Lib.hid hg
    cases ha : acOf L u with
    | none =>
      rw [ha] at HA
      have HAc := Lib.hid ha
      clear ha
      go_enter Try.func10, Try.ntmps10
      go_wp2_with fail
      refine HC.out.mono ?_
      rintro e w1 ⟨rfl, rfl⟩
      go_wp2_with fail
      refine HA.out.mono ?_
      rintro e w1 ⟨rfl, hb⟩
      unfold acV
      have HB := Lib.hid (bt hb (ba w1 (.cells #[.int .i64 0, .int .i64 0, .int .i64 0, .int .i64 0] 65)))
      clear hb
      go_wp2_with fail
      go_ret2
      exact OpenEndL.no (by have := HGz.out; omega) HAc.out (HB.out.mono hBw) (HL.out.kept HB.out)
    | some a =>
      rw [ha] at HA
      obtain ⟨hm, _⟩ := acOf_mem ha
      obtain ⟨q0, q1⟩ := HL.out.sane.he a hm
      obtain ⟨g0, g1⟩ := HL.out.sane.gr a hm
      have HV := Lib.hid (show leftOf L u = a.g - a.h - sumN L u by unfold leftOf; rw [ha])
      have HSb := Lib.hid (sumN_bound HL.out.sane u)
      have HAc := Lib.hid ha
      clear ha hm
      go_enter Try.func10, Try.ntmps10
      go_wp2_with fail
      refine HC.out.mono ?_
      rintro e w1 ⟨rfl, rfl⟩
      go_wp2_with fail
      refine HA.out.mono ?_
      rintro e w1 ⟨rfl, hb⟩
      unfold acV
      have HB := Lib.hid (bt hb (ba w1 (.cells #[.int .i64 a.u, .int .i64 a.g, .int .i64 a.h, .int .i64 a.p] 65)))
      clear hb
      go_upto_region 8 with fail
      generalize w1.alloc (.cells #[.int .i64 a.u, .int .i64 a.g, .int .i64 a.h, .int .i64 a.p] 65) = W at HB ⊢
      have HL1 := Lib.hid (HL.out.kept HB.out)
      have c0 := HL1.out.at_.c0
      have hlen := HL1.out.at_.map.len 3
      rcases Nat.lt_or_ge L.length 256 with hLn | hLn
      · have HLf := Lib.hid (left_any l m L last most u W HL1.out.at_ HL1.out.sane HW.out)
        obtain ⟨lf, hlf⟩ : ∃ x, x = leftOf L u := ⟨_, rfl⟩
        rw [← hlf] at HLf HV
        have HLe := Lib.hid hlf
        have hLi : (L.length : Int) < 256 := by omega
        have HLn := Lib.hid (show ¬ 256 ≤ L.length by omega)
        clear hlf hLn
        go_wp2_with fail
        refine HLf.out.mono ?_
        rintro e w5 ⟨rfl, hb5⟩
        have HB5 := Lib.hid (bt HB.out hb5)
        have HL5 := Lib.hid (HL1.out.kept hb5)
        clear hb5 c0 hlen
        rcases Int.lt_or_le lf g with hl | hl
        · have HG := Lib.hid (show leftOf L u < g by rw [← HLe.out]; exact hl)
          go_wp2_with fail
          go_ret2
          exact OpenEndL.poor (by have := HGz.out; omega) HAc.out HLn.out HG.out (HB5.out.mono hBw) HL5.out
        · have HG := Lib.hid (show ¬ leftOf L u < g by rw [← HLe.out]; omega)
          have hgr : g ≤ 16384 := by have := HV.out; have := HSb.out.1; omega
          have c0 := HL5.out.at_.c0
          have c1 := HL5.out.at_.c1
          have z1 : w5.frozen? ⟨l, 1, none⟩ = false := by simp [World.frozen?, HL5.out.at_.box]
          have HB6 := Lib.hid (show Below B w (w5.setCell ⟨l, 1, none⟩ (.int .i64 (last + 1))) from (HB5.out.mono hBw).setCell HL5.out.lo.1 _)
          have HL6 := Lib.hid (show Led B (w5.setCell ⟨l, 1, none⟩ (.int .i64 (last + 1))) l m L (last + 1) most from ⟨HL5.out.at_.last_set _, HL5.out.sane, HL5.out.lo⟩)
          go_upto_region 13 with fail
          generalize w5.setCell ⟨l, 1, none⟩ (.int .i64 (last + 1)) = W6 at HB6 HL6 ⊢
          obtain ⟨w7, hrun, hL7, hB7⟩ := HL6.out.add (u := u) (g := g) HFr.out (by omega) (by omega) (by omega) hgr (by omega)
          have HL7 := Lib.hid hL7
          have HB7 := Lib.hid (HB6.out.trans hB7)
          clear c0 c1 z1 hL7 hB7
          have c0 := HL6.out.at_.c0
          have c1 := HL6.out.at_.c1
          have d1 := HL7.out.at_.c1
          have HLa := Lib.hid (HL6.out.kept (ba W6 (.cells #[.int .i64 u, .int .i64 g, .int .i64 0, .int .i64 0] 65)))
          have n0 := HLa.out.at_.c0
          have n1 := HLa.out.at_.c1
          go_wp2_with fail
          go_region
          go_wp2_with fail
          go_ret2
          exact OpenEndL.good (by have := HGz.out; omega) HAc.out HLn.out (by have := HG.out; omega) HB7.out HL7.out
      · have hLi : (256 : Int) ≤ (L.length : Int) := by omega
        have HLn := Lib.hid (show 256 ≤ L.length from hLn)
        clear hLn
        go_wp2_with fail
        go_ret2
        exact OpenEndL.full (by have := HGz.out; omega) HAc.out HLn.out (HB.out.mono hBw) HL1.out
end Go.Proofs.Ythfopabefknlkab
