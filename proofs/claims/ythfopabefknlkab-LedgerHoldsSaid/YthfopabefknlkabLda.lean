/-
  Package ledger: Take.
-/
import Derived.Test.YthfopabefknlkabLd9
namespace Go.Proofs.Ythfopabefknlkab
open Go.RowKit Go.Maps

theorem LedAt.most_set {w : World} {l m : Nat} {L : List Ac} {last most : Int} (h : LedAt w l m L last most) (v : Int) : LedAt (w.setCell ⟨l, 2, none⟩ (.int .i64 v)) l m L last v := by
  have ho : ∀ k, k ≠ l → (w.setCell ⟨l, 2, none⟩ (.int .i64 v)).heap[k]? = w.heap[k]? := fun k hk => by simp [World.setCell, Array.getElem?_modify, Ne.symm hk]
  have hb := h.box
  obtain ⟨D, ⟨es, clock, hmb, _⟩, _⟩ := h.map
  refine ⟨by simp [World.setCell, Array.getElem?_modify, hb], h.map.kept (ho m (fun e => by rw [e, hb] at hmb; cases hmb)), fun a ha => ?_, h.nums, h.blks⟩
  exact (ho a.b (fun e => (h.apart ha).1 e.symm)).trans (h.acs a ha)
def TakeEnd (B : Nat) (w : World) (l m : Nat) (L : List Ac) (last most n p : Int) (e : Ending) (w' : World) : Prop :=
  Below B w w' ∧ if p < 0 then e = .returned (.int .i64 1) ∧ Led B w' l m L last most else match acOf L n with
    | none => e = .returned (.int .i64 4) ∧ Led B w' l m L last most
    | some _ => if leftOf L n < p then e = .returned (.int .i64 60) ∧ Led B w' l m L last most else e = .returned (.int .i64 0) ∧ Led B w' l m (updA n (takeA p) L) last (max most (heldN (updA n (takeA p) L)))
theorem Led.below {B : Nat} {w : World} {l m : Nat} {L : List Ac} {last most : Int} (h : Led B w l m L last most) : B ≤ w.heap.size := by
  have := block_lt h.at_.box
  have := h.lo.1
  omega

theorem Led.heap {B : Nat} {w w' : World} {l m : Nat} {L : List Ac} {last most : Int} (h : Led B w l m L last most) (hh : w'.heap = w.heap) : Led B w' l m L last most :=
  ⟨⟨by rw [hh]; exact h.at_.box, h.at_.map.kept (by rw [hh]), fun a ha => by unfold AcAt; rw [hh]; exact h.at_.acs a ha, h.at_.nums, h.at_.blks⟩, h.sane, h.lo⟩
theorem take_step {B : Nat} {w : World} {l m : Nat} {L : List Ac} {last most n p v : Int} {a : Ac} (h : Led B w l m L last most) (ha : acOf L n = some a) (hp : 0 ≤ p) (hs : a.h + p ≤ a.g) (hv : v = max a.p (a.h + p)) :
    Led B ((w.setCell ⟨a.b, 2, none⟩ (.int .i64 (a.h + p))).setCell ⟨a.b, 3, none⟩ (.int .i64 v)).drew l m (updA n (takeA p) L) last most ∧ Below B w ((w.setCell ⟨a.b, 2, none⟩ (.int .i64 (a.h + p))).setCell ⟨a.b, 3, none⟩ (.int .i64 v)).drew := by
  subst hv
  obtain ⟨hm, _⟩ := acOf_mem ha
  have hab := h.at_.acs a hm
  obtain ⟨h0, h1⟩ := h.sane.he a hm
  obtain ⟨g0, g1⟩ := h.sane.gr a hm
  refine ⟨(h.upd ha (takeA_same p) (w' := (w.setCell ⟨a.b, 2, none⟩ (.int .i64 (a.h + p))).setCell ⟨a.b, 3, none⟩ (.int .i64 (max a.p (a.h + p)))) ?_ ?_ ?_).heap rfl, (((Below.refl B w).setCell (h.lo.2.2 a hm) _).setCell (h.lo.2.2 a hm) _).drew⟩
  · unfold AcAt at hab ⊢
    simp [World.setCell, Array.getElem?_modify, hab, takeA]
  · intro k _ hk
    simp [World.setCell, Array.getElem?_modify, Ne.symm hk]
  · exact ⟨g0, g1, by show 0 ≤ a.h + p; omega, by show a.h + p ≤ 16384; omega⟩

set_option maxRecDepth 100000 in
set_option maxHeartbeats 4000000 in
theorem take_any (B l m : Nat) (L : List Ac) (last most n p : Int) (w : World) (h : Led B w l m L last most) (hw : (Lit.int .i64 n).wf = true) :
    Calls Try.prog 12 #[.pointer (some ⟨l, 0, none⟩), .int .i64 n, .int .i64 p] w (TakeEnd B w l m L last most n p) := by
  have c0 := h.at_.c0
  have HC := Lib.hid (closed_no l m w c0)
  have hlk := h.at_.map.look hw
  have HLf := Lib.hid (left_any l m L last most n w h.at_ h.sane hw)
  have HL := Lib.hid h
  have hBw : B ≤ w.heap.size := by have := block_lt h.at_.box; have := h.lo.1; omega
  clear hw h
  unfold TakeEnd
  by_cases hp : p < 0
  · simp only [if_pos hp]
    go_enter Try.func12, Try.ntmps12
    go_wp2_with fail
    refine HC.out.mono ?_
    rintro e w1 ⟨rfl, rfl⟩
    go_wp2_with fail
    go_ret
    exact ⟨Below.refl _ _, rfl, HL.out⟩
  · simp only [if_neg hp]
    cases ha : acOf L n with
    | none =>
      rw [ha] at hlk
      simp only at hlk
      clear ha
      go_enter Try.func12, Try.ntmps12
      go_wp2_with fail
      refine HC.out.mono ?_
      rintro e w1 ⟨rfl, rfl⟩
      go_wp2_with fail
      go_ret
      exact ⟨Below.refl _ _, rfl, HL.out⟩
    | some a =>
      rw [ha] at hlk
      simp only at hlk
      obtain ⟨hm, _⟩ := acOf_mem ha
      have HV := Lib.hid (show leftOf L n = a.g - a.h - sumN L n by unfold leftOf; rw [ha])
      have HAa := Lib.hid ha
      have HSb := Lib.hid (sumN_bound HL.out.sane n)
      obtain ⟨h0, h1⟩ := HL.out.sane.he a hm
      obtain ⟨g0, g1⟩ := HL.out.sane.gr a hm
      have HMm := Lib.hid hm
      clear ha hm
      by_cases hl : leftOf L n < p
      · simp only [if_pos hl]
        obtain ⟨lf, hlf⟩ : ∃ x, x = leftOf L n := ⟨_, rfl⟩
        rw [← hlf] at hl HLf
        clear hlf HV
        go_enter Try.func12, Try.ntmps12
        go_wp2_with fail
        refine HC.out.mono ?_
        rintro e w1 ⟨rfl, rfl⟩
        go_wp2_with fail
        refine HLf.out.mono ?_
        rintro e w1 ⟨rfl, hb⟩
        have HB := Lib.hid (hb.mono hBw)
        have HL1 := Lib.hid (HL.out.kept hb)
        clear hb
        go_wp2_with fail
        go_ret
        exact ⟨HB.out, rfl, HL1.out⟩
      · simp only [if_neg hl]
        have hsum : a.h + p ≤ a.g := by have h1 := HV.out; have h2 := HSb.out.1; omega
        obtain ⟨lf, hlf⟩ : ∃ x, x = leftOf L n := ⟨_, rfl⟩
        rw [← hlf] at hl HLf
        clear hlf HV
        go_enter Try.func12, Try.ntmps12
        go_wp2_with fail
        refine HC.out.mono ?_
        rintro e w1 ⟨rfl, rfl⟩
        go_wp2_with fail
        refine HLf.out.mono ?_
        rintro e w1 ⟨rfl, hb⟩
        have HB := Lib.hid (hb.mono hBw)
        have HL1 := Lib.hid (HL.out.kept hb)
        have hab := HL1.out.at_.acs a HMm.out
        have hlb := HL1.out.at_.apart HMm.out
        have HAc := Lib.hid hab
        unfold AcAt at hab
        have x2 : w1.cell? ⟨a.b, 2, none⟩ = some (.int .i64 a.h) := by simp only [World.cell?, hab]; rfl
        have x3 : w1.cell? ⟨a.b, 3, none⟩ = some (.int .i64 a.p) := by simp only [World.cell?, hab]; rfl
        have f2 : w1.frozen? ⟨a.b, 2, none⟩ = false := by simp [World.frozen?, hab]
        have f3 : w1.frozen? ⟨a.b, 3, none⟩ = false := by simp [World.frozen?, hab]
        clear hb hab hlb c0 hlk
        have HTk := Lib.hid (fun v hv => take_step (v := v) HL1.out HAa.out (by omega) hsum hv)
        rcases Int.lt_or_le a.p (a.h + p) with hmx | hmx
        all_goals
          first
            | have HMx := Lib.hid (show a.h + p = max a.p (a.h + p) from (Int.max_eq_right (Int.le_of_lt hmx)).symm)
            | have HMx := Lib.hid (show a.p = max a.p (a.h + p) from (Int.max_eq_left (by omega)).symm)
          go_wp2_with fail
          go_region
          obtain ⟨hLd, hBd⟩ := HTk.out _ HMx.out
          generalize ((w1.setCell ⟨a.b, 2, none⟩ (.int .i64 (a.h + p))).setCell ⟨a.b, 3, none⟩ _).drew = W at hLd hBd ⊢
          have HW := Lib.hid hLd
          have HBW := Lib.hid (HB.out.trans hBd)
          have hlt := block_lt HW.out.at_.box
          have c2 := HW.out.at_.c2
          have z2 : W.frozen? ⟨l, 2, none⟩ = false := by simp [World.frozen?, HW.out.at_.box]
          have HT := Lib.hid (fun (W' : World) (hb : Below W.heap.size W W') => (total_any l m (updA n (takeA p) L) last most W' (HW.out.kept hb).at_ HW.out.sane).mono (fun e w' (hq : _ ∧ _) => (show e = .returned (.int .i64 (heldN (updA n (takeA p) L))) ∧ Below W.heap.size W w' ∧ w'.cell? ⟨l, 2, none⟩ = some (.int .i64 most) ∧ w'.frozen? ⟨l, 2, none⟩ = false from ⟨hq.1, bt hb hq.2, ((bt hb hq.2).cell (p := ⟨l, 2, none⟩) hlt).trans c2, ((bt hb hq.2).frozen (p := ⟨l, 2, none⟩) hlt).trans z2⟩)))
          obtain ⟨tt, htt⟩ : ∃ x, x = heldN (updA n (takeA p) L) := ⟨_, rfl⟩
          rw [← htt] at HT
          have HTt := Lib.hid htt
          clear x2 x3 f2 f3 hLd hBd htt
          rcases Int.lt_or_le most tt with hmt | hmt
          all_goals
            first
              | have HMt := Lib.hid (show tt = max most tt from (Int.max_eq_right (Int.le_of_lt hmt)).symm)
              | have HMt := Lib.hid (show most = max most tt from (Int.max_eq_left (by omega)).symm)
            clear hmx h0 h1 g0 g1 hsum hl hp
            go_wp2_with fail
            go_region_with (go_at_call 19; refine (HT.out _ (by first | exact Below.drew (Below.refl _ _) | exact Below.refl _ _)).mono ?_; rintro e w' ⟨rfl, hbt, c2', z2'⟩)
            all_goals
              go_wp2_with fail
              go_ret
              have HL9 := HW.out.kept hbt
              refine ⟨(HBW.out.trans (hbt.mono (by have := HBW.out.size; omega))).setCell HL9.lo.1 _, rfl, ?_⟩
              rw [← HTt.out, ← HMt.out]
              exact ⟨HL9.at_.most_set _, HL9.sane, HL9.lo⟩
end Go.Proofs.Ythfopabefknlkab
