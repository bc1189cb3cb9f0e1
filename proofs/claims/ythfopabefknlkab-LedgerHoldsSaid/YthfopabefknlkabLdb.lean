/-
  Package ledger: Close.
-/
import Derived.Test.YthfopabefknlkabLda
namespace Go.Proofs.Ythfopabefknlkab
open Go.RowKit Go.Maps

def delA (n : Int) (L : List Ac) : List Ac := L.filter (fun a => a.n != n)
theorem Led.del {B : Nat} {w w' : World} {l m : Nat} {L : List Ac} {last most n : Int} (h : Led B w l m L last most) (hm : MapOf w' m (delA n L)) (ht : w.mapTurned w' m) : Led B w' l m (delA n L) last most := by
  have hg := ht.grown
  have hml : l ≠ m := by
    have hb := h.at_.box
    obtain ⟨D, ⟨es, clock, hmb, _⟩, _⟩ := h.at_.map
    exact fun e => (by rw [e, hmb] at hb; cases hb)
  have hsub : ∀ a ∈ delA n L, a ∈ L := fun a ha => (List.mem_filter.1 ha).1
  refine ⟨⟨(hg.block l (block_lt h.at_.box) (by simp [hml])).trans h.at_.box, hm, fun a ha => ?_, ?_, ?_⟩, ⟨?_, fun a ha => h.sane.num a (hsub a ha), fun a ha => h.sane.gr a (hsub a ha), fun a ha => h.sane.he a (hsub a ha)⟩, h.lo.1, h.lo.2.1, fun a ha => h.lo.2.2 a (hsub a ha)⟩
  · have hac := h.at_.acs a (hsub a ha)
    exact (hg.block a.b (block_lt hac) (by simp; exact fun e => (h.at_.apart (hsub a ha)).2.1 e.symm)).trans hac
  · exact h.at_.nums.sublist ((List.filter_sublist).map _)
  · exact h.at_.blks.sublist ((List.filter_sublist).map _)
  · have := List.length_filter_le (fun a : Ac => a.n != n) L
    have := h.sane.len
    unfold delA
    omega
def CloseEnd (B : Nat) (w : World) (l m : Nat) (L : List Ac) (last most n : Int) (e : Ending) (w' : World) : Prop :=
  Below B w w' ∧ match acOf L n with
    | none => e = .returned (.int .i64 4) ∧ Led B w' l m L last most
    | some a => if n = 0 ∨ 0 < a.h ∨ 0 < cntN L n then e = .returned (.int .i64 1) ∧ Led B w' l m L last most else e = .returned (.int .i64 0) ∧ Led B w' l m (delA n L) last most
set_option maxRecDepth 100000 in
set_option maxHeartbeats 4000000 in
theorem close_any (B l m : Nat) (L : List Ac) (last most n : Int) (w : World) (h : Led B w l m L last most) (hw : (Lit.int .i64 n).wf = true) :
    Calls Try.prog 11 #[.pointer (some ⟨l, 0, none⟩), .int .i64 n] w (CloseEnd B w l m L last most n) := by
  have c0 := h.at_.c0
  have HC := Lib.hid (closed_no l m w c0)
  have HA := Lib.hid (account_any l m L last most n w h.at_ hw)
  have HL := Lib.hid h
  have HW := Lib.hid hw
  have hBw := h.below
  clear hw h c0
  unfold CloseEnd
  cases ha : acOf L n with
  | none =>
    rw [ha] at HA
    clear ha
    go_enter Try.func11, Try.ntmps11
    go_wp2_with fail
    refine HC.out.mono ?_
    rintro e w1 ⟨rfl, rfl⟩
    go_wp2_with fail
    refine HA.out.mono ?_
    rintro e w1 ⟨rfl, hb⟩
    unfold acV
    have HB := Lib.hid (bt hb (ba w1 (.cells #[.int .i64 0, .int .i64 0, .int .i64 0, .int .i64 0] 65)))
    clear hb
    go_wp2_with fail
    go_ret
    exact ⟨HB.out.mono hBw, rfl, HL.out.kept HB.out⟩
  | some a =>
    rw [ha] at HA
    obtain ⟨hm, _⟩ := acOf_mem ha
    obtain ⟨h0, h1⟩ := HL.out.sane.he a hm
    clear ha hm
    obtain ⟨cn, hcn⟩ : ∃ x, x = cntN L n := ⟨_, rfl⟩
    rw [← hcn]
    have HCn := Lib.hid hcn
    clear hcn
    go_enter Try.func11, Try.ntmps11
    go_wp2_with fail
    refine HC.out.mono ?_
    rintro e w1 ⟨rfl, rfl⟩
    go_wp2_with fail
    refine HA.out.mono ?_
    rintro e w1 ⟨rfl, hb⟩
    unfold acV
    have HB := Lib.hid (bt hb (ba w1 (.cells #[.int .i64 a.u, .int .i64 a.g, .int .i64 a.h, .int .i64 a.p] 65)))
    have hbx : (w1.alloc (.cells #[.int .i64 a.u, .int .i64 a.g, .int .i64 a.h, .int .i64 a.p] 65)).heap[w1.heap.size]? = some (.cells #[.int .i64 a.u, .int .i64 a.g, .int .i64 a.h, .int .i64 a.p] 65 (0, 0)) := (MapKept.heap_alloc w1 _).1
    clear hb
    go_wp2_with fail
    generalize w1.alloc (.cells #[.int .i64 a.u, .int .i64 a.g, .int .i64 a.h, .int .i64 a.p] 65) = W at HB hbx ⊢
    generalize w1.heap.size = C at hbx ⊢
    have HL1 := Lib.hid (HL.out.kept HB.out)
    refine (under_any l m L last most n W HL1.out.at_ HL1.out.sane).mono ?_
    rw [← HCn.out]
    rintro e w3 ⟨rfl, hb3⟩
    have hbx3 := (hb3.block C (block_lt hbx)).trans hbx
    have x2 : w3.cell? ⟨C, 2, none⟩ = some (.int .i64 a.h) := by simp only [World.cell?, hbx3]; rfl
    have HB3 := Lib.hid (bt HB.out hb3)
    have HL3 := Lib.hid (HL.out.kept HB3.out)
    have c0 := HL3.out.at_.c0
    obtain ⟨w4, hrun, hm4, ht4⟩ := HL3.out.at_.map.del n HW.out HL3.out.at_.nums 0
    have HL4 := Lib.hid (HL3.out.del hm4 ht4)
    have HB4 := Lib.hid (show Below B w w4 from (HB3.out.mono hBw).grown ht4.grown (by have := HB3.out.size; omega) (fun k hk => by cases hk; exact HL.out.lo.2.1))
    clear hb3 hbx hbx3 hm4 ht4
    by_cases e0 : n = 0
    · have e0' : (n == 0) = true := beq_iff_eq.2 e0
      have HE := Lib.hid (show n = 0 ∨ 0 < a.h ∨ 0 < cn from .inl e0)
      clear e0
      go_wp2_with fail
      go_ret
      refine ⟨HB3.out.mono hBw, ?_⟩
      first
        | (rw [if_pos HE.out]; exact ⟨rfl, HL3.out⟩)
        | exact ⟨rfl, HL3.out⟩
    · have e0' : (n == 0) = false := beq_eq_false_iff_ne.2 e0
      rcases Int.lt_or_le 0 a.h with e1 | e1
      · have HE := Lib.hid (show n = 0 ∨ 0 < a.h ∨ 0 < cn from .inr (.inl e1))
        clear e0
        go_wp2_with fail
        go_ret
        refine ⟨HB3.out.mono hBw, ?_⟩
        first
          | (rw [if_pos HE.out]; exact ⟨rfl, HL3.out⟩)
          | exact ⟨rfl, HL3.out⟩
      · rcases Int.lt_or_le 0 cn with e2 | e2
        · have HE := Lib.hid (show n = 0 ∨ 0 < a.h ∨ 0 < cn from .inr (.inr e2))
          clear e0
          go_wp2_with fail
          go_ret
          refine ⟨HB3.out.mono hBw, ?_⟩
          first
            | (rw [if_pos HE.out]; exact ⟨rfl, HL3.out⟩)
            | exact ⟨rfl, HL3.out⟩
        · have HE := Lib.hid (show ¬ (n = 0 ∨ 0 < a.h ∨ 0 < cn) by omega)
          clear e0
          go_wp2_with fail
          go_ret
          refine ⟨HB4.out, ?_⟩
          first
            | (rw [if_neg HE.out]; exact ⟨rfl, HL4.out⟩)
            | exact ⟨rfl, HL4.out⟩
end Go.Proofs.Ythfopabefknlkab
