/-
  Package ledger: New.
-/
import Derived.Test.YthfopabefknlkabLd7
namespace Go.Proofs.Ythfopabefknlkab
open Go.RowKit Go.Maps

/-- A ledger of the call's own. -/
structure Led (B : Nat) (w : World) (l m : Nat) (L : List Ac) (last most : Int) : Prop where
  at_ : LedAt w l m L last most
  sane : Sane L
  lo : B ≤ l ∧ B ≤ m ∧ ∀ a ∈ L, B ≤ a.b
theorem Led.kept {B : Nat} {w w' : World} {l m : Nat} {L : List Ac} {last most : Int} (h : Led B w l m L last most) (hb : Below w.heap.size w w') : Led B w' l m L last most := ⟨h.at_.kept hb, h.sane, h.lo⟩
theorem MapOf.made (w : World) (n : Nat) (hn : w.heap.size = n) : MapOf (w.alloc (.map #[] 0)) n [] := by
  subst hn
  exact ⟨.map [], World.ownsMap_made _ _ _ _, rfl, fun n z => rfl⟩
def NewEnd (w : World) (g : Int) (e : Ending) (w' : World) : Prop :=
  Below w.heap.size w w' ∧ if 0 ≤ g ∧ g ≤ 16384 then ∃ l m b, e = .returned (.tuple #[.pointer (some ⟨l, 0, none⟩), .int .i64 0]) ∧ Led w.heap.size w' l m [⟨0, b, -1, g, 0, 0⟩] 0 0
    else e = .returned (.tuple #[.pointer none, .int .i64 1])
set_option maxRecDepth 100000 in
set_option maxHeartbeats 1000000 in
theorem new_any (g : Int) (w : World) :
    Calls Try.prog 8 #[.int .i64 g] w (NewEnd w g) := by
  by_cases h0 : g < 0
  · have HN := Lib.hid (show ¬ (0 ≤ g ∧ g ≤ 16384) by omega)
    go_enter Try.func8, Try.ntmps8
    go_wp2_with fail
    go_ret2
    refine ⟨Below.refl _ _, ?_⟩
    rw [if_neg HN.out]
    rfl
  · by_cases h1 : 16384 < g
    · have HN := Lib.hid (show ¬ (0 ≤ g ∧ g ≤ 16384) by omega)
      go_enter Try.func8, Try.ntmps8
      go_wp2_with fail
      go_ret2
      refine ⟨Below.refl _ _, ?_⟩
      rw [if_neg HN.out]
      rfl
    · have HN := Lib.hid (show 0 ≤ g ∧ g ≤ 16384 by omega)
      have hmm := @run_makeMap Try.prog
      have hbA := ba (w.alloc (.map #[] 0)) (.cells #[.int .i64 (-1), .int .i64 g, .int .i64 0, .int .i64 0] 65)
      obtain ⟨w3, hrun, hm3, ht3⟩ := MapOf.put ((MapOf.made w _ rfl).kept (hbA.block w.heap.size (by simp))) ⟨0, w.heap.size + 1, -1, g, 0, 0⟩ (show (Lit.int .i64 0).wf = true by decide) rfl (by decide)
      have hac : AcAt ((w.alloc (.map #[] 0)).alloc (.cells #[.int .i64 (-1), .int .i64 g, .int .i64 0, .int .i64 0] 65)) ⟨0, w.heap.size + 1, -1, g, 0, 0⟩ := by
        have := (MapKept.heap_alloc (w.alloc (.map #[] 0)) (.cells #[.int .i64 (-1), .int .i64 g, .int .i64 0, .int .i64 0] 65)).1
        rw [World.size_alloc] at this
        exact this
      have hgr := ht3.grown
      have HB3 := Lib.hid (show Below w.heap.size w w3 from (bt (ba w _) hbA).grown hgr (by simp; omega) (fun k hk => by cases hk; exact Nat.le_refl _))
      have HA3 := Lib.hid (show AcAt w3 ⟨0, w.heap.size + 1, -1, g, 0, 0⟩ from (hgr.block (w.heap.size + 1) (by simp) (by simp)).trans hac)
      have HM := Lib.hid hm3
      simp only at hrun
      clear hm3 ht3 hgr hac hbA
      go_enter Try.func8, Try.ntmps8
      go_wp2_with fail
      go_ret2
      have hb4 := ba w3 (.cells #[.map (some w.heap.size), .int .i64 0, .int .i64 0] 68)
      refine ⟨bt HB3.out hb4, ?_⟩
      rw [if_pos HN.out]
      have hs := HB3.out.size
      refine ⟨w3.heap.size, w.heap.size, w.heap.size + 1, rfl, ⟨⟨(MapKept.heap_alloc w3 _).1, HM.out.kept (hb4.block _ HM.out.lt), fun a ha => ?_, by simp, by simp⟩, ⟨by simp, ?_, ?_, ?_⟩, hs, Nat.le_refl _, ?_⟩⟩
      · simp at ha
        subst ha
        exact (hb4.block _ (block_lt HA3.out)).trans HA3.out
      all_goals
        intro a ha
        simp at ha
        subst ha
      · exact ⟨by simp, by simp⟩
      · exact HN.out
      · exact ⟨by simp, by simp⟩
      · exact Nat.le_succ _
end Go.Proofs.Ythfopabefknlkab
