/-
  Contracts of value.And, value.Or, value.Not, value.Of, over the three tables of truths.
-/
import Derived.Test.YtalkgfkekcocgaaDoorEq
import Derived.Deep.QuietTactic
import Derived.BigQuiet
namespace Go.Proofs.YtalkgfkekcocgaaDoor
open Go.RowKit Go.Shelf

/-- The three tables, cell by cell. -/
structure Tabs (w : World) : Prop where
  a0 : w.cell? ⟨1, 0, none⟩ = some (.int .i64 0)
  a1 : w.cell? ⟨1, 1, none⟩ = some (.int .i64 0)
  a2 : w.cell? ⟨1, 2, none⟩ = some (.int .i64 0)
  a3 : w.cell? ⟨1, 3, none⟩ = some (.int .i64 0)
  a4 : w.cell? ⟨1, 4, none⟩ = some (.int .i64 1)
  a5 : w.cell? ⟨1, 5, none⟩ = some (.int .i64 2)
  a6 : w.cell? ⟨1, 6, none⟩ = some (.int .i64 0)
  a7 : w.cell? ⟨1, 7, none⟩ = some (.int .i64 2)
  a8 : w.cell? ⟨1, 8, none⟩ = some (.int .i64 2)
  o0 : w.cell? ⟨2, 0, none⟩ = some (.int .i64 0)
  o1 : w.cell? ⟨2, 1, none⟩ = some (.int .i64 1)
  o2 : w.cell? ⟨2, 2, none⟩ = some (.int .i64 2)
  o3 : w.cell? ⟨2, 3, none⟩ = some (.int .i64 1)
  o4 : w.cell? ⟨2, 4, none⟩ = some (.int .i64 1)
  o5 : w.cell? ⟨2, 5, none⟩ = some (.int .i64 1)
  o6 : w.cell? ⟨2, 6, none⟩ = some (.int .i64 2)
  o7 : w.cell? ⟨2, 7, none⟩ = some (.int .i64 1)
  o8 : w.cell? ⟨2, 8, none⟩ = some (.int .i64 2)
  n0 : w.cell? ⟨0, 0, none⟩ = some (.int .i64 1)
  n1 : w.cell? ⟨0, 1, none⟩ = some (.int .i64 0)
  n2 : w.cell? ⟨0, 2, none⟩ = some (.int .i64 2)
  m : ∃ m, w.cell? ⟨4, 0, none⟩ = some (.int .i64 m)

theorem lt_of_cell {w : World} {p : Addr} {v : Value} (h : w.cell? p = some v) : p.block < w.heap.size := by
  rcases Nat.lt_or_ge p.block w.heap.size with hl | hg
  · exact hl
  · rw [World.cell?, Array.getElem?_eq_none hg] at h; cases h
theorem cell_kept {w w' : World} (hb : Below w.heap.size w w') {p : Addr} {v : Value} (h : w.cell? p = some v) : w'.cell? p = some v :=
  (hb.cell (lt_of_cell h)).trans h
theorem Tabs.kept {w w' : World} (h : Tabs w) (hb : Below w.heap.size w w') : Tabs w' := by
  obtain ⟨m, hm⟩ := h.m
  exact ⟨cell_kept hb h.a0, cell_kept hb h.a1, cell_kept hb h.a2, cell_kept hb h.a3, cell_kept hb h.a4, cell_kept hb h.a5, cell_kept hb h.a6, cell_kept hb h.a7, cell_kept hb h.a8,
    cell_kept hb h.o0, cell_kept hb h.o1, cell_kept hb h.o2, cell_kept hb h.o3, cell_kept hb h.o4, cell_kept hb h.o5, cell_kept hb h.o6, cell_kept hb h.o7, cell_kept hb h.o8,
    cell_kept hb h.n0, cell_kept hb h.n1, cell_kept hb h.n2, ⟨m, cell_kept hb hm⟩⟩

/-- A number as a truth; and, or, not. -/
def tr (n : Int) : Int := if n < 0 ∨ 2 < n then 2 else n
theorem tr_three (n : Int) : tr n = 0 ∨ tr n = 1 ∨ tr n = 2 := by unfold tr; split <;> omega
def andT (a b : Int) : Int := if a = 0 ∨ b = 0 then 0 else if a = 1 ∧ b = 1 then 1 else 2
def orT (a b : Int) : Int := if a = 1 ∨ b = 1 then 1 else if a = 0 ∧ b = 0 then 0 else 2
def notT (a : Int) : Int := if a = 0 then 1 else if a = 1 then 0 else 2

set_option maxHeartbeats 400000 in
theorem tr_b (c n : Int) (w : World) (h : tr n = c) :
    Calls Tryd.prog 42 #[.int .i64 n] w fun e w' => e = .returned (.int .i64 c) ∧ w' = w := by
  subst h
  go_enter Tryd.func42, Tryd.ntmps42
  go_wp2
  all_goals
    go_ret
    exact ⟨ret_int (by unfold tr; split <;> omega), rfl⟩

set_option maxHeartbeats 1000000 in
theorem not_any (a : Int) (w : World) (hT : Tabs w) :
    Calls Tryd.prog 27 #[.int .i64 a] w fun e w' => e = .returned (.int .i64 (notT (tr a))) ∧ Below w.heap.size w w' := by
  have n0 := hT.n0
  have n1 := hT.n1
  have n2 := hT.n2
  clear hT
  rcases tr_three a with h | h | h
  all_goals
    rw [h]
    have H := Lib.hid h
    clear h
    go_enter Tryd.func27, Tryd.ntmps27
    go_wp2_with fail
    refine (tr_b _ _ _ H.out).mono ?_
    rintro e w' ⟨rfl, rfl⟩
    go_wp2_with fail
    go_ret
    exact ⟨ret_int (by decide), Below.refl _ _⟩

set_option maxHeartbeats 1000000 in
theorem and_any (a b : Int) (w : World) (hT : Tabs w) :
    Calls Tryd.prog 28 #[.int .i64 a, .int .i64 b] w fun e w' => e = .returned (.int .i64 (andT (tr a) (tr b))) ∧ Below w.heap.size w w' := by
  have a0 := hT.a0
  have a1 := hT.a1
  have a2 := hT.a2
  have a3 := hT.a3
  have a4 := hT.a4
  have a5 := hT.a5
  have a6 := hT.a6
  have a7 := hT.a7
  have a8 := hT.a8
  clear hT
  rcases tr_three a with h | h | h
  all_goals
    rw [h]
    have H := Lib.hid h
    clear h
    rcases tr_three b with h | h | h
    all_goals
      rw [h]
      have H' := Lib.hid h
      clear h
      go_enter Tryd.func28, Tryd.ntmps28
      go_wp2_with fail
      go_quiet ((go_at_call 42; first | with_reducible exact Calls.quiet_of_same (tr_b _ _ _ H.out) | with_reducible exact Calls.quiet_of_same (tr_b _ _ _ H'.out)))
      go_wp2
      go_ret
      exact ⟨ret_int (by decide), below_drewN (Below.refl _ _) _⟩

set_option maxHeartbeats 1000000 in
theorem or_any (a b : Int) (w : World) (hT : Tabs w) :
    Calls Tryd.prog 29 #[.int .i64 a, .int .i64 b] w fun e w' => e = .returned (.int .i64 (orT (tr a) (tr b))) ∧ Below w.heap.size w w' := by
  have o0 := hT.o0
  have o1 := hT.o1
  have o2 := hT.o2
  have o3 := hT.o3
  have o4 := hT.o4
  have o5 := hT.o5
  have o6 := hT.o6
  have o7 := hT.o7
  have o8 := hT.o8
  clear hT
  rcases tr_three a with h | h | h
  all_goals
    rw [h]
    have H := Lib.hid h
    clear h
    rcases tr_three b with h | h | h
    all_goals
      rw [h]
      have H' := Lib.hid h
      clear h
      go_enter Tryd.func29, Tryd.ntmps29
      go_wp2_with fail
      go_quiet ((go_at_call 42; first | with_reducible exact Calls.quiet_of_same (tr_b _ _ _ H.out) | with_reducible exact Calls.quiet_of_same (tr_b _ _ _ H'.out)))
      go_wp2
      go_ret
      exact ⟨ret_int (by decide), below_drewN (Below.refl _ _) _⟩

/-- The value of a truth. -/
def ofN (t : Int) : Int := if t = 1 then 1 else 0
def ofK (t : Int) : Int := if t = 0 ∨ t = 1 then 1 else 0

set_option maxHeartbeats 400000 in
theorem of_any (a : Int) (w : World) :
    Calls Tryd.prog 30 #[.int .i64 a] w fun e w' => e = .returned (VV (ofK a) (ofN a) ⟨#[]⟩) ∧ Below w.heap.size w w' := by
  by_cases h0 : a = 0
  · subst h0
    have HK := Lib.hid (show ofK 0 = 1 by decide)
    have HN := Lib.hid (show ofN 0 = 0 by decide)
    go_enter Tryd.func30, Tryd.ntmps30
    go_wp2_with fail
    refine (bool_false _).mono ?_
    rintro e w1 ⟨rfl, hb1⟩
    obtain ⟨hc1, hf1⟩ := bcell hb1
    obtain ⟨c0, c1, c2⟩ := box1 hb1
    go_wp2_with fail
    refine bodyPost_ret (v := VV 1 0 ⟨#[]⟩) (by simp [results, Tryd.results30, go_sem, c0, c1, c2]) rfl ⟨?_, ?_⟩
    · rw [HK.out, HN.out]
    · exact ((((ba w _).trans (hb1.mono (by simp))).setCell (Nat.le_refl _) _).setCell (Nat.le_refl _) _).setCell (Nat.le_refl _) _
  · by_cases h1 : a = 1
    · subst h1
      have HK := Lib.hid (show ofK 1 = 1 by decide)
      have HN := Lib.hid (show ofN 1 = 1 by decide)
      go_enter Tryd.func30, Tryd.ntmps30
      go_wp2_with fail
      refine (bool_true _).mono ?_
      rintro e w1 ⟨rfl, hb1⟩
      obtain ⟨hc1, hf1⟩ := bcell hb1
      obtain ⟨c0, c1, c2⟩ := box1 hb1
      go_wp2_with fail
      refine bodyPost_ret (v := VV 1 1 ⟨#[]⟩) (by simp [results, Tryd.results30, go_sem, c0, c1, c2]) rfl ⟨?_, ?_⟩
      · rw [HK.out, HN.out]
      · exact ((((ba w _).trans (hb1.mono (by simp))).setCell (Nat.le_refl _) _).setCell (Nat.le_refl _) _).setCell (Nat.le_refl _) _
    · have HK := Lib.hid (show ofK a = 0 by simp [ofK, h0, h1])
      have HN := Lib.hid (show ofN a = 0 by simp [ofN, h1])
      have h0' : (a == 0) = false := by simpa using h0
      have h1' : (a == 1) = false := by simpa using h1
      clear h0 h1
      go_enter Tryd.func30, Tryd.ntmps30
      go_wp2_with fail
      refine (null_any _).mono ?_
      rintro e w1 ⟨rfl, hb1⟩
      obtain ⟨hc1, hf1⟩ := bcell hb1
      obtain ⟨c0, c1, c2⟩ := box1 hb1
      go_wp2_with fail
      refine bodyPost_ret (v := VV 0 0 ⟨#[]⟩) (by simp [results, Tryd.results30, go_sem, c0, c1, c2]) rfl ⟨?_, ?_⟩
      · rw [HK.out, HN.out]
      · exact ((((ba w _).trans (hb1.mono (by simp))).setCell (Nat.le_refl _) _).setCell (Nat.le_refl _) _).setCell (Nat.le_refl _) _

end Go.Proofs.YtalkgfkekcocgaaDoor
