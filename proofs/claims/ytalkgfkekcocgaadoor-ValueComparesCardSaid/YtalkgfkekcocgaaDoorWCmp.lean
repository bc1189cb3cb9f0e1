/-
  The walk of the law ValueCompares: how any two values stand, in the order, and as truths.
-/
import Derived.Test.YtalkgfkekcocgaaDoorLives
import Derived.Deep.RegionHeld3
namespace Go.Proofs.YtalkgfkekcocgaaDoor
open Go.RowKit Go.Shelf

set_option maxRecDepth 100000 in
set_option maxHeartbeats 8000000 in
theorem compares_walk (k n : Int) (s : ByteArray) (k' n' : Int) (s' : ByteArray) (w : World) (hs : s.size ≤ 9223372036854775807) (hs' : s'.size ≤ 9223372036854775807) (hT : Tabs w) (hP : Pows w) :
    Calls Tryd.prog 4 #[VV k n s, VV k' n' s'] w fun e w' => e = .returned (.bool true) ∧ Below w.heap.size w w' := by
  have HT := Lib.hid hT
  have HP := Lib.hid hP
  clear hT hP
  go_enter Tryd.func4, Tryd.ntmps4
  go_wp2_with fail
  have hB0 := ba2 w (.cells #[.int .i64 k, .int .i64 n, .string s] 23) (.cells #[.int .i64 k', .int .i64 n', .string s'] 23)
  obtain ⟨a0, a1, a2, b0, b1, b2⟩ := box2 (w := w) (a0 := .int .i64 k) (a1 := .int .i64 n) (a2 := .string s) (b0 := .int .i64 k') (b1 := .int .i64 n') (b2 := .string s') (T := 23) (T' := 23) (Below.refl _ _)
  generalize (w.alloc (.cells #[.int .i64 k, .int .i64 n, .string s] 23)).alloc (.cells #[.int .i64 k', .int .i64 n', .string s'] 23) = W at hB0 a0 a1 a2 b0 b1 b2 ⊢
  have hB1 := Below.drew hB0
  go_region_held3 (fun w' => Below w.heap.size w w' ∧ w'.cell? ⟨w.heap.size, 0, none⟩ = some (.int .i64 k) ∧ w'.cell? ⟨w.heap.size, 1, none⟩ = some (.int .i64 n) ∧ w'.cell? ⟨w.heap.size, 2, none⟩ = some (.string s) ∧
      w'.cell? ⟨w.heap.size + 1, 0, none⟩ = some (.int .i64 k') ∧ w'.cell? ⟨w.heap.size + 1, 1, none⟩ = some (.int .i64 n') ∧ w'.cell? ⟨w.heap.size + 1, 2, none⟩ = some (.string s'))
    (first
      | exact ⟨hB1, a0, a1, a2, b0, b1, b2⟩
      | ((try go_split_ands)
         refine ⟨?_, ?_, ?_, ?_, ?_, ?_, ?_⟩
         all_goals first | assumption | (exact Below.drew (by assumption)) | (exact bt (by assumption) hb) | (exact cell_kept hb (by assumption)) | go_keep))
    (first
      | (go_at_call 7; refine (lives_any _ (HT.out.kept hB1) (HP.out.kept hB1)).mono ?_; rintro e w' ⟨rfl, hb⟩)
      | (go_at_call 19; refine (compare_any _ _ _ _ _ _ _).mono ?_; rintro e w' ⟨rfl, hb⟩)
      | (go_at_call 20; refine (refCompare_any _ _ _ _ _ _ _).mono ?_; rintro e w' ⟨rfl, hb⟩)
      | (go_at_call 21; refine (equal_any _ _ _ _ _ _ _ hs hs').mono ?_; rintro e w' ⟨rfl, hb⟩)
      | (go_at_call 22; refine (refEqual_any _ _ _ _ _ _ _ hs hs').mono ?_; rintro e w' ⟨rfl, hb⟩)
      | (go_at_call 23; refine (less_any _ _ _ _ _ _ _ hs hs').mono ?_; rintro e w' ⟨rfl, hb⟩)
      | (go_at_call 24; refine (refLess_any _ _ _ _ _ _ _ hs hs').mono ?_; rintro e w' ⟨rfl, hb⟩)
      | (go_at_call 25; refine (vtruth_any _ _ _ _ hs).mono ?_; rintro e w' ⟨rfl, hb⟩)
      | (go_at_call 26; refine (refTruth_any _ _ _ _ hs).mono ?_; rintro e w' ⟨rfl, hb⟩))
  rename_i hold
  have hB := hold.1
  clear hold
  go_wp2_with fail
  go_ret
  exact ⟨rfl, hB⟩

end Go.Proofs.YtalkgfkekcocgaaDoor
