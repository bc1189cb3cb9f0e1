/-
  The walk of the law ValueOrders: the order of values is one.
-/
import Derived.Test.YtalkgfkekcocgaaDoorLives
import Derived.Deep.RegionHeld3
namespace Go.Proofs.YtalkgfkekcocgaaDoor
open Go.RowKit Go.Shelf

set_option maxRecDepth 100000 in
set_option maxHeartbeats 4000000 in
theorem orders_walk (k n : Int) (s : ByteArray) (k' n' : Int) (s' : ByteArray) (k'' n'' : Int) (s'' : ByteArray) (w : World) (hT : Tabs w) (hP : Pows w) :
    Calls Tryd.prog 5 #[VV k n s, VV k' n' s', VV k'' n'' s''] w fun e w' => e = .returned (.bool true) ∧ Below w.heap.size w w' := by
  have HT := Lib.hid hT
  have HP := Lib.hid hP
  clear hT hP
  go_enter Tryd.func5, Tryd.ntmps5
  go_wp2_with fail
  have hB0 := bt (ba2 w (.cells #[.int .i64 k, .int .i64 n, .string s] 23) (.cells #[.int .i64 k', .int .i64 n', .string s'] 23)) (ba _ (.cells #[.int .i64 k'', .int .i64 n'', .string s''] 23))
  obtain ⟨a0, a1, a2, b0, b1, b2, c0, c1, c2⟩ := box3 (w := w) (a0 := .int .i64 k) (a1 := .int .i64 n) (a2 := .string s) (b0 := .int .i64 k') (b1 := .int .i64 n') (b2 := .string s') (c0 := .int .i64 k'') (c1 := .int .i64 n'') (c2 := .string s'') (T := 23) (T' := 23) (T'' := 23) (Below.refl _ _)
  generalize ((w.alloc (.cells #[.int .i64 k, .int .i64 n, .string s] 23)).alloc (.cells #[.int .i64 k', .int .i64 n', .string s'] 23)).alloc (.cells #[.int .i64 k'', .int .i64 n'', .string s''] 23) = W at hB0 a0 a1 a2 b0 b1 b2 c0 c1 c2 ⊢
  go_region_held3 (fun w' => Below w.heap.size w w' ∧ w'.cell? ⟨w.heap.size, 0, none⟩ = some (.int .i64 k) ∧ w'.cell? ⟨w.heap.size, 1, none⟩ = some (.int .i64 n) ∧ w'.cell? ⟨w.heap.size, 2, none⟩ = some (.string s) ∧
      w'.cell? ⟨w.heap.size + 1, 0, none⟩ = some (.int .i64 k') ∧ w'.cell? ⟨w.heap.size + 1, 1, none⟩ = some (.int .i64 n') ∧ w'.cell? ⟨w.heap.size + 1, 2, none⟩ = some (.string s') ∧
      w'.cell? ⟨w.heap.size + 1 + 1, 0, none⟩ = some (.int .i64 k'') ∧ w'.cell? ⟨w.heap.size + 1 + 1, 1, none⟩ = some (.int .i64 n'') ∧ w'.cell? ⟨w.heap.size + 1 + 1, 2, none⟩ = some (.string s''))
    (first
      | exact ⟨Below.drew hB0, a0, a1, a2, b0, b1, b2, c0, c1, c2⟩
      | ((try go_split_ands)
         refine ⟨?_, ?_, ?_, ?_, ?_, ?_, ?_, ?_, ?_, ?_⟩
         all_goals first | assumption | (exact Below.drew (by assumption)) | (exact bt (by assumption) hb) | (exact cell_kept hb (by assumption)) | go_keep))
    (first
      | (go_at_call 19; refine (compare_any _ _ _ _ _ _ _).mono ?_; rintro e w' ⟨rfl, hb⟩))
  rename_i hold
  obtain ⟨hB, d0, d1, d2, e0, e1, e2, f0, f1, f2⟩ := hold
  clear hB0 a0 a1 a2 b0 b1 b2 c0 c1 c2
  have hr := cmpV_range k n s k' n' s'
  have hz : (eqV k n s k' n' s') = (cmpV k n s k' n' s' == 0) := by
    rw [Bool.eq_iff_iff, ← cmpV_zero]; simp
  have hq := run_eqV k n s k' n' s'
  rw [hz] at hq
  have ha := cmpV_anti k n s k' n' s'
  have ht := cmpV_trans k n s k' n' s' k'' n'' s''
  generalize cmpV k n s k' n' s' = x at hr hz hq ha ht ⊢
  generalize cmpV k' n' s' k'' n'' s'' = y at ht ⊢
  generalize cmpV k n s k'' n'' s'' = z at ht ⊢
  obtain ⟨hr1, hr2⟩ := hr
  have HA := Lib.hid ha
  have HX := Lib.hid ht
  clear hz ha ht
  go_wp2_with fail
  refine (lives_any _ (HT.out.kept hB) (HP.out.kept hB)).mono ?_
  rintro e v1 ⟨rfl, hb1⟩
  have g0 := cell_kept hb1 d0
  have g1 := cell_kept hb1 d1
  have g2 := cell_kept hb1 d2
  have l0 := cell_kept hb1 e0
  have l1 := cell_kept hb1 e1
  have l2 := cell_kept hb1 e2
  have hB1 := bt hB hb1
  clear hb1 hB d0 d1 d2 e0 e1 e2 f0 f1 f2
  go_wp2_with fail
  refine (compare_b _ _ _ _ _ _ _ _ HA.out).mono ?_
  rintro e v2 ⟨rfl, hb2⟩
  have d0 := cell_kept hb2 g0
  have d1 := cell_kept hb2 g1
  have d2 := cell_kept hb2 g2
  have e0 := cell_kept hb2 l0
  have e1 := cell_kept hb2 l1
  have e2 := cell_kept hb2 l2
  have hB2 := bt hB1 hb2
  clear g0 g1 g2 l0 l1 l2 hb2 hB1
  by_cases hx : 0 < x
  · clear HX
    go_wp2_with fail
    all_goals
      go_ret
      exact ⟨rfl, hB2⟩
  · by_cases hy : 0 < y
    · clear HX
      go_wp2_with fail
      all_goals
        go_ret
        exact ⟨rfl, hB2⟩
    · obtain ⟨hz, ht⟩ := HX.out (by omega) (by omega)
      clear HX
      rcases ht with ⟨hx0, hy0⟩ | hlt
      · subst hx0 hy0
        go_wp2_with fail
        all_goals
          go_ret
          exact ⟨rfl, hB2⟩
      · go_wp2_with fail
        all_goals
          go_ret
          exact ⟨rfl, hB2⟩

end Go.Proofs.YtalkgfkekcocgaaDoor
