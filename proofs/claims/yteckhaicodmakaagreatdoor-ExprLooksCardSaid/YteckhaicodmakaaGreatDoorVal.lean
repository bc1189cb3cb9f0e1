/-
  Contracts of package value's small functions: which values may be, and how values are made.
-/
import Derived.Test.YteckhaicodmakaaGreatDoorProg
import Derived.Test.YteckhaicodmakaaGreatDoorPlain
namespace Go.Proofs.YteckhaicodmakaaGreatDoor
open Go.RowKit

set_option maxHeartbeats 400000 in
theorem mayBe_any (k n : Int) (s : ByteArray) (w : World) (hs : s.size ≤ 9223372036854775807) :
    Calls Tryz.prog 70 #[VV k n s] w fun e w' => e = .returned (.bool (okV k n s)) ∧ Below w.heap.size w w' := by
  go_enter Tryz.func70, Tryz.ntmps70
  go_wp2
  all_goals
    go_ret
    refine ⟨ret_bool (by simp_all [okV] <;> (intros; omega)), (Below.refl _ _).alloc (Nat.le_refl _) _⟩

theorem mayBe_yes (k n : Int) (s : ByteArray) (w : World) (hs : s.size ≤ 9223372036854775807) (h : okV k n s = true) :
    Calls Tryz.prog 70 #[VV k n s] w fun e w' => e = .returned (.bool true) ∧ Below w.heap.size w w' := by
  rw [← h]; exact mayBe_any k n s w hs
theorem mayBe_no (k n : Int) (s : ByteArray) (w : World) (hs : s.size ≤ 9223372036854775807) (h : okV k n s = false) :
    Calls Tryz.prog 70 #[VV k n s] w fun e w' => e = .returned (.bool false) ∧ Below w.heap.size w w' := by
  rw [← h]; exact mayBe_any k n s w hs

set_option maxHeartbeats 400000 in
theorem check_any (k n : Int) (s : ByteArray) (w : World) (hs : s.size ≤ 9223372036854775807) :
    Calls Tryz.prog 77 #[VV k n s] w fun e w' => e = .returned (.int .i64 (if okV k n s then 0 else 10)) ∧ Below w.heap.size w w' := by
  cases hok : okV k n s
  · go_enter Tryz.func77, Tryz.ntmps77
    go_wp2_with (go_at_call 70; refine (mayBe_no _ _ _ _ hs hok).mono ?_; rintro e w' ⟨rfl, hb⟩)
    go_ret
    exact ⟨rfl, ((Below.refl _ _).alloc (Nat.le_refl _) _).trans (hb.mono (by simp))⟩
  · go_enter Tryz.func77, Tryz.ntmps77
    go_wp2_with (go_at_call 70; refine (mayBe_yes _ _ _ _ hs hok).mono ?_; rintro e w' ⟨rfl, hb⟩)
    go_ret
    exact ⟨rfl, ((Below.refl _ _).alloc (Nat.le_refl _) _).trans (hb.mono (by simp))⟩

set_option maxHeartbeats 400000 in
theorem refInt_any (n : Int) (w : World) :
    Calls Tryz.prog 38 #[.int .i64 n] w fun e w' => e = .returned (VV 2 n ⟨#[]⟩) ∧ Below w.heap.size w w' := by
  go_enter Tryz.func38, Tryz.ntmps38
  go_wp2
  refine bodyPost_ret (v := VV 2 n ⟨#[]⟩) (by simp [results, Tryz.results38, go_sem]) rfl ⟨rfl, ?_⟩
  exact (Below.refl _ _).alloc (Nat.le_refl _) _
set_option maxHeartbeats 400000 in
theorem refCheck_any (k n : Int) (s : ByteArray) (w : World) (hs : s.size ≤ 9223372036854775807) :
    Calls Tryz.prog 61 #[VV k n s] w fun e w' => e = .returned (.bool (okV k n s)) ∧ Below w.heap.size w w' := by
  go_enter Tryz.func61, Tryz.ntmps61
  go_wp2
  all_goals
    go_ret
    refine ⟨ret_bool (by simp_all [okV] <;> (intros; omega)), (Below.refl _ _).alloc (Nat.le_refl _) _⟩
theorem refCheck_yes (k n : Int) (s : ByteArray) (w : World) (hs : s.size ≤ 9223372036854775807) (h : okV k n s = true) :
    Calls Tryz.prog 61 #[VV k n s] w fun e w' => e = .returned (.bool true) ∧ Below w.heap.size w w' := by
  rw [← h]; exact refCheck_any k n s w hs
theorem refCheck_no (k n : Int) (s : ByteArray) (w : World) (hs : s.size ≤ 9223372036854775807) (h : okV k n s = false) :
    Calls Tryz.prog 61 #[VV k n s] w fun e w' => e = .returned (.bool false) ∧ Below w.heap.size w w' := by
  rw [← h]; exact refCheck_any k n s w hs

end Go.Proofs.YteckhaicodmakaaGreatDoor
