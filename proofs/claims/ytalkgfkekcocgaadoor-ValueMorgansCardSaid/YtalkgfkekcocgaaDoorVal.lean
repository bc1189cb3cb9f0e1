/-
  Contracts of package value's small functions: which values may be, and how values are made.
-/
import Derived.Test.YtalkgfkekcocgaaDoorProg
import Derived.Test.YtalkgfkekcocgaaDoorPlain
namespace Go.Proofs.YtalkgfkekcocgaaDoor
open Go.RowKit

set_option maxHeartbeats 400000 in
theorem mayBe_any (k n : Int) (s : ByteArray) (w : World) (hs : s.size ≤ 9223372036854775807) :
    Calls Tryd.prog 31 #[VV k n s] w fun e w' => e = .returned (.bool (okV k n s)) ∧ Below w.heap.size w w' := by
  go_enter Tryd.func31, Tryd.ntmps31
  go_wp2
  all_goals
    go_ret
    refine ⟨ret_bool (by simp_all [okV] <;> (intros; omega)), (Below.refl _ _).alloc (Nat.le_refl _) _⟩

theorem mayBe_yes (k n : Int) (s : ByteArray) (w : World) (hs : s.size ≤ 9223372036854775807) (h : okV k n s = true) :
    Calls Tryd.prog 31 #[VV k n s] w fun e w' => e = .returned (.bool true) ∧ Below w.heap.size w w' := by
  rw [← h]; exact mayBe_any k n s w hs
theorem mayBe_no (k n : Int) (s : ByteArray) (w : World) (hs : s.size ≤ 9223372036854775807) (h : okV k n s = false) :
    Calls Tryd.prog 31 #[VV k n s] w fun e w' => e = .returned (.bool false) ∧ Below w.heap.size w w' := by
  rw [← h]; exact mayBe_any k n s w hs

set_option maxHeartbeats 400000 in
theorem check_any (k n : Int) (s : ByteArray) (w : World) (hs : s.size ≤ 9223372036854775807) :
    Calls Tryd.prog 9 #[VV k n s] w fun e w' => e = .returned (.int .i64 (if okV k n s then 0 else 10)) ∧ Below w.heap.size w w' := by
  cases hok : okV k n s
  · go_enter Tryd.func9, Tryd.ntmps9
    go_wp2_with (go_at_call 31; refine (mayBe_no _ _ _ _ hs hok).mono ?_; rintro e w' ⟨rfl, hb⟩)
    go_ret
    exact ⟨rfl, ((Below.refl _ _).alloc (Nat.le_refl _) _).trans (hb.mono (by simp))⟩
  · go_enter Tryd.func9, Tryd.ntmps9
    go_wp2_with (go_at_call 31; refine (mayBe_yes _ _ _ _ hs hok).mono ?_; rintro e w' ⟨rfl, hb⟩)
    go_ret
    exact ⟨rfl, ((Below.refl _ _).alloc (Nat.le_refl _) _).trans (hb.mono (by simp))⟩

set_option maxHeartbeats 400000 in
theorem int_any (n : Int) (w : World) :
    Calls Tryd.prog 13 #[.int .i64 n] w fun e w' => e = .returned (VV 2 n ⟨#[]⟩) ∧ Below w.heap.size w w' := by
  go_enter Tryd.func13, Tryd.ntmps13
  go_wp2
  refine bodyPost_ret (v := VV 2 n ⟨#[]⟩) (by simp [results, Tryd.results13, go_sem]) rfl ⟨rfl, ?_⟩
  exact (Below.refl _ _).alloc (Nat.le_refl _) _
set_option maxHeartbeats 400000 in
theorem refInt_any (n : Int) (w : World) :
    Calls Tryd.prog 14 #[.int .i64 n] w fun e w' => e = .returned (VV 2 n ⟨#[]⟩) ∧ Below w.heap.size w w' := by
  go_enter Tryd.func14, Tryd.ntmps14
  go_wp2
  refine bodyPost_ret (v := VV 2 n ⟨#[]⟩) (by simp [results, Tryd.results14, go_sem]) rfl ⟨rfl, ?_⟩
  exact (Below.refl _ _).alloc (Nat.le_refl _) _
set_option maxHeartbeats 400000 in
theorem text_any (s : ByteArray) (w : World) :
    Calls Tryd.prog 15 #[.string s] w fun e w' => e = .returned (VV 3 0 s) ∧ Below w.heap.size w w' := by
  go_enter Tryd.func15, Tryd.ntmps15
  go_wp2
  refine bodyPost_ret (v := VV 3 0 s) (by simp [results, Tryd.results15, go_sem]) rfl ⟨rfl, ?_⟩
  exact (Below.refl _ _).alloc (Nat.le_refl _) _
set_option maxHeartbeats 400000 in
theorem refText_any (s : ByteArray) (w : World) :
    Calls Tryd.prog 16 #[.string s] w fun e w' => e = .returned (VV 3 0 s) ∧ Below w.heap.size w w' := by
  go_enter Tryd.func16, Tryd.ntmps16
  go_wp2
  refine bodyPost_ret (v := VV 3 0 s) (by simp [results, Tryd.results16, go_sem]) rfl ⟨rfl, ?_⟩
  exact (Below.refl _ _).alloc (Nat.le_refl _) _
set_option maxHeartbeats 400000 in
theorem null_any (w : World) :
    Calls Tryd.prog 10 #[] w fun e w' => e = .returned (VV 0 0 ⟨#[]⟩) ∧ Below w.heap.size w w' := by
  go_enter Tryd.func10, Tryd.ntmps10
  go_wp2
  refine bodyPost_ret (v := VV 0 0 ⟨#[]⟩) (by simp [results, Tryd.results10, go_sem]) rfl ⟨rfl, ?_⟩
  exact (Below.refl _ _).alloc (Nat.le_refl _) _
set_option maxHeartbeats 400000 in
theorem bool_true (w : World) :
    Calls Tryd.prog 11 #[.bool true] w fun e w' => e = .returned (VV 1 1 ⟨#[]⟩) ∧ Below w.heap.size w w' := by
  go_enter Tryd.func11, Tryd.ntmps11
  go_wp2
  refine bodyPost_ret (v := VV 1 1 ⟨#[]⟩) (by simp [results, Tryd.results11, go_sem]) rfl ⟨rfl, ?_⟩
  exact (Below.refl _ _).alloc (Nat.le_refl _) _
set_option maxHeartbeats 400000 in
theorem bool_false (w : World) :
    Calls Tryd.prog 11 #[.bool false] w fun e w' => e = .returned (VV 1 0 ⟨#[]⟩) ∧ Below w.heap.size w w' := by
  go_enter Tryd.func11, Tryd.ntmps11
  go_wp2
  refine bodyPost_ret (v := VV 1 0 ⟨#[]⟩) (by simp [results, Tryd.results11, go_sem]) rfl ⟨rfl, ?_⟩
  exact (Below.refl _ _).alloc (Nat.le_refl _) _
set_option maxHeartbeats 400000 in
theorem refBool_true (w : World) :
    Calls Tryd.prog 12 #[.bool true] w fun e w' => e = .returned (VV 1 1 ⟨#[]⟩) ∧ Below w.heap.size w w' := by
  go_enter Tryd.func12, Tryd.ntmps12
  go_wp2
  refine bodyPost_ret (v := VV 1 1 ⟨#[]⟩) (by simp [results, Tryd.results12, go_sem]) rfl ⟨rfl, ?_⟩
  exact (Below.refl _ _).alloc (Nat.le_refl _) _
set_option maxHeartbeats 400000 in
theorem refBool_false (w : World) :
    Calls Tryd.prog 12 #[.bool false] w fun e w' => e = .returned (VV 1 0 ⟨#[]⟩) ∧ Below w.heap.size w w' := by
  go_enter Tryd.func12, Tryd.ntmps12
  go_wp2
  refine bodyPost_ret (v := VV 1 0 ⟨#[]⟩) (by simp [results, Tryd.results12, go_sem]) rfl ⟨rfl, ?_⟩
  exact (Below.refl _ _).alloc (Nat.le_refl _) _

set_option maxHeartbeats 400000 in
theorem refCheck_any (k n : Int) (s : ByteArray) (w : World) (hs : s.size ≤ 9223372036854775807) :
    Calls Tryd.prog 8 #[VV k n s] w fun e w' => e = .returned (.bool (okV k n s)) ∧ Below w.heap.size w w' := by
  go_enter Tryd.func8, Tryd.ntmps8
  go_wp2
  all_goals
    go_ret
    refine ⟨ret_bool (by simp_all [okV] <;> (intros; omega)), (Below.refl _ _).alloc (Nat.le_refl _) _⟩
theorem refCheck_yes (k n : Int) (s : ByteArray) (w : World) (hs : s.size ≤ 9223372036854775807) (h : okV k n s = true) :
    Calls Tryd.prog 8 #[VV k n s] w fun e w' => e = .returned (.bool true) ∧ Below w.heap.size w w' := by
  rw [← h]; exact refCheck_any k n s w hs
theorem refCheck_no (k n : Int) (s : ByteArray) (w : World) (hs : s.size ≤ 9223372036854775807) (h : okV k n s = false) :
    Calls Tryd.prog 8 #[VV k n s] w fun e w' => e = .returned (.bool false) ∧ Below w.heap.size w w' := by
  rw [← h]; exact refCheck_any k n s w hs

set_option maxHeartbeats 400000 in
theorem cmpInt_any (a b : Int) (w : World) :
    Calls Tryd.prog 35 #[.int .i64 a, .int .i64 b] w fun e w' => e = .returned (.int .i64 (cmpI a b)) ∧ w = w' := by
  go_enter Tryd.func35, Tryd.ntmps35
  go_wp2
  all_goals
    go_ret
    exact ⟨ret_int (by unfold cmpI; (repeat' split) <;> omega), rfl⟩
set_option maxHeartbeats 400000 in
theorem cmpStr_any (a b : ByteArray) (w : World) :
    Calls Tryd.prog 36 #[.string a, .string b] w fun e w' => e = .returned (.int .i64 (cmpS a b)) ∧ w = w' := by
  go_enter Tryd.func36, Tryd.ntmps36
  go_wp2
  all_goals
    go_ret
    exact ⟨ret_int (by simp_all [cmpS]), rfl⟩

end Go.Proofs.YtalkgfkekcocgaaDoor
