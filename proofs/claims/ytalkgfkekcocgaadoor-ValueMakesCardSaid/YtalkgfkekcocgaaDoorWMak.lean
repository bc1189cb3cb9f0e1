/-
  The walk of the law ValueMakes: a value of any kind; which may be; how any one is shown.
-/
import Derived.Test.YtalkgfkekcocgaaDoorLives
import Derived.Deep.RegionHeld3
namespace Go.Proofs.YtalkgfkekcocgaaDoor
open Go.RowKit Go.Shelf

theorem eqV_self (k n : Int) (s : ByteArray) (w : World) : (binOp .eql 23 (VV k n s) (VV k n s)).run Tryd.prog w = .ok (.bool true) w := by
  rw [run_eqV, show eqV k n s k n s = true by simp [eqV]]
theorem bool_any (b : Bool) (w : World) :
    Calls Tryd.prog 11 #[.bool b] w fun e w' => e = .returned (VV 1 (b2i b) ⟨#[]⟩) ∧ Below w.heap.size w w' := by
  cases b
  · exact bool_false w
  · exact bool_true w
theorem refBool_any (b : Bool) (w : World) :
    Calls Tryd.prog 12 #[.bool b] w fun e w' => e = .returned (VV 1 (b2i b) ⟨#[]⟩) ∧ Below w.heap.size w w' := by
  cases b
  · exact refBool_false w
  · exact refBool_true w
theorem check_b (c k n : Int) (s : ByteArray) (w : World) (hs : s.size ≤ 9223372036854775807) (h : (if okV k n s then 0 else 10) = c) :
    Calls Tryd.prog 9 #[VV k n s] w fun e w' => e = .returned (.int .i64 c) ∧ Below w.heap.size w w' := by
  rw [← h]; exact check_any k n s w hs

set_option maxRecDepth 100000 in
set_option maxHeartbeats 8000000 in
theorem makes_in (ok : Bool) (k n : Int) (s : ByteArray) (is : Bool) (n' : Int) (s' : ByteArray) (w : World) (hs : s.size ≤ 5000) (hs' : s'.size ≤ 5000) (hok : okV k n s = ok) (hT : Tabs w) (hP : Pows w) :
    Calls Tryd.prog 3 #[VV k n s, .bool is, .int .i64 n', .string s'] w fun e w' => e = .returned (.bool true) ∧ Below w.heap.size w w' := by
  have HT := Lib.hid hT
  have HP := Lib.hid hP
  have HK := Lib.hid hok
  have HC := Lib.hid (show (if okV k n s = true then (0 : Int) else 10) = if ok = true then 0 else 10 by rw [hok])
  have hq := eqV_self
  clear hT hP hok
  cases ok
  all_goals
    go_enter Tryd.func3, Tryd.ntmps3
    go_wp2_with fail
    refine (refCheck_b _ _ _ _ _ (by omega) HK.out).mono ?_
    rintro e W ⟨rfl, hb1⟩
    obtain ⟨a0, a1, a2⟩ := box1 hb1
    have hB0 := bt (ba _ _) hb1
    have hB1 := Below.drew hB0
    clear hb1
    go_wp2_with fail
    go_region_held3 (fun w' => Below w.heap.size w w' ∧ w'.cell? ⟨w.heap.size, 0, none⟩ = some (.int .i64 k) ∧ w'.cell? ⟨w.heap.size, 1, none⟩ = some (.int .i64 n) ∧ w'.cell? ⟨w.heap.size, 2, none⟩ = some (.string s))
      (first
        | exact ⟨hB1, a0, a1, a2⟩
        | ((try go_split_ands)
           refine ⟨?_, ?_, ?_, ?_⟩
           all_goals first | assumption | (exact Below.drew (by assumption)) | (exact bt (by assumption) hb) | (exact cell_kept hb (by assumption)) | go_keep))
      (first
        | (go_at_call 7; refine (lives_any _ (HT.out.kept hB1) (HP.out.kept hB1)).mono ?_; rintro e w' ⟨rfl, hb⟩)
        | (go_at_call 9; refine (check_b _ _ _ _ _ ?_ HC.out).mono ?_; (exact Nat.le_trans hs (by decide)); rintro e w' ⟨rfl, hb⟩)
        | (go_at_call 10; refine (null_any _).mono ?_; rintro e w' ⟨rfl, hb⟩)
        | (go_at_call 11; refine (bool_any _ _).mono ?_; rintro e w' ⟨rfl, hb⟩)
        | (go_at_call 12; refine (refBool_any _ _).mono ?_; rintro e w' ⟨rfl, hb⟩)
        | (go_at_call 13; refine (int_any _ _).mono ?_; rintro e w' ⟨rfl, hb⟩)
        | (go_at_call 14; refine (refInt_any _ _).mono ?_; rintro e w' ⟨rfl, hb⟩)
        | (go_at_call 15; refine (text_any _ _).mono ?_; rintro e w' ⟨rfl, hb⟩)
        | (go_at_call 16; refine (refText_any _ _).mono ?_; rintro e w' ⟨rfl, hb⟩)
        | (go_at_call 17; go_split_ands; refine (show_any _ _ _ _ ?_ (HT.out.kept ?_) (HP.out.kept ?_)).mono ?_; (exact Nat.le_trans hs (by decide)); assumption; assumption; rintro e w' ⟨rfl, hb⟩)
        | (go_at_call 18; refine (refShow_any _ _ _ _ ?_).mono ?_; (exact Nat.le_trans hs (by decide)); rintro e w' ⟨rfl, hb⟩))
    rename_i hold
    have hB := hold.1
    clear hold
    go_wp2_with fail
    go_ret
    exact ⟨rfl, hB⟩

set_option maxHeartbeats 1000000 in
theorem makes_walk (k n : Int) (s : ByteArray) (is : Bool) (n' : Int) (s' : ByteArray) (w : World) (hs : s.size ≤ 9223372036854775807) (hs' : s'.size ≤ 9223372036854775807) (hT : Tabs w) (hP : Pows w) :
    Calls Tryd.prog 3 #[VV k n s, .bool is, .int .i64 n', .string s'] w fun e w' => e = .returned (.bool true) ∧ Below w.heap.size w w' := by
  by_cases h1 : 5000 < s'.size
  · have HT := Lib.hid hT
    have HP := Lib.hid hP
    clear hT hP
    go_enter Tryd.func3, Tryd.ntmps3
    go_wp2_with fail
    refine (lives_any _ (HT.out.kept (ba _ _)) (HP.out.kept (ba _ _))).mono ?_
    rintro e w1 ⟨rfl, hb⟩
    go_wp2_with fail
    go_ret
    exact ⟨rfl, bt (ba _ _) hb⟩
  · by_cases h2 : 5000 < s.size
    · have HT := Lib.hid hT
      have HP := Lib.hid hP
      clear hT hP
      go_enter Tryd.func3, Tryd.ntmps3
      go_wp2_with fail
      refine (lives_any _ (HT.out.kept (ba _ _)) (HP.out.kept (ba _ _))).mono ?_
      rintro e w1 ⟨rfl, hb⟩
      go_wp2_with fail
      go_ret
      exact ⟨rfl, bt (ba _ _) hb⟩
    · exact makes_in _ k n s is n' s' w (by omega) (by omega) rfl hT hP

end Go.Proofs.YtalkgfkekcocgaaDoor
