/-
  What must come of every program, of the laws of package value: it comes.
-/
import Derived.Test.YtalkgfkekcocgaaDoorDig
namespace Go.Proofs.YtalkgfkekcocgaaDoor
open Go.RowKit Go.Shelf

theorem check_no (k n : Int) (s : ByteArray) (w : World) (hs : s.size ≤ 9223372036854775807) (h : okV k n s = false) :
    Calls Tryd.prog 9 #[VV k n s] w fun e w' => e = .returned (.int .i64 10) ∧ Below w.heap.size w w' := by
  have := check_any k n s w hs; rw [h] at this; exact this
theorem check_yes (k n : Int) (s : ByteArray) (w : World) (hs : s.size ≤ 9223372036854775807) (h : okV k n s = true) :
    Calls Tryd.prog 9 #[VV k n s] w fun e w' => e = .returned (.int .i64 0) ∧ Below w.heap.size w w' := by
  have := check_any k n s w hs; rw [h] at this; exact this
theorem compare_b (c k n : Int) (s : ByteArray) (k' n' : Int) (s' : ByteArray) (w : World) (h : cmpV k n s k' n' s' = c) :
    Calls Tryd.prog 19 #[VV k n s, VV k' n' s'] w fun e w' => e = .returned (.int .i64 c) ∧ Below w.heap.size w w' := by
  rw [← h]; exact compare_any _ _ _ _ _ _ _
theorem equal_b (c k n : Int) (s : ByteArray) (k' n' : Int) (s' : ByteArray) (w : World) (hs : s.size ≤ 9223372036854775807) (hs' : s'.size ≤ 9223372036854775807) (h : equalV k n s k' n' s' = c) :
    Calls Tryd.prog 21 #[VV k n s, VV k' n' s'] w fun e w' => e = .returned (.int .i64 c) ∧ Below w.heap.size w w' := by
  rw [← h]; exact equal_any _ _ _ _ _ _ _ hs hs'
theorem less_b (c k n : Int) (s : ByteArray) (k' n' : Int) (s' : ByteArray) (w : World) (hs : s.size ≤ 9223372036854775807) (hs' : s'.size ≤ 9223372036854775807) (h : lessV k n s k' n' s' = c) :
    Calls Tryd.prog 23 #[VV k n s, VV k' n' s'] w fun e w' => e = .returned (.int .i64 c) ∧ Below w.heap.size w w' := by
  rw [← h]; exact less_any _ _ _ _ _ _ _ hs hs'
theorem and_b (c a b : Int) (w : World) (hT : Tabs w) (h : andT (tr a) (tr b) = c) :
    Calls Tryd.prog 28 #[.int .i64 a, .int .i64 b] w fun e w' => e = .returned (.int .i64 c) ∧ Below w.heap.size w w' := by
  rw [← h]; exact and_any _ _ _ hT
theorem or_b (c a b : Int) (w : World) (hT : Tabs w) (h : orT (tr a) (tr b) = c) :
    Calls Tryd.prog 29 #[.int .i64 a, .int .i64 b] w fun e w' => e = .returned (.int .i64 c) ∧ Below w.heap.size w w' := by
  rw [← h]; exact or_any _ _ _ hT
theorem not_b (c a : Int) (w : World) (hT : Tabs w) (h : notT (tr a) = c) :
    Calls Tryd.prog 27 #[.int .i64 a] w fun e w' => e = .returned (.int .i64 c) ∧ Below w.heap.size w w' := by
  rw [← h]; exact not_any _ _ hT
theorem vtruth_b (c k n : Int) (s : ByteArray) (w : World) (hs : s.size ≤ 9223372036854775807) (h : truthV k n s = c) :
    Calls Tryd.prog 25 #[VV k n s] w fun e w' => e = .returned (.int .i64 c) ∧ Below w.heap.size w w' := by
  rw [← h]; exact vtruth_any _ _ _ _ hs
theorem of_b (k n a : Int) (w : World) (hk : ofK a = k) (hn : ofN a = n) :
    Calls Tryd.prog 30 #[.int .i64 a] w fun e w' => e = .returned (VV k n ⟨#[]⟩) ∧ Below w.heap.size w w' := by
  rw [← hk, ← hn]; exact of_any _ _
theorem show_b (b : ByteArray) (k n : Int) (s : ByteArray) (w : World) (hs : s.size ≤ 9223372036854775807) (hT : Tabs w) (hP : Pows w) (h : bstr (showL k n s) = b) :
    Calls Tryd.prog 17 #[VV k n s] w fun e w' => e = .returned (.string b) ∧ Below w.heap.size w w' := by
  rw [← h]; exact show_any _ _ _ _ hs hT hP
theorem its_ok : okV 3 0 ⟨#[105, 116, 39, 115]⟩ = true := by decide
theorem its : bstr (showL 3 0 ⟨#[105, 116, 39, 115]⟩) = ⟨#[39, 105, 116, 39, 39, 115, 39]⟩ := by
  have e : showL 3 0 ⟨#[105, 116, 39, 115]⟩ = [39, 105, 116, 39, 39, 115, 39] := by
    unfold showL
    rw [if_pos its_ok]
    rfl
  rw [e]
  rfl
theorem nulls_eq (w : World) : (binOp .eql 23 (VV 0 0 ⟨#[]⟩) (VV 0 0 ⟨#[]⟩)).run Tryd.prog w = .ok (.bool true) w := by
  rw [run_eqV, show eqV 0 0 ⟨#[]⟩ 0 0 ⟨#[]⟩ = true from by decide +kernel]

set_option maxHeartbeats 2000000 in
theorem lives_any (w : World) (hT : Tabs w) (hP : Pows w) :
    Calls Tryd.prog 7 #[] w fun e w' => e = .returned (.bool true) ∧ Below w.heap.size w w' := by
  have HT := Lib.hid hT
  have HP := Lib.hid hP
  have hq := nulls_eq
  have hB0 := Below.refl w.heap.size w
  clear hT hP
  go_enter Tryd.func7, Tryd.ntmps7
  go_wp2_with fail
  refine (int_any _ _).mono ?_
  rintro e w1 ⟨rfl, hb⟩
  have hB1 := bt hB0 hb
  clear hb hB0
  go_wp2_with fail
  refine (check_no _ _ _ _ (by decide) (by decide)).mono ?_
  rintro e w2 ⟨rfl, hb⟩
  have hB2 := bt hB1 hb
  clear hb hB1
  go_wp2_with fail
  refine (int_any _ _).mono ?_
  rintro e w3 ⟨rfl, hb⟩
  have hB3 := bt hB2 hb
  clear hb hB2
  go_wp2_with fail
  refine (text_any _ _).mono ?_
  rintro e w4 ⟨rfl, hb⟩
  have hB4 := bt hB3 hb
  clear hb hB3
  go_wp2_with fail
  refine (compare_b (-1) _ _ _ _ _ _ _ (by decide +kernel)).mono ?_
  rintro e w5 ⟨rfl, hb⟩
  have hB5 := bt hB4 hb
  clear hb hB4
  go_wp2_with fail
  refine (int_any _ _).mono ?_
  rintro e w6 ⟨rfl, hb⟩
  have hB6 := bt hB5 hb
  clear hb hB5
  go_wp2_with fail
  refine (int_any _ _).mono ?_
  rintro e w7 ⟨rfl, hb⟩
  have hB7 := bt hB6 hb
  clear hb hB6
  go_wp2_with fail
  refine (equal_b 1 _ _ _ _ _ _ _ (by decide) (by decide) (by decide +kernel)).mono ?_
  rintro e w8 ⟨rfl, hb⟩
  have hB8 := bt hB7 hb
  clear hb hB7
  go_wp2_with fail
  refine (null_any _).mono ?_
  rintro e w9 ⟨rfl, hb⟩
  have hB9 := bt hB8 hb
  clear hb hB8
  go_wp2_with fail
  refine (int_any _ _).mono ?_
  rintro e w10 ⟨rfl, hb⟩
  have hB10 := bt hB9 hb
  clear hb hB9
  go_wp2_with fail
  refine (less_b 2 _ _ _ _ _ _ _ (by decide) (by decide) (by decide +kernel)).mono ?_
  rintro e w11 ⟨rfl, hb⟩
  have hB11 := bt hB10 hb
  clear hb hB10
  go_wp2_with fail
  refine (and_b 0 _ _ _ (HT.out.kept hB11) (by decide)).mono ?_
  rintro e w12 ⟨rfl, hb⟩
  have hB12 := bt hB11 hb
  clear hb hB11
  go_wp2_with fail
  refine (or_b 1 _ _ _ (HT.out.kept hB12) (by decide)).mono ?_
  rintro e w13 ⟨rfl, hb⟩
  have hB13 := bt hB12 hb
  clear hb hB12
  go_wp2_with fail
  refine (not_b 2 _ _ (HT.out.kept hB13) (by decide)).mono ?_
  rintro e w14 ⟨rfl, hb⟩
  have hB14 := bt hB13 hb
  clear hb hB13
  go_wp2_with fail
  refine (bool_true _).mono ?_
  rintro e w15 ⟨rfl, hb⟩
  have hB15 := bt hB14 hb
  clear hb hB14
  go_wp2_with fail
  refine (vtruth_b 1 _ _ _ _ (by decide) (by decide +kernel)).mono ?_
  rintro e w16 ⟨rfl, hb⟩
  have hB16 := bt hB15 hb
  clear hb hB15
  go_wp2_with fail
  refine (of_b 0 0 _ _ (by decide) (by decide)).mono ?_
  rintro e w17 ⟨rfl, hb⟩
  have hB17 := bt hB16 hb
  clear hb hB16
  go_wp2_with fail
  refine (null_any _).mono ?_
  rintro e w18 ⟨rfl, hb⟩
  have hB18 := bt hB17 hb
  clear hb hB17
  go_wp2_with fail
  refine (text_any _ _).mono ?_
  rintro e w19 ⟨rfl, hb⟩
  have hB19 := bt hB18 hb
  clear hb hB18
  go_wp2_with fail
  refine (show_b _ _ _ _ _ (by decide) (HT.out.kept hB19) (HP.out.kept hB19) its).mono ?_
  rintro e w20 ⟨rfl, hb⟩
  have hB20 := bt hB19 hb
  clear hb hB19
  go_wp2_with fail
  go_ret
  exact ⟨rfl, hB20⟩

end Go.Proofs.YtalkgfkekcocgaaDoor
