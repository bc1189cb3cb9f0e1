/-
  Contracts of value.Equal, value.Less, and of the document's own.
-/
import Derived.Test.YtalkgfkekcocgaaDoorCmp
import Derived.Test.YtalkgfkekcocgaaDoorOrd
import Derived.Shelf.Abstract
namespace Go.Proofs.YtalkgfkekcocgaaDoor
open Go.RowKit Go.Shelf

def b2i (b : Bool) : Int := if b then 1 else 0
theorem judge_equal (k n : Int) (s : ByteArray) (k' n' : Int) (s' : ByteArray) : judgeV (fun c => c == 0) k n s k' n' s' = equalV k n s k' n' s' := by
  unfold judgeV equalV
  cases knownV k n s && knownV k' n' s'
  · rfl
  · by_cases hk : k = k'
    · cases he : eqV k n s k' n' s'
      · have h0 : ¬ cmpV k n s k' n' s' = 0 := fun h => by rw [(cmpV_zero ..).1 h] at he; cases he
        subst hk
        simpa using h0
      · have h0 := (cmpV_zero k n s k' n' s').2 he
        subst hk
        simpa using h0
    · simp [hk, eqV]
theorem judge_less (k n : Int) (s : ByteArray) (k' n' : Int) (s' : ByteArray) : judgeV (fun c => decide (c < 0)) k n s k' n' s' = lessV k n s k' n' s' := by
  unfold judgeV lessV
  cases knownV k n s && knownV k' n' s'
  · rfl
  · by_cases hk : k = k' <;> simp [hk]

set_option maxHeartbeats 400000 in
theorem equal1 (b : Bool) (c : Int) (w : World) (h : (fun c : Int => c == 0) c = b) :
    Calls Tryd.prog 38 #[.int .i64 c] w fun e w' => e = .returned (.bool b) ∧ w = w' := by
  subst h
  go_enter Tryd.func38, Tryd.ntmps38
  go_wp2
  go_ret
  exact ⟨rfl, rfl⟩
set_option maxHeartbeats 400000 in
theorem less1 (b : Bool) (c : Int) (w : World) (h : (fun c : Int => decide (c < 0)) c = b) :
    Calls Tryd.prog 41 #[.int .i64 c] w fun e w' => e = .returned (.bool b) ∧ w = w' := by
  subst h
  go_enter Tryd.func41, Tryd.ntmps41
  go_wp2
  go_ret
  exact ⟨rfl, rfl⟩

set_option maxHeartbeats 400000 in
theorem equal_any (k n : Int) (s : ByteArray) (k' n' : Int) (s' : ByteArray) (w : World) (hs : s.size ≤ 9223372036854775807) (hs' : s'.size ≤ 9223372036854775807) :
    Calls Tryd.prog 21 #[VV k n s, VV k' n' s'] w fun e w' => e = .returned (.int .i64 (equalV k n s k' n' s')) ∧ Below w.heap.size w w' := by
  go_enter Tryd.func21, Tryd.ntmps21
  go_wp2_with fail
  refine (judge_any 38 _ equal1 _ _ _ _ _ _ _ hs hs' (enters_of Tryd.func38 (by kernel_rfl) rfl)).mono ?_
  rintro e w1 ⟨rfl, hb1⟩
  go_wp2_with fail
  go_ret
  exact ⟨ret_int (judge_equal ..), bt (ba2 _ _ _) hb1⟩
set_option maxHeartbeats 400000 in
theorem less_any (k n : Int) (s : ByteArray) (k' n' : Int) (s' : ByteArray) (w : World) (hs : s.size ≤ 9223372036854775807) (hs' : s'.size ≤ 9223372036854775807) :
    Calls Tryd.prog 23 #[VV k n s, VV k' n' s'] w fun e w' => e = .returned (.int .i64 (lessV k n s k' n' s')) ∧ Below w.heap.size w w' := by
  go_enter Tryd.func23, Tryd.ntmps23
  go_wp2_with fail
  refine (judge_any 41 _ less1 _ _ _ _ _ _ _ hs hs' (enters_of Tryd.func41 (by kernel_rfl) rfl)).mono ?_
  rintro e w1 ⟨rfl, hb1⟩
  go_wp2_with fail
  go_ret
  exact ⟨ret_int (judge_less ..), bt (ba2 _ _ _) hb1⟩

set_option maxHeartbeats 400000 in
theorem refTruthOf (b : Bool) (w : World) :
    Calls Tryd.prog 40 #[.bool b] w fun e w' => e = .returned (.int .i64 (b2i b)) ∧ w = w' := by
  cases b
  all_goals
    go_enter Tryd.func40, Tryd.ntmps40
    go_wp2
    go_ret
    exact ⟨rfl, rfl⟩

theorem refCheck_b (b : Bool) (k n : Int) (s : ByteArray) (w : World) (hs : s.size ≤ 9223372036854775807) (h : okV k n s = b) :
    Calls Tryd.prog 8 #[VV k n s] w fun e w' => e = .returned (.bool b) ∧ Below w.heap.size w w' := by
  rw [← h]; exact refCheck_any k n s w hs

set_option maxHeartbeats 1000000 in
theorem refKnown_any (k n : Int) (s : ByteArray) (k' n' : Int) (s' : ByteArray) (w : World) (hs : s.size ≤ 9223372036854775807) (hs' : s'.size ≤ 9223372036854775807) :
    Calls Tryd.prog 39 #[VV k n s, VV k' n' s'] w fun e w' => e = .returned (.bool (knownV k n s && knownV k' n' s')) ∧ Below w.heap.size w w' := by
  cases h1 : okV k n s
  · have Hf := Lib.hid (show (knownV k n s && knownV k' n' s') = false by simp [knownV, h1])
    have H1 := Lib.hid h1
    clear h1
    go_enter Tryd.func39, Tryd.ntmps39
    go_wp2_with fail
    refine (refCheck_b false _ _ _ _ hs H1.out).mono ?_
    rintro e w1 ⟨rfl, hb1⟩
    go_wp2_with fail
    go_ret
    exact ⟨ret_bool Hf.out.symm, bt (ba2 _ _ _) hb1⟩
  · have H1 := Lib.hid h1
    cases h2 : okV k' n' s'
    · have Hf := Lib.hid (show (knownV k n s && knownV k' n' s') = false by simp [knownV, h2])
      have H2 := Lib.hid h2
      clear h1 h2
      go_enter Tryd.func39, Tryd.ntmps39
      go_wp2_with fail
      refine (refCheck_b true _ _ _ _ hs H1.out).mono ?_
      rintro e w1 ⟨rfl, hb1⟩
      obtain ⟨c0, c1, c2, d0, d1, d2⟩ := box2 hb1
      go_wp2_with fail
      refine (refCheck_b false _ _ _ _ hs' H2.out).mono ?_
      rintro e w2 ⟨rfl, hb2⟩
      go_wp2_with fail
      go_ret
      exact ⟨ret_bool Hf.out.symm, bt (bt (ba2 _ _ _) hb1) hb2⟩
    · have Hf := Lib.hid (show (knownV k n s && knownV k' n' s') = (k != 0 && k' != 0) by simp [knownV, h1, h2])
      have H2 := Lib.hid h2
      clear h1 h2
      by_cases hk : k = 0
      · subst hk
        go_enter Tryd.func39, Tryd.ntmps39
        go_wp2_with fail
        refine (refCheck_b true _ _ _ _ hs H1.out).mono ?_
        rintro e w1 ⟨rfl, hb1⟩
        obtain ⟨c0, c1, c2, d0, d1, d2⟩ := box2 hb1
        go_wp2_with fail
        refine (refCheck_b true _ _ _ _ hs' H2.out).mono ?_
        rintro e w2 ⟨rfl, hb2⟩
        clear c0 c1 c2 d0 d1 d2
        have hB2 := bt hb1 hb2
        obtain ⟨c0, c1, c2, d0, d1, d2⟩ := box2 hB2
        go_wp2_with fail
        go_ret
        exact ⟨ret_bool (by rw [Hf.out]; rfl), bt (ba2 _ _ _) hB2⟩
      · have hk' : (k != 0) = true := by simpa using hk
        go_enter Tryd.func39, Tryd.ntmps39
        go_wp2_with fail
        refine (refCheck_b true _ _ _ _ hs H1.out).mono ?_
        rintro e w1 ⟨rfl, hb1⟩
        obtain ⟨c0, c1, c2, d0, d1, d2⟩ := box2 hb1
        go_wp2_with fail
        refine (refCheck_b true _ _ _ _ hs' H2.out).mono ?_
        rintro e w2 ⟨rfl, hb2⟩
        clear c0 c1 c2 d0 d1 d2
        have hB2 := bt hb1 hb2
        obtain ⟨c0, c1, c2, d0, d1, d2⟩ := box2 hB2
        go_wp2_with fail
        go_ret
        exact ⟨ret_bool (by rw [Hf.out, hk']; simp), bt (ba2 _ _ _) hB2⟩
theorem refKnown_b (b : Bool) (k n : Int) (s : ByteArray) (k' n' : Int) (s' : ByteArray) (w : World) (hs : s.size ≤ 9223372036854775807) (hs' : s'.size ≤ 9223372036854775807) (h : (knownV k n s && knownV k' n' s') = b) :
    Calls Tryd.prog 39 #[VV k n s, VV k' n' s'] w fun e w' => e = .returned (.bool b) ∧ Below w.heap.size w w' := by
  rw [← h]; exact refKnown_any k n s k' n' s' w hs hs'

set_option maxHeartbeats 1000000 in
theorem refEqual_any (k n : Int) (s : ByteArray) (k' n' : Int) (s' : ByteArray) (w : World) (hs : s.size ≤ 9223372036854775807) (hs' : s'.size ≤ 9223372036854775807) :
    Calls Tryd.prog 22 #[VV k n s, VV k' n' s'] w fun e w' => e = .returned (.int .i64 (equalV k n s k' n' s')) ∧ Below w.heap.size w w' := by
  cases h1 : (knownV k n s && knownV k' n' s')
  · have Hf := Lib.hid (show equalV k n s k' n' s' = 2 by unfold equalV; rw [h1]; rfl)
    have H1 := Lib.hid h1
    clear h1
    go_enter Tryd.func22, Tryd.ntmps22
    go_wp2_with fail
    refine (refKnown_b false _ _ _ _ _ _ _ hs hs' H1.out).mono ?_
    rintro e w1 ⟨rfl, hb1⟩
    go_wp2_with fail
    go_ret
    exact ⟨ret_int (by rw [Hf.out]), bt (ba2 _ _ _) hb1⟩
  · have Hf := Lib.hid (show equalV k n s k' n' s' = b2i (eqV k n s k' n' s') by unfold equalV b2i; rw [h1]; rfl)
    have H1 := Lib.hid h1
    have hq := run_eqV k n s k' n' s'
    clear h1
    go_enter Tryd.func22, Tryd.ntmps22
    go_wp2_with fail
    refine (refKnown_b true _ _ _ _ _ _ _ hs hs' H1.out).mono ?_
    rintro e w1 ⟨rfl, hb1⟩
    obtain ⟨c0, c1, c2, d0, d1, d2⟩ := box2 hb1
    go_wp2_with fail
    refine (refTruthOf _ _).mono ?_
    rintro e w2 ⟨rfl, rfl⟩
    go_wp2_with fail
    go_ret
    exact ⟨ret_int Hf.out.symm, bt (ba2 _ _ _) hb1⟩

set_option maxHeartbeats 1000000 in
theorem refLess_any (k n : Int) (s : ByteArray) (k' n' : Int) (s' : ByteArray) (w : World) (hs : s.size ≤ 9223372036854775807) (hs' : s'.size ≤ 9223372036854775807) :
    Calls Tryd.prog 24 #[VV k n s, VV k' n' s'] w fun e w' => e = .returned (.int .i64 (lessV k n s k' n' s')) ∧ Below w.heap.size w w' := by
  cases h1 : (knownV k n s && knownV k' n' s')
  · have Hf := Lib.hid (show lessV k n s k' n' s' = 2 by unfold lessV; rw [h1]; rfl)
    have H1 := Lib.hid h1
    clear h1
    go_enter Tryd.func24, Tryd.ntmps24
    go_wp2_with fail
    refine (refKnown_b false _ _ _ _ _ _ _ hs hs' H1.out).mono ?_
    rintro e w1 ⟨rfl, hb1⟩
    go_wp2_with fail
    go_ret
    exact ⟨ret_int (by rw [Hf.out]), bt (ba2 _ _ _) hb1⟩
  · have H1 := Lib.hid h1
    by_cases hk : k = k'
    · subst hk
      have Hf := Lib.hid (show lessV k n s k n' s' = b2i (decide (cmpV k n s k n' s' < 0)) by unfold lessV b2i; rw [h1]; simp)
      clear h1
      go_enter Tryd.func24, Tryd.ntmps24
      go_wp2_with fail
      refine (refKnown_b true _ _ _ _ _ _ _ hs hs' H1.out).mono ?_
      rintro e w1 ⟨rfl, hb1⟩
      obtain ⟨c0, c1, c2, d0, d1, d2⟩ := box2 hb1
      go_wp2_with fail
      refine (refCompare_any _ _ _ _ _ _ _).mono ?_
      rintro e w2 ⟨rfl, hb2⟩
      clear c0 c1 c2 d0 d1 d2
      go_wp2_with fail
      refine (refTruthOf _ _).mono ?_
      rintro e w3 ⟨rfl, rfl⟩
      go_wp2_with fail
      go_ret
      exact ⟨ret_int Hf.out.symm, bt (bt (ba2 _ _ _) hb1) hb2⟩
    · have Hf := Lib.hid (show lessV k n s k' n' s' = 0 by unfold lessV; rw [h1]; simp [hk])
      have hk' : (k == k') = false := by simpa using hk
      clear h1 hk
      go_enter Tryd.func24, Tryd.ntmps24
      go_wp2_with fail
      refine (refKnown_b true _ _ _ _ _ _ _ hs hs' H1.out).mono ?_
      rintro e w1 ⟨rfl, hb1⟩
      obtain ⟨c0, c1, c2, d0, d1, d2⟩ := box2 hb1
      go_wp2_with fail
      refine (refTruthOf _ _).mono ?_
      rintro e w3 ⟨rfl, rfl⟩
      go_wp2_with fail
      go_ret
      exact ⟨ret_int Hf.out.symm, bt (ba2 _ _ _) hb1⟩

end Go.Proofs.YtalkgfkekcocgaaDoor
