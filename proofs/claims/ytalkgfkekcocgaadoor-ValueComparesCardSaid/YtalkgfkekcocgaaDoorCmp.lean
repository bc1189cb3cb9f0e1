/-
  Contracts of value.Compare, of the document's own Compare, and of what is asked of two values.
-/
import Derived.Test.YtalkgfkekcocgaaDoorVal
import Derived.Laws.StructEq
import Derived.Lib.Hide
namespace Go.Proofs.YtalkgfkekcocgaaDoor
open Go.RowKit

set_option maxHeartbeats 400000 in
theorem compare_any (k n : Int) (s : ByteArray) (k' n' : Int) (s' : ByteArray) (w : World) :
    Calls Tryd.prog 19 #[VV k n s, VV k' n' s'] w fun e w' => e = .returned (.int .i64 (cmpV k n s k' n' s')) ∧ Below w.heap.size w w' := by
  have hB : ∀ o1 o2, Below w.heap.size w ((w.alloc o1).alloc o2) := fun o1 o2 => ((Below.refl _ _).alloc (Nat.le_refl _) _).alloc (by simp) _
  by_cases hk : k = k'
  · subst hk
    by_cases hn : n = n'
    · subst hn
      go_enter Tryd.func19, Tryd.ntmps19
      go_wp2_with (go_at_call 36; refine (cmpStr_any _ _ _).mono ?_; rintro e w' ⟨rfl, rfl⟩)
      go_ret
      exact ⟨ret_int (by simp [cmpV]), hB _ _⟩
    · have hn' : (n != n') = true := by simpa using hn
      go_enter Tryd.func19, Tryd.ntmps19
      go_wp2_with (go_at_call 35; refine (cmpInt_any _ _ _).mono ?_; rintro e w' ⟨rfl, rfl⟩)
      go_ret
      exact ⟨ret_int (by simp [cmpV, hn]), hB _ _⟩
  · have hk' : (k != k') = true := by simpa using hk
    go_enter Tryd.func19, Tryd.ntmps19
    go_wp2_with (go_at_call 35; refine (cmpInt_any _ _ _).mono ?_; rintro e w' ⟨rfl, rfl⟩)
    go_ret
    exact ⟨ret_int (by simp [cmpV, hk]), hB _ _⟩

theorem run_eqV (k n : Int) (s : ByteArray) (k' n' : Int) (s' : ByteArray) (w : World) :
    (binOp .eql 23 (VV k n s) (VV k' n' s')).run Tryd.prog w = .ok (.bool (eqV k n s k' n' s')) w := by
  have u3 := Tryd.underlying3
  have a3 := Tryd.isAgg3
  have z3 := Tryd.sizeOf3
  have u9 := Tryd.underlying9
  have a9 := Tryd.isAgg9
  have z9 := Tryd.sizeOf9
  have hS : Tryd.prog.underlying 23 = some (.struct (Tryd.prog.fieldsOf 23)) := by kernel_rfl
  have hp : Tryd.prog.stoodInHeld 23 = false := by kernel_rfl
  rw [run_eql_struct, show (10000 : Nat) = 9999 + 1 from rfl, run_equalIn_agg w 9999 23 _ _ hS hp]
  simp only [Program.fieldsOf, Tryd.underlying23]
  go_simp
  unfold eqV
  by_cases h1 : k = k' <;> by_cases h2 : n = n' <;> by_cases h3 : s.toList = s'.toList <;> simp [h1, h2, h3]

set_option maxHeartbeats 400000 in
theorem refCompare_any (k n : Int) (s : ByteArray) (k' n' : Int) (s' : ByteArray) (w : World) :
    Calls Tryd.prog 20 #[VV k n s, VV k' n' s'] w fun e w' => e = .returned (.int .i64 (cmpV k n s k' n' s')) ∧ Below w.heap.size w w' := by
  have hB : ∀ o1 o2, Below w.heap.size w ((w.alloc o1).alloc o2) := fun o1 o2 => ((Below.refl _ _).alloc (Nat.le_refl _) _).alloc (by simp) _
  have hq := run_eqV k n s k' n' s'
  go_enter Tryd.func20, Tryd.ntmps20
  go_wp2
  all_goals
    go_ret
    exact ⟨ret_int (by simp_all [cmpV, cmpS, cmpI, eqV] <;> omega), hB _ _⟩

set_option maxHeartbeats 400000 in
theorem known_any (k n : Int) (s : ByteArray) (w : World) (hs : s.size ≤ 9223372036854775807) :
    Calls Tryd.prog 47 #[VV k n s] w fun e w' => e = .returned (.bool (knownV k n s)) ∧ Below w.heap.size w w' := by
  by_cases hk : k = 0
  · have hk' : (k != 0) = false := by simpa using hk
    go_enter Tryd.func47, Tryd.ntmps47
    go_wp2_with fail
    go_ret
    exact ⟨ret_bool (by simp [knownV, hk]), (Below.refl _ _).alloc (Nat.le_refl _) _⟩
  · have hk' : (k != 0) = true := by simpa using hk
    go_enter Tryd.func47, Tryd.ntmps47
    go_wp2_with (go_at_call 31; refine (mayBe_any _ _ _ _ hs).mono ?_; rintro e w' ⟨rfl, hb⟩)
    go_ret
    exact ⟨ret_bool (by simp [knownV, hk]), ((Below.refl _ _).alloc (Nat.le_refl _) _).trans (hb.mono (by simp))⟩

set_option maxHeartbeats 400000 in
theorem vtruth_any (k n : Int) (s : ByteArray) (w : World) (hs : s.size ≤ 9223372036854775807) :
    Calls Tryd.prog 25 #[VV k n s] w fun e w' => e = .returned (.int .i64 (truthV k n s)) ∧ Below w.heap.size w w' := by
  by_cases hk : k = 1
  · subst hk
    cases hok : okV 1 n s
    · have hfin : truthV 1 n s = 2 := by simp [truthV, hok]
      have Hf := Lib.hid hfin
      have Hk := Lib.hid hok
      clear hfin hok
      go_enter Tryd.func25, Tryd.ntmps25
      go_wp2_with (go_at_call 31; refine (mayBe_no _ _ _ _ hs Hk.out).mono ?_; rintro e w' ⟨rfl, hb⟩)
      go_ret
      exact ⟨ret_int (by rw [Hf.out]), ((Below.refl _ _).alloc (Nat.le_refl _) _).trans (hb.mono (by simp))⟩
    · have hfin : truthV 1 n s = n := by simp [truthV, hok]
      have h01 : n = 0 ∨ n = 1 := by simp [okV] at hok; exact hok.1
      have Hf := Lib.hid hfin
      have Hk := Lib.hid hok
      clear hfin hok
      rcases h01 with h | h
      all_goals
        subst h
        go_enter Tryd.func25, Tryd.ntmps25
        go_wp2_with (go_at_call 31; refine (mayBe_yes _ _ _ _ hs Hk.out).mono ?_; rintro e w' ⟨rfl, hb⟩; obtain ⟨hc, hf⟩ := bcell hb)
        go_ret
        exact ⟨ret_int (by rw [Hf.out]), ((Below.refl _ _).alloc (Nat.le_refl _) _).trans (hb.mono (by simp))⟩
  · have hk' : (k != 1) = true := by simpa using hk
    go_enter Tryd.func25, Tryd.ntmps25
    go_wp2_with fail
    go_ret
    exact ⟨ret_int (by simp [truthV, hk]), (Below.refl _ _).alloc (Nat.le_refl _) _⟩

set_option maxHeartbeats 400000 in
theorem refTruth_any (k n : Int) (s : ByteArray) (w : World) (hs : s.size ≤ 9223372036854775807) :
    Calls Tryd.prog 26 #[VV k n s] w fun e w' => e = .returned (.int .i64 (truthV k n s)) ∧ Below w.heap.size w w' := by
  cases hok : okV k n s
  · have hfin : truthV k n s = 2 := by simp [truthV, hok]
    have Hf := Lib.hid hfin
    have Hk := Lib.hid hok
    clear hfin hok
    go_enter Tryd.func26, Tryd.ntmps26
    go_wp2_with (go_at_call 8; refine (refCheck_no _ _ _ _ hs Hk.out).mono ?_; rintro e w' ⟨rfl, hb⟩)
    go_ret
    exact ⟨ret_int (by rw [Hf.out]), ((Below.refl _ _).alloc (Nat.le_refl _) _).trans (hb.mono (by simp))⟩
  · have Hk := Lib.hid hok
    by_cases hk : k = 1
    · subst hk
      have Hf := Lib.hid (show truthV 1 n s = n by simp [truthV, hok])
      clear hok
      go_enter Tryd.func26, Tryd.ntmps26
      go_wp2_with (go_at_call 8; refine (refCheck_yes _ _ _ _ hs Hk.out).mono ?_; rintro e w' ⟨rfl, hb⟩; obtain ⟨hc, hf⟩ := bcell hb)
      go_ret
      exact ⟨ret_int (by rw [Hf.out]), ((Below.refl _ _).alloc (Nat.le_refl _) _).trans (hb.mono (by simp))⟩
    · have Hf := Lib.hid (show truthV k n s = 2 by simp [truthV, hk])
      have hk' : (k != 1) = true := by simpa using hk
      clear hok hk
      go_enter Tryd.func26, Tryd.ntmps26
      go_wp2_with (go_at_call 8; refine (refCheck_yes _ _ _ _ hs Hk.out).mono ?_; rintro e w' ⟨rfl, hb⟩; obtain ⟨hc, hf⟩ := bcell hb)
      go_ret
      exact ⟨ret_int (by rw [Hf.out]), ((Below.refl _ _).alloc (Nat.le_refl _) _).trans (hb.mono (by simp))⟩

theorem truthV_one : truthV 1 1 ⟨#[]⟩ = 1 := by decide +kernel
theorem truthV_zero : truthV 1 0 ⟨#[]⟩ = 0 := by decide +kernel

/-- What holds asks of the order of two values: is it so, where both are known and of one kind. -/
def judgeV (p : Int → Bool) (k n : Int) (s : ByteArray) (k' n' : Int) (s' : ByteArray) : Int :=
  if knownV k n s && knownV k' n' s' then (if k = k' then (if p (cmpV k n s k' n' s') then 1 else 0) else 0) else 2

theorem known_b (b : Bool) (k n : Int) (s : ByteArray) (w : World) (hs : s.size ≤ 9223372036854775807) (h : knownV k n s = b) :
    Calls Tryd.prog 47 #[VV k n s] w fun e w' => e = .returned (.bool b) ∧ Below w.heap.size w w' := by
  rw [← h]; exact known_any k n s w hs

set_option maxHeartbeats 1000000 in
theorem judge_any (g : Nat) (p : Int → Bool) (hg : ∀ (b : Bool) (c : Int) (W : World), p c = b → Calls Tryd.prog g #[.int .i64 c] W fun e W' => e = .returned (.bool b) ∧ W = W')
    (k n : Int) (s : ByteArray) (k' n' : Int) (s' : ByteArray) (w : World) (hs : s.size ≤ 9223372036854775807) (hs' : s'.size ≤ 9223372036854775807) (eg : ∀ args w, (callFunc g args).run Tryd.prog w = .ok (.enter g args) w) :
    Calls Tryd.prog 37 #[VV k n s, VV k' n' s', .func (.func g) #[] #[]] w fun e w' => e = .returned (.int .i64 (judgeV p k n s k' n' s')) ∧ Below w.heap.size w w' := by
  have HG := Lib.hid hg
  clear hg
  cases h1 : knownV k n s
  · have Hf := Lib.hid (show judgeV p k n s k' n' s' = 2 by simp [judgeV, h1])
    have H1 := Lib.hid h1
    clear h1
    go_enter Tryd.func37, Tryd.ntmps37
    go_wp2_with fail
    refine (known_b false _ _ _ _ hs H1.out).mono ?_
    rintro e w1 ⟨rfl, hb1⟩
    go_wp2_with fail
    go_ret
    exact ⟨ret_int (by rw [Hf.out]), bt (ba2 _ _ _) hb1⟩
  · have H1 := Lib.hid h1
    cases h2 : knownV k' n' s'
    · have Hf := Lib.hid (show judgeV p k n s k' n' s' = 2 by simp [judgeV, h2])
      have H2 := Lib.hid h2
      clear h1 h2
      go_enter Tryd.func37, Tryd.ntmps37
      go_wp2_with fail
      refine (known_b true _ _ _ _ hs H1.out).mono ?_
      rintro e w1 ⟨rfl, hb1⟩
      obtain ⟨c0, c1, c2, d0, d1, d2⟩ := box2 hb1
      go_wp2_with fail
      refine (known_b false _ _ _ _ hs' H2.out).mono ?_
      rintro e w2 ⟨rfl, hb2⟩
      go_wp2_with fail
      go_ret
      exact ⟨ret_int (by rw [Hf.out]), bt (bt (ba2 _ _ _) hb1) hb2⟩
    · have H2 := Lib.hid h2
      by_cases hk : k = k'
      · subst hk
        cases hp : p (cmpV k n s k n' s')
        all_goals
          have HP := Lib.hid hp
        · have Hf := Lib.hid (show judgeV p k n s k n' s' = 0 by simp [judgeV, h1, h2, hp])
          clear h1 h2 hp
          go_enter Tryd.func37, Tryd.ntmps37
          go_wp2_with fail
          refine (known_b true _ _ _ _ hs H1.out).mono ?_
          rintro e w1 ⟨rfl, hb1⟩
          obtain ⟨c0, c1, c2, d0, d1, d2⟩ := box2 hb1
          go_wp2_with fail
          refine (known_b true _ _ _ _ hs' H2.out).mono ?_
          rintro e w2 ⟨rfl, hb2⟩
          clear c0 c1 c2 d0 d1 d2
          have hB2 := bt hb1 hb2
          obtain ⟨c0, c1, c2, d0, d1, d2⟩ := box2 hB2
          go_wp2_with fail
          refine (compare_any _ _ _ _ _ _ _).mono ?_
          rintro e w3 ⟨rfl, hb3⟩
          clear c0 c1 c2 d0 d1 d2
          go_wp2_with fail
          refine (HG.out false _ _ HP.out).mono ?_
          rintro e w4 ⟨rfl, rfl⟩
          go_wp2_with fail
          refine (bool_false _).mono ?_
          rintro e w4 ⟨rfl, hb4⟩
          go_wp2_with fail
          refine (vtruth_any _ _ _ _ (by decide)).mono ?_
          rintro e w5 ⟨rfl, hb5⟩
          go_wp2_with fail
          go_ret
          exact ⟨ret_int (by rw [Hf.out, truthV_zero]), bt (bt (bt (bt (ba2 _ _ _) hB2) hb3) hb4) hb5⟩
        · have Hf := Lib.hid (show judgeV p k n s k n' s' = 1 by simp [judgeV, h1, h2, hp])
          clear h1 h2 hp
          go_enter Tryd.func37, Tryd.ntmps37
          go_wp2_with fail
          refine (known_b true _ _ _ _ hs H1.out).mono ?_
          rintro e w1 ⟨rfl, hb1⟩
          obtain ⟨c0, c1, c2, d0, d1, d2⟩ := box2 hb1
          go_wp2_with fail
          refine (known_b true _ _ _ _ hs' H2.out).mono ?_
          rintro e w2 ⟨rfl, hb2⟩
          clear c0 c1 c2 d0 d1 d2
          have hB2 := bt hb1 hb2
          obtain ⟨c0, c1, c2, d0, d1, d2⟩ := box2 hB2
          go_wp2_with fail
          refine (compare_any _ _ _ _ _ _ _).mono ?_
          rintro e w3 ⟨rfl, hb3⟩
          clear c0 c1 c2 d0 d1 d2
          go_wp2_with fail
          refine (HG.out true _ _ HP.out).mono ?_
          rintro e w4 ⟨rfl, rfl⟩
          go_wp2_with fail
          refine (bool_true _).mono ?_
          rintro e w4 ⟨rfl, hb4⟩
          go_wp2_with fail
          refine (vtruth_any _ _ _ _ (by decide)).mono ?_
          rintro e w5 ⟨rfl, hb5⟩
          go_wp2_with fail
          go_ret
          exact ⟨ret_int (by rw [Hf.out, truthV_one]), bt (bt (bt (bt (ba2 _ _ _) hB2) hb3) hb4) hb5⟩
      · have Hf := Lib.hid (show judgeV p k n s k' n' s' = 0 by simp [judgeV, h1, h2, hk])
        have hk' : (k != k') = true := by simpa using hk
        clear h1 h2 hk
        go_enter Tryd.func37, Tryd.ntmps37
        go_wp2_with fail
        refine (known_b true _ _ _ _ hs H1.out).mono ?_
        rintro e w1 ⟨rfl, hb1⟩
        obtain ⟨c0, c1, c2, d0, d1, d2⟩ := box2 hb1
        go_wp2_with fail
        refine (known_b true _ _ _ _ hs' H2.out).mono ?_
        rintro e w2 ⟨rfl, hb2⟩
        clear c0 c1 c2 d0 d1 d2
        have hB2 := bt hb1 hb2
        obtain ⟨c0, c1, c2, d0, d1, d2⟩ := box2 hB2
        go_wp2_with fail
        go_ret
        exact ⟨ret_int (by rw [Hf.out]), bt (ba2 _ _ _) hB2⟩

end Go.Proofs.YtalkgfkekcocgaaDoor
