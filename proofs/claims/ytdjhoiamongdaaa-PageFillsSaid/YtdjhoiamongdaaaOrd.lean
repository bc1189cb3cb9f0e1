/-
  Plain: the order of values is one. Nothing of the program stands here.
-/
import Derived.Test.YtdjhoiamongdaaaPlain
import Derived.Sort.Walk0
namespace Go.Proofs.Ytdjhoiamongdaaa

theorem bytesLess_irr (l : List UInt8) : Op.bytesLess l l = false := by
  rw [bytesLess_eq]; simp
theorem cmpS_zero (s s' : ByteArray) : cmpS s s' = 0 ↔ s.toList = s'.toList := by
  unfold cmpS
  by_cases h : s.toList = s'.toList
  · simp [h, bytesLess_irr]
  · cases hl : Op.bytesLess s.toList s'.toList <;> simp [h]
theorem cmpI_zero (a b : Int) : cmpI a b = 0 ↔ a = b := by
  unfold cmpI; (repeat' split) <;> omega
theorem cmpV_zero (k n : Int) (s : ByteArray) (k' n' : Int) (s' : ByteArray) : cmpV k n s k' n' s' = 0 ↔ eqV k n s k' n' s' = true := by
  unfold cmpV eqV
  by_cases hk : k = k' <;> by_cases hn : n = n' <;> simp [hk, hn, cmpS_zero, cmpI_zero]

theorem cmpI_range (a b : Int) : -1 ≤ cmpI a b ∧ cmpI a b ≤ 1 := by unfold cmpI; (repeat' split) <;> omega
theorem cmpS_range (s s' : ByteArray) : -1 ≤ cmpS s s' ∧ cmpS s s' ≤ 1 := by unfold cmpS; (repeat' split) <;> omega
theorem cmpV_range (k n : Int) (s : ByteArray) (k' n' : Int) (s' : ByteArray) : -1 ≤ cmpV k n s k' n' s' ∧ cmpV k n s k' n' s' ≤ 1 := by
  unfold cmpV
  (repeat' split)
  · exact cmpS_range ..
  · exact cmpI_range ..
  · exact cmpI_range ..
theorem cmpI_anti (a b : Int) : cmpI b a = - cmpI a b := by unfold cmpI; (repeat' split) <;> omega
theorem cmpS_lt (s s' : ByteArray) : cmpS s s' < 0 ↔ s.toList < s'.toList := by
  unfold cmpS
  rw [bytesLess_eq]
  by_cases h : s.toList < s'.toList
  · simp [h]
  · simp only [h, decide_false, Bool.false_eq_true, if_false]
    split <;> simp
theorem cmpS_gt (s s' : ByteArray) : 0 < cmpS s s' ↔ s'.toList < s.toList := by
  unfold cmpS
  rw [bytesLess_eq]
  by_cases h : s.toList < s'.toList
  · simp only [h, decide_true, if_true]
    exact ⟨fun h' => absurd h' (by decide), fun h' => absurd h' (List.lt_asymm h)⟩
  · simp only [h, decide_false, Bool.false_eq_true, if_false]
    by_cases he : s.toList = s'.toList
    · rw [he]; simp
    · have : s'.toList < s.toList := by
        by_cases h2 : s'.toList < s.toList
        · exact h2
        · exact absurd (List.le_antisymm (List.not_lt.1 h2) (List.not_lt.1 h)) he
      simp [he, this]
theorem cmpS_anti (s s' : ByteArray) : cmpS s' s = - cmpS s s' := by
  have r1 := cmpS_range s s'
  have r2 := cmpS_range s' s
  have z1 := cmpS_zero s s'
  have z2 := cmpS_zero s' s
  have l1 := cmpS_lt s s'
  have g1 := cmpS_gt s s'
  have l2 := cmpS_lt s' s
  have g2 := cmpS_gt s' s
  by_cases h : s.toList = s'.toList
  · rw [z1.2 h, z2.2 h.symm]; rfl
  · have n1 : cmpS s s' ≠ 0 := fun e => h (z1.1 e)
    by_cases hl : s.toList < s'.toList
    · have := l1.2 hl; have := g2.2 hl; omega
    · have h1 : ¬ cmpS s s' < 0 := fun e => hl (l1.1 e)
      have := l2.2 (g1.1 (by omega))
      omega
theorem cmpV_anti (k n : Int) (s : ByteArray) (k' n' : Int) (s' : ByteArray) : cmpV k' n' s' k n s = - cmpV k n s k' n' s' := by
  unfold cmpV
  by_cases hk : k = k'
  · by_cases hn : n = n'
    · rw [if_pos hk.symm, if_pos hn.symm, if_pos hk, if_pos hn]; exact cmpS_anti ..
    · rw [if_pos hk.symm, if_neg (fun e => hn e.symm), if_pos hk, if_neg hn]; exact cmpI_anti ..
  · rw [if_neg (fun e => hk e.symm), if_neg hk]; exact cmpI_anti ..
theorem cmpS_trans (a b c : ByteArray) (h1 : cmpS a b ≤ 0) (h2 : cmpS b c ≤ 0) : cmpS a c ≤ 0 ∧ (cmpS a b = 0 ∧ cmpS b c = 0 ∨ cmpS a c < 0) := by
  by_cases e1 : a.toList = b.toList
  · have z1 := (cmpS_zero a b).2 e1
    by_cases e2 : b.toList = c.toList
    · have z2 := (cmpS_zero b c).2 e2
      have z3 := (cmpS_zero a c).2 (e1.trans e2)
      omega
    · have l2 : cmpS b c < 0 := by have : cmpS b c ≠ 0 := fun e => e2 ((cmpS_zero b c).1 e); omega
      have l3 : cmpS a c < 0 := (cmpS_lt a c).2 (by rw [e1]; exact (cmpS_lt b c).1 l2)
      omega
  · have l1 : cmpS a b < 0 := by have : cmpS a b ≠ 0 := fun e => e1 ((cmpS_zero a b).1 e); omega
    have l3 : cmpS a c < 0 := by
      rw [cmpS_lt]
      by_cases e2 : b.toList = c.toList
      · rw [← e2]; exact (cmpS_lt a b).1 l1
      · have l2 : cmpS b c < 0 := by have : cmpS b c ≠ 0 := fun e => e2 ((cmpS_zero b c).1 e); omega
        exact List.lt_trans ((cmpS_lt a b).1 l1) ((cmpS_lt b c).1 l2)
    omega
theorem cmpV_le (k n : Int) (s : ByteArray) (k' n' : Int) (s' : ByteArray) : cmpV k n s k' n' s' ≤ 0 ↔ k < k' ∨ (k = k' ∧ (n < n' ∨ (n = n' ∧ cmpS s s' ≤ 0))) := by
  unfold cmpV cmpI
  (repeat' split) <;> omega
theorem cmpV_lt (k n : Int) (s : ByteArray) (k' n' : Int) (s' : ByteArray) : cmpV k n s k' n' s' < 0 ↔ k < k' ∨ (k = k' ∧ (n < n' ∨ (n = n' ∧ cmpS s s' < 0))) := by
  unfold cmpV cmpI
  (repeat' split) <;> omega
theorem cmpV_eq (k n : Int) (s : ByteArray) (k' n' : Int) (s' : ByteArray) : cmpV k n s k' n' s' = 0 ↔ k = k' ∧ n = n' ∧ cmpS s s' = 0 := by
  unfold cmpV cmpI
  (repeat' split) <;> omega
theorem cmpV_trans (k n : Int) (s : ByteArray) (k' n' : Int) (s' : ByteArray) (k'' n'' : Int) (s'' : ByteArray) (h1 : cmpV k n s k' n' s' ≤ 0) (h2 : cmpV k' n' s' k'' n'' s'' ≤ 0) :
    cmpV k n s k'' n'' s'' ≤ 0 ∧ (cmpV k n s k' n' s' = 0 ∧ cmpV k' n' s' k'' n'' s'' = 0 ∨ cmpV k n s k'' n'' s'' < 0) := by
  have t := cmpS_trans s s' s''
  rw [cmpV_le] at h1 h2
  rw [cmpV_le, cmpV_lt, cmpV_eq, cmpV_eq]
  generalize cmpS s s' = x at *
  generalize cmpS s' s'' = y at *
  generalize cmpS s s'' = z at *
  omega

end Go.Proofs.Ytdjhoiamongdaaa
