/-
  Plain: the order of rows is one.
-/
import Derived.Test.YtdjhoiamongdaaaRMem
namespace Go.Proofs.Ytdjhoiamongdaaa
open Go.RowKit

theorem cmpA_trans {a b c : Va} (h1 : cmpA a b ≤ 0) (h2 : cmpA b c ≤ 0) : cmpA a c ≤ 0 ∧ (cmpA a b = 0 ∧ cmpA b c = 0 ∨ cmpA a c < 0) := cmpV_trans _ _ _ _ _ _ _ _ _ h1 h2
theorem cmpA_eq {a b : Va} (h : cmpA a b = 0) : a = b := by
  obtain ⟨k, n, s⟩ := a
  obtain ⟨k', n', s'⟩ := b
  obtain ⟨rfl, rfl, hs⟩ := (cmpV_eq _ _ _ _ _ _).1 h
  have := (cmpS_zero s s').1 hs
  rw [ByteArray.toList_eq, ByteArray.toList_eq] at this
  have e : s = s' := ByteArray.ext (Array.toList_inj.1 this)
  rw [e]
theorem cmpA_self (a : Va) : cmpA a a = 0 := by have := cmpA_anti a a; omega
theorem cmpR_eq : ∀ {r r' : List Va}, cmpR r r' = 0 → r = r'
  | [], [], _ => rfl
  | [], _ :: _, h => by simp [cmpR] at h
  | _ :: _, [], h => by simp [cmpR] at h
  | a :: r, b :: r', h => by
    rw [cmpR] at h
    split at h
    · rename_i h0; rw [cmpA_eq h0, cmpR_eq h]
    · rename_i h0; exact absurd h h0
theorem cmpR_self (r : List Va) : cmpR r r = 0 := by have := cmpR_anti r r; omega
theorem cmpR_trans : ∀ {r r' r'' : List Va}, cmpR r r' ≤ 0 → cmpR r' r'' ≤ 0 → cmpR r r'' ≤ 0
  | [], _, [], _, _ => by simp [cmpR]
  | [], _, _ :: _, _, _ => by simp [cmpR]
  | _ :: _, [], _, h, _ => by simp [cmpR] at h
  | _ :: _, _ :: _, [], _, h => by simp [cmpR] at h
  | a :: r, b :: r', c :: r'', h1, h2 => by
    rw [cmpR] at h1 h2 ⊢
    by_cases e1 : cmpA a b = 0
    · obtain rfl := cmpA_eq e1
      rw [if_pos e1] at h1
      by_cases e2 : cmpA a c = 0
      · rw [if_pos e2] at h2 ⊢
        exact cmpR_trans h1 h2
      · rw [if_neg e2] at h2 ⊢
        exact h2
    · rw [if_neg e1] at h1
      by_cases e2 : cmpA b c = 0
      · obtain rfl := cmpA_eq e2
        rw [if_neg e1]; exact h1
      · rw [if_neg e2] at h2
        have := cmpA_trans h1 h2
        have h3 : cmpA a c < 0 := by omega
        rw [if_neg (by omega)]; omega

end Go.Proofs.Ytdjhoiamongdaaa
