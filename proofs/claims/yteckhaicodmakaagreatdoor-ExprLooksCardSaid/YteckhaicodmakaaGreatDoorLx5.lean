/-
  Where blanks and remarks end.
-/
import Derived.Test.YteckhaicodmakaaGreatDoorLx4
import Derived.WalkMore
namespace Go.Proofs.YteckhaicodmakaaGreatDoor
open Go.RowKit Go.Shelf

theorem sk_true : ∀ r : Lx.B, Lx.sk true r = (r.takeWhile Lx.noEnd).length + Lx.sk false (r.drop (r.takeWhile Lx.noEnd).length)
  | [] => by simp [Lx.sk]
  | c :: r => by
    rw [Lx.sk]
    by_cases hc : c = 10
    · subst hc
      rw [if_pos rfl, List.takeWhile_cons, if_neg (by decide), List.length_nil, List.drop_zero, Lx.sk, if_pos (by decide)]; omega
    · rw [if_neg hc, List.takeWhile_cons, if_pos (by simpa [Lx.noEnd] using hc), List.length_cons, List.drop_succ_cons, sk_true r]; omega
theorem sk_blank {c : UInt8} {r : Lx.B} (h : Lx.blank c = true) : Lx.sk false (c :: r) = Lx.sk false r + 1 := by rw [Lx.sk, if_pos h]
theorem sk_rem {c : UInt8} {r : Lx.B} (h : Lx.blank c = false) (hp : Lib.hasPrefix (c :: r) [45, 45] = true) :
    Lx.sk false (c :: r) = ((c :: r).takeWhile Lx.noEnd).length + Lx.sk false ((c :: r).drop ((c :: r).takeWhile Lx.noEnd).length) := by
  have hh : c = 45 ∧ r.head? = some 45 := by
    cases r with
    | nil => simp [Lib.hasPrefix] at hp
    | cons x r => simp [Lib.hasPrefix] at hp; exact ⟨hp.1.symm, by simp [hp.2]⟩
  rw [Lx.sk, if_neg (by simp [h]), if_pos hh, List.takeWhile_cons, if_pos (by rw [hh.1]; decide), List.length_cons, List.drop_succ_cons, sk_true r]; omega
theorem sk_no {c : UInt8} {r : Lx.B} (h : Lx.blank c = false) (hp : Lib.hasPrefix (c :: r) [45, 45] = false) : Lx.sk false (c :: r) = 0 := by
  rw [Lx.sk, if_neg (by simp [h]), if_neg]
  rintro ⟨rfl, hr⟩
  cases r with
  | nil => simp at hr
  | cons x r => obtain rfl : x = 45 := by simpa using hr
                simp [Lib.hasPrefix] at hp
theorem bs_drop (s : ByteArray) (k : Nat) (h : k < s.size) : (bs s).drop k = s[k] :: (bs s).drop (k + 1) := by
  rw [List.drop_eq_getElem_cons (by rw [bs_len]; exact h)]; rfl
theorem bs_from (s : ByteArray) (k : Nat) : bs (s.extract k s.size) = (bs s).drop k := by
  rw [bs_extract, List.take_of_length_le (by rw [bs_len]; exact Nat.le_refl _)]

end Go.Proofs.YteckhaicodmakaaGreatDoor
