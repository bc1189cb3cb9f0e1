/-
  Plain: a text with each quote doubled is what ReplaceAll makes of it; digits of numbers. Nothing of the program stands here.
-/
import Derived.Test.YteckhaicodmakaaGreatDoorPlain
import Derived.Lib.Replace
import Derived.Lib.IndexBytes
import Derived.Lib.ItoaNum
namespace Go.Proofs.YteckhaicodmakaaGreatDoor
open Go.Lib

/-- Each quote doubled. -/
def dbl (l : List UInt8) : List UInt8 := l.flatMap fun c => if c = 39 then [39, 39] else [c]

theorem dbl_le (l : List UInt8) : (dbl l).length ≤ 2 * l.length := by
  induction l with
  | nil => simp [dbl]
  | cons b l ih =>
    have e : dbl (b :: l) = (if b = 39 then [39, 39] else [b]) ++ dbl l := rfl
    rw [e, List.length_append]
    split <;> simp <;> omega

theorem replaceK_dbl (l : List UInt8) : replaceK [39] [39, 39] (l.count 39) l = dbl l := by
  induction l with
  | nil => simp [replaceK, dbl]
  | cons b l ih =>
    by_cases hb : b = 39
    · subst hb
      rw [List.count_cons_self, replaceK_hit _ _ _ _ 0 (by simp [index])]
      simp [ih, dbl]
    · rw [List.count_cons_of_ne hb]
      have e : dbl (b :: l) = b :: dbl l := by simp [dbl, hb]
      rw [e, ← ih]
      cases hk : l.count 39 with
      | zero => simp [replaceK]
      | succ k =>
        obtain ⟨i, hi⟩ := index_of_count (s := l) (old := [39]) (by rw [count_one, hk]; omega)
        have hi' : index (b :: l) [39] = ((i + 1 : Nat) : Int) := by
          have hp : ¬ ([39] : List UInt8).isPrefixOf (b :: l) = true := by
            simp [List.isPrefixOf]; exact fun h => hb h.symm
          rw [index, if_neg hp, hi, if_neg (by simp)]
          omega
        rw [replaceK_hit _ _ _ _ _ hi', replaceK_hit _ _ _ _ _ hi]
        simp

theorem replaceAll_dbl (l : List UInt8) : replaceAll l [39] [39, 39] = dbl l := by
  unfold replaceAll replace replaceNum
  rw [if_neg (by decide), if_pos (.inl (by decide)), count_one, replaceK_dbl]

end Go.Proofs.YteckhaicodmakaaGreatDoor
