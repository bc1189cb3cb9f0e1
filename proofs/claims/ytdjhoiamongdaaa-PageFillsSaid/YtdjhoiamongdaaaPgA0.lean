/-
  Plain: a page with a row more.
-/
import Derived.Test.YtdjhoiamongdaaaPgP2
namespace Go.Proofs.Ytdjhoiamongdaaa
open Go.RowKit

def splice (l : List Int) (e : Nat) (b : List Int) : List Int := l.take e ++ b ++ l.drop (e + b.length)
/-- What putting bytes behind n rows that end at e makes of a page. -/
def putB (bs : List Int) (n e : Nat) (b : List Int) : List Int :=
  (splice ((bs.set (254 - 2 * n) ((e / 256 : Nat) : Int)).set (255 - 2 * n) ((e % 256 : Nat) : Int)) e b).set 0 (((n + 1) % 256 : Nat) : Int)
theorem tailP_snoc (ss : List Nat) (s : Nat) : tailP (ss ++ [s]) = [((s / 256 : Nat) : Int), ((s % 256 : Nat) : Int)] ++ tailP ss := by
  induction ss with
  | nil => rfl
  | cons x ss ih => rw [List.cons_append, tailP, tailP, ih, List.append_assoc]
theorem starts_snoc (e : Nat) (rs : List (List Va)) (r : List Va) : starts e (rs ++ [r]) = starts e rs ++ [e + lenP rs] := by
  induction rs generalizing e with
  | nil => simp [starts, lenP, bodyP]
  | cons x rs ih => rw [List.cons_append, starts, starts, ih, lenP_cons, List.cons_append, Nat.add_assoc]
theorem bodyP_snoc (rs : List (List Va)) (r : List Va) : bodyP (rs ++ [r]) = bodyP rs ++ putR r := by simp [bodyP]
theorem lenP_snoc (rs : List (List Va)) (r : List Va) : lenP (rs ++ [r]) = lenP rs + sizeR r := by simp [lenP, bodyP_snoc, sizeR_len]

theorem put_make {rs : List (List Va)} {r : List Va} (h : fitsP (rs ++ [r]) = true) : putB (makeP rs) rs.length (1 + lenP rs) (putR r) = makeP (rs ++ [r]) := by
  obtain ⟨_, h2, h3⟩ := fitsP_parts h
  rw [lenP_snoc, List.length_append] at h2
  rw [List.length_append] at h3
  simp only [List.length_cons, List.length_nil] at h2 h3
  obtain ⟨z, hz⟩ : ∃ z, 255 - 2 * rs.length - lenP rs = sizeR r + (z + 2) := ⟨255 - 2 * rs.length - lenP rs - sizeR r - 2, by omega⟩
  have hn : 255 - 2 * (rs.length + 1) - (lenP rs + sizeR r) = z := by omega
  have hF : ((rs.length : Int) :: bodyP rs).length = 1 + lenP rs := by simp [lenP]; omega
  have e1 : makeP rs = (((rs.length : Int) :: bodyP rs) ++ (List.replicate (sizeR r) 0 ++ List.replicate z 0)) ++ ([0, 0] ++ tailP (starts 1 rs)) := by
    rw [makeP, hz, ← List.replicate_append_replicate, ← List.replicate_append_replicate]
    simp only [List.append_assoc]
    rfl
  have hl1 : (((rs.length : Int) :: bodyP rs) ++ (List.replicate (sizeR r) 0 ++ List.replicate z 0)).length = 254 - 2 * rs.length := by
    rw [List.length_append, hF]; simp; omega
  have e2 : ((makeP rs).set (254 - 2 * rs.length) (((1 + lenP rs) / 256 : Nat) : Int)).set (255 - 2 * rs.length) (((1 + lenP rs) % 256 : Nat) : Int) =
      ((rs.length : Int) :: bodyP rs) ++ (List.replicate (sizeR r) 0 ++ (List.replicate z 0 ++ tailP (starts 1 (rs ++ [r])))) := by
    rw [e1, List.set_append_right _ _ (by omega), List.set_append_right _ _ (by omega), hl1, Nat.sub_self, show 255 - 2 * rs.length - (254 - 2 * rs.length) = 1 by omega]
    rw [starts_snoc, tailP_snoc]
    simp only [List.append_assoc]
    rfl
  have hs : (putR r).length = sizeR r := sizeR_len r
  unfold putB splice
  rw [e2, hs]
  rw [List.take_append_of_le_length (by rw [hF]; exact Nat.le_refl _), List.take_of_length_le (by rw [hF]; exact Nat.le_refl _)]
  rw [← hF, ← List.drop_drop, List.drop_append_of_le_length (Nat.le_refl _), List.drop_length, List.nil_append]
  rw [List.drop_append_of_le_length (by simp), show (List.replicate (sizeR r) (0 : Int)).drop (sizeR r) = [] by simp, List.nil_append]
  rw [makeP, bodyP_snoc, lenP_snoc, List.length_append]
  simp only [List.length_cons, List.length_nil, Nat.zero_add]
  rw [hn, show (rs.length + 1) % 256 = rs.length + 1 by omega]
  simp [List.append_assoc]
theorem put_head (bs : List Int) (n e : Nat) (b : List Int) : (putB bs n e b).length = (splice ((bs.set (254 - 2 * n) ((e / 256 : Nat) : Int)).set (255 - 2 * n) ((e % 256 : Nat) : Int)) e b).length := by
  unfold putB; simp
/-- The page without rows. -/
theorem make_nil : makeP [] = List.replicate 256 0 := by
  decide +kernel
theorem fits_nil : fitsP [] = true := by decide
theorem fits_snoc {rs : List (List Va)} {r : List Va} (h : fitsP rs = true) : fitsP (rs ++ [r]) = decide ((sizeR r : Int) ≤ max 0 (256 - 2 * ((rs.length : Int) + 1) - ((1 + lenP rs : Nat) : Int))) := by
  obtain ⟨_, h2, h3⟩ := fitsP_parts h
  have : 1 ≤ sizeR r := by unfold sizeR; omega
  rw [Bool.eq_iff_iff]
  simp only [fitsP, lenP_snoc, List.length_append, List.length_cons, List.length_nil, Bool.and_eq_true, decide_eq_true_eq]
  omega
end Go.Proofs.Ytdjhoiamongdaaa
