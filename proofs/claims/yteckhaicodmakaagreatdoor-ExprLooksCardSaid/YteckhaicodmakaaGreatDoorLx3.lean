/-
  Bytes: which are blanks, letters, digits; how far a text runs.
-/
import Derived.Test.YteckhaicodmakaaGreatDoorProg
import Derived.Test.YteckhaicodmakaaGreatDoorLx2
import Derived.WalkKit
import Derived.WalkSpells
import Derived.WalkLawsBesides
import Derived.Lib.Hide
namespace Go.Proofs.YteckhaicodmakaaGreatDoor
open Go.RowKit

theorem ret_b {a b : Bool} (h : a = b) : Ending.returned (.bool a) = .returned (.bool b) := by rw [h]
theorem ret_i {k : IntKind} {a b : Int} (h : a = b) : Ending.returned (.int k a) = .returned (.int k b) := by rw [h]
theorem u8_eq (c : UInt8) (k : Nat) (hk : k < 256) : c = UInt8.ofNat k ↔ c.toNat = k := by
  constructor
  · rintro rfl; simp; omega
  · intro h; apply UInt8.toNat_inj.1; simp; omega

theorem isDigit_any (c : UInt8) (w : World) : Calls Tryz.prog 92 #[.int .u8 c.toNat] w fun e w' => e = .returned (.bool (Lx.digit c)) ∧ w' = w := by
  have h0 := c.toNat_lt
  rw [Lx.digit]
  generalize c.toNat = n at h0 ⊢
  by_cases h1 : 48 ≤ n
  · by_cases h2 : n ≤ 57
    · go_enter Tryz.func92, Tryz.ntmps92; go_wp2_with fail; go_ret; exact ⟨ret_b (by first | rfl | (rw [Bool.eq_iff_iff]; simp; done) | (rw [Bool.eq_iff_iff]; simp; omega)), rfl⟩
    · have HC := Lib.hid (show decide (48 ≤ n ∧ n ≤ 57) = false by simp; omega)
      go_enter Tryz.func92, Tryz.ntmps92; go_wp2_with fail; go_ret; exact ⟨ret_b (by first | rfl | (rw [Bool.eq_iff_iff]; simp; done) | (rw [Bool.eq_iff_iff]; simp; omega)), rfl⟩
  · have HC := Lib.hid (show decide (48 ≤ n ∧ n ≤ 57) = false by simp; omega)
    go_enter Tryz.func92, Tryz.ntmps92; go_wp2_with fail; go_ret; exact ⟨ret_b (by first | rfl | (rw [Bool.eq_iff_iff]; simp; done) | (rw [Bool.eq_iff_iff]; simp; omega)), rfl⟩

theorem isLetter_in (n : Nat) (b : Bool) (h0 : n < 256) (h : decide (n = 95 ∨ (97 ≤ n ∧ n ≤ 122) ∨ (65 ≤ n ∧ n ≤ 90)) = b) (w : World) : Calls Tryz.prog 90 #[.int .u8 n] w fun e w' => e = .returned (.bool b) ∧ w' = w := by
  have HC := Lib.hid h
  clear h
  by_cases h1 : n = 95
  · subst h1
    go_enter Tryz.func90, Tryz.ntmps90; go_wp2_with fail; go_ret; exact ⟨ret_b (by rw [← HC.out]; first | rfl | (rw [Bool.eq_iff_iff]; simp; done) | (rw [Bool.eq_iff_iff]; simp; omega)), rfl⟩
  by_cases h2 : 97 ≤ n
  · by_cases h3 : n ≤ 122
    · go_enter Tryz.func90, Tryz.ntmps90; go_wp2_with fail; go_ret; exact ⟨ret_b (by rw [← HC.out]; first | rfl | (rw [Bool.eq_iff_iff]; simp; done) | (rw [Bool.eq_iff_iff]; simp; omega)), rfl⟩
    · have h4 : 65 ≤ n := by omega
      have h5 : ¬ n ≤ 90 := by omega
      go_enter Tryz.func90, Tryz.ntmps90; go_wp2_with fail; go_ret; exact ⟨ret_b (by rw [← HC.out]; first | rfl | (rw [Bool.eq_iff_iff]; simp; done) | (rw [Bool.eq_iff_iff]; simp; omega)), rfl⟩
  · by_cases h4 : 65 ≤ n
    · by_cases h5 : n ≤ 90
      · go_enter Tryz.func90, Tryz.ntmps90; go_wp2_with fail; go_ret; exact ⟨ret_b (by rw [← HC.out]; first | rfl | (rw [Bool.eq_iff_iff]; simp; done) | (rw [Bool.eq_iff_iff]; simp; omega)), rfl⟩
      · go_enter Tryz.func90, Tryz.ntmps90; go_wp2_with fail; go_ret; exact ⟨ret_b (by rw [← HC.out]; first | rfl | (rw [Bool.eq_iff_iff]; simp; done) | (rw [Bool.eq_iff_iff]; simp; omega)), rfl⟩
    · go_enter Tryz.func90, Tryz.ntmps90; go_wp2_with fail; go_ret; exact ⟨ret_b (by rw [← HC.out]; first | rfl | (rw [Bool.eq_iff_iff]; simp; done) | (rw [Bool.eq_iff_iff]; simp; omega)), rfl⟩
theorem isLetter_any (c : UInt8) (w : World) : Calls Tryz.prog 90 #[.int .u8 c.toNat] w fun e w' => e = .returned (.bool (Lx.letter c)) ∧ w' = w := by
  refine isLetter_in _ _ c.toNat_lt ?_ w
  refine decide_eq_decide.2 ?_
  rw [show (95 : UInt8) = UInt8.ofNat 95 from rfl, u8_eq c _ (by decide)]

def Lx.noEnd (c : UInt8) : Bool := decide (c ≠ 10)
theorem wordy_any (c : UInt8) (w : World) : Calls Tryz.prog 107 #[.int .u8 c.toNat] w fun e w' => e = .returned (.bool (Lx.wordy c)) ∧ w' = w := by
  have h0 := c.toNat_lt
  rw [Lx.wordy]
  by_cases hl : Lx.letter c = true
  · go_enter Tryz.func107, Tryz.ntmps107; go_wp2_with fail
    refine (isLetter_any c _).mono ?_
    rintro e w' ⟨rfl, rfl⟩
    rw [hl]
    go_wp2_with fail; go_ret; exact ⟨ret_b (by rw [hl]; rfl), rfl⟩
  · have hl' : Lx.letter c = false := by simpa using hl
    rw [hl']
    go_enter Tryz.func107, Tryz.ntmps107; go_wp2_with fail
    refine (isLetter_any c _).mono ?_
    rintro e w' ⟨rfl, rfl⟩
    rw [hl']
    go_wp2_with fail
    refine (isDigit_any c _).mono ?_
    rintro e w' ⟨rfl, rfl⟩
    go_wp2_with fail; go_ret; exact ⟨rfl, rfl⟩
end Go.Proofs.YteckhaicodmakaaGreatDoor
