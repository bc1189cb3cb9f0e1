/-
  Package ledger: the calls that the laws' lives makes.
-/
import Derived.Test.YthfopabefknlkabLdg
namespace Go.Proofs.Ythfopabefknlkab
open Go.RowKit Go.Maps Go.Sort

theorem lv_open {B l m b : Nat} {w : World} (h : Led B w l m [⟨0, b, -1, 5, 0, 0⟩] 0 0) :
    Calls Try.prog 10 #[.pointer (some ⟨l, 0, none⟩), .int .i64 0, .int .i64 3] w fun e w' => e = .returned (.tuple #[.int .i64 1, .int .i64 0]) ∧ (∃ b', Led B w' l m [⟨0, b, -1, 5, 0, 0⟩, ⟨1, b', 0, 3, 0, 0⟩] 1 0) ∧ Below B w w' := by
  refine (open_anyL B l m _ 0 0 0 3 w h (by decide) (by simp) (by omega) (by omega)).mono ?_
  rintro e w' ⟨hb, h⟩
  rw [if_neg (by omega)] at h
  have ha : acOf [⟨0, b, -1, 5, 0, 0⟩] 0 = some ⟨0, b, -1, 5, 0, 0⟩ := rfl
  have hl : leftOf [⟨0, b, -1, 5, 0, 0⟩] 0 = 5 := rfl
  rw [ha] at h
  simp only [hl] at h
  rw [if_neg (by simp), if_neg (by omega)] at h
  exact ⟨h.1, h.2, hb⟩
theorem lv_left {B l m b b' : Nat} {w : World} (h : Led B w l m [⟨0, b, -1, 5, 0, 0⟩, ⟨1, b', 0, 3, 0, 0⟩] 1 0) :
    Calls Try.prog 17 #[.pointer (some ⟨l, 0, none⟩), .int .i64 0] w fun e w' => e = .returned (.int .i64 2) ∧ Led B w' l m [⟨0, b, -1, 5, 0, 0⟩, ⟨1, b', 0, 3, 0, 0⟩] 1 0 ∧ Below B w w' := by
  refine (left_any l m _ 1 0 0 w h.at_ h.sane (by decide)).mono ?_
  rintro e w' ⟨rfl, hb⟩
  exact ⟨rfl, h.kept hb, hb.mono h.below⟩
theorem lv_take1 {B l m b b' : Nat} {w : World} (h : Led B w l m [⟨0, b, -1, 5, 0, 0⟩, ⟨1, b', 0, 3, 0, 0⟩] 1 0) :
    Calls Try.prog 12 #[.pointer (some ⟨l, 0, none⟩), .int .i64 1, .int .i64 3] w fun e w' => e = .returned (.int .i64 0) ∧ Led B w' l m [⟨0, b, -1, 5, 0, 0⟩, ⟨1, b', 0, 3, 3, 3⟩] 1 3 ∧ Below B w w' := by
  refine (take_any B l m _ 1 0 1 3 w h (by decide)).mono ?_
  rintro e w' ⟨hb, h⟩
  rw [if_neg (by omega)] at h
  have ha : acOf [⟨0, b, -1, 5, 0, 0⟩, ⟨1, b', 0, 3, 0, 0⟩] 1 = some ⟨1, b', 0, 3, 0, 0⟩ := rfl
  have hl : leftOf [⟨0, b, -1, 5, 0, 0⟩, ⟨1, b', 0, 3, 0, 0⟩] 1 = 3 := rfl
  rw [ha] at h
  simp only [hl] at h
  rw [if_neg (by omega)] at h
  exact ⟨h.1, h.2, hb⟩
theorem lv_take2 {B l m b b' : Nat} {w : World} (h : Led B w l m [⟨0, b, -1, 5, 0, 0⟩, ⟨1, b', 0, 3, 3, 3⟩] 1 3) :
    Calls Try.prog 12 #[.pointer (some ⟨l, 0, none⟩), .int .i64 1, .int .i64 1] w fun e w' => e = .returned (.int .i64 60) ∧ Led B w' l m [⟨0, b, -1, 5, 0, 0⟩, ⟨1, b', 0, 3, 3, 3⟩] 1 3 ∧ Below B w w' := by
  refine (take_any B l m _ 1 3 1 1 w h (by decide)).mono ?_
  rintro e w' ⟨hb, h⟩
  rw [if_neg (by omega)] at h
  have ha : acOf [⟨0, b, -1, 5, 0, 0⟩, ⟨1, b', 0, 3, 3, 3⟩] 1 = some ⟨1, b', 0, 3, 3, 3⟩ := rfl
  have hl : leftOf [⟨0, b, -1, 5, 0, 0⟩, ⟨1, b', 0, 3, 3, 3⟩] 1 = 0 := rfl
  rw [ha] at h
  simp only [hl] at h
  rw [if_pos (by omega)] at h
  exact ⟨h.1, h.2, hb⟩
theorem lv_take3 {B l m b b' : Nat} {w : World} (h : Led B w l m [⟨0, b, -1, 5, 0, 0⟩, ⟨1, b', 0, 3, 3, 3⟩] 1 3) :
    Calls Try.prog 12 #[.pointer (some ⟨l, 0, none⟩), .int .i64 0, .int .i64 2] w fun e w' => e = .returned (.int .i64 0) ∧ Led B w' l m [⟨0, b, -1, 5, 2, 2⟩, ⟨1, b', 0, 3, 3, 3⟩] 1 5 ∧ Below B w w' := by
  refine (take_any B l m _ 1 3 0 2 w h (by decide)).mono ?_
  rintro e w' ⟨hb, h⟩
  rw [if_neg (by omega)] at h
  have ha : acOf [⟨0, b, -1, 5, 0, 0⟩, ⟨1, b', 0, 3, 3, 3⟩] 0 = some ⟨0, b, -1, 5, 0, 0⟩ := rfl
  have hl : leftOf [⟨0, b, -1, 5, 0, 0⟩, ⟨1, b', 0, 3, 3, 3⟩] 0 = 2 := rfl
  rw [ha] at h
  simp only [hl] at h
  rw [if_neg (by omega)] at h
  exact ⟨h.1, h.2, hb⟩
theorem lv_close1 {B l m b b' : Nat} {w : World} (h : Led B w l m [⟨0, b, -1, 5, 2, 2⟩, ⟨1, b', 0, 3, 3, 3⟩] 1 5) :
    Calls Try.prog 11 #[.pointer (some ⟨l, 0, none⟩), .int .i64 1] w fun e w' => e = .returned (.int .i64 1) ∧ Led B w' l m [⟨0, b, -1, 5, 2, 2⟩, ⟨1, b', 0, 3, 3, 3⟩] 1 5 ∧ Below B w w' := by
  refine (close_any B l m _ 1 5 1 w h (by decide)).mono ?_
  rintro e w' ⟨hb, h⟩
  have ha : acOf [⟨0, b, -1, 5, 2, 2⟩, ⟨1, b', 0, 3, 3, 3⟩] 1 = some ⟨1, b', 0, 3, 3, 3⟩ := rfl
  rw [ha] at h
  simp only at h
  rw [if_pos (by omega)] at h
  exact ⟨h.1, h.2, hb⟩
theorem lv_give {B l m b b' : Nat} {w : World} (h : Led B w l m [⟨0, b, -1, 5, 2, 2⟩, ⟨1, b', 0, 3, 3, 3⟩] 1 5) :
    Calls Try.prog 13 #[.pointer (some ⟨l, 0, none⟩), .int .i64 1, .int .i64 3] w fun e w' => e = .returned (.int .i64 0) ∧ Led B w' l m [⟨0, b, -1, 5, 2, 2⟩, ⟨1, b', 0, 3, 0, 3⟩] 1 5 ∧ Below B w w' := by
  refine (give_any B l m _ 1 5 1 3 w h (by decide)).mono ?_
  rintro e w' ⟨hb, h⟩
  have ha : acOf [⟨0, b, -1, 5, 2, 2⟩, ⟨1, b', 0, 3, 3, 3⟩] 1 = some ⟨1, b', 0, 3, 3, 3⟩ := rfl
  rw [ha] at h
  simp only at h
  rw [if_neg (by omega)] at h
  exact ⟨h.1, h.2, hb⟩
theorem lv_close2 {B l m b b' : Nat} {w : World} (h : Led B w l m [⟨0, b, -1, 5, 2, 2⟩, ⟨1, b', 0, 3, 0, 3⟩] 1 5) :
    Calls Try.prog 11 #[.pointer (some ⟨l, 0, none⟩), .int .i64 1] w fun e w' => e = .returned (.int .i64 0) ∧ Led B w' l m [⟨0, b, -1, 5, 2, 2⟩] 1 5 ∧ Below B w w' := by
  refine (close_any B l m _ 1 5 1 w h (by decide)).mono ?_
  rintro e w' ⟨hb, h⟩
  have ha : acOf [⟨0, b, -1, 5, 2, 2⟩, ⟨1, b', 0, 3, 0, 3⟩] 1 = some ⟨1, b', 0, 3, 0, 3⟩ := rfl
  have hc : cntN [⟨0, b, -1, 5, 2, 2⟩, ⟨1, b', 0, 3, 0, 3⟩] 1 = 0 := rfl
  rw [ha] at h
  simp only [hc] at h
  rw [if_neg (by omega)] at h
  exact ⟨h.1, h.2, hb⟩
end Go.Proofs.Ythfopabefknlkab
