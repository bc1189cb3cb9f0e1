/-
  The walk of the law ValueMorgans: And, Or and Not are as de Morgan has them.
-/
import Derived.Test.YtalkgfkekcocgaaDoorLives
namespace Go.Proofs.YtalkgfkekcocgaaDoor
open Go.RowKit Go.Shelf

theorem morg (a b c : Int) (ha : a = 0 ∨ a = 1 ∨ a = 2) (hb : b = 0 ∨ b = 1 ∨ b = 2) (hc : c = 0 ∨ c = 1 ∨ c = 2) :
    (notT (tr (andT (tr a) (tr b))) == orT (tr (notT (tr a))) (tr (notT (tr b)))) = true ∧
    (andT (tr a) (tr (orT (tr b) (tr c))) == orT (tr (andT (tr a) (tr b))) (tr (andT (tr a) (tr c)))) = true ∧
    (andT (tr (andT (tr a) (tr b))) (tr c) == andT (tr a) (tr (andT (tr b) (tr c)))) = true ∧
    (notT (tr (notT (tr a))) == a) = true ∧ (truthV (ofK a) (ofN a) ⟨#[]⟩ == a) = true := by
  rcases ha with rfl | rfl | rfl <;> rcases hb with rfl | rfl | rfl <;> rcases hc with rfl | rfl | rfl <;> decide +kernel

set_option maxHeartbeats 4000000 in
theorem morgans_in (a b c : Int) (w : World) (ha : 0 ≤ a ∧ a ≤ 2) (hb : 0 ≤ b ∧ b ≤ 2) (hc : 0 ≤ c ∧ c ≤ 2) (hT : Tabs w) (hP : Pows w) :
    Calls Tryd.prog 6 #[.int .i64 a, .int .i64 b, .int .i64 c] w fun e w' => e = .returned (.bool true) ∧ Below w.heap.size w w' := by
  obtain ⟨m1, m2, m3, m4, m5⟩ := morg a b c (by omega) (by omega) (by omega)
  obtain ⟨ha0, ha2⟩ := ha
  obtain ⟨hb0, hb2⟩ := hb
  obtain ⟨hc0, hc2⟩ := hc
  have HT := Lib.hid hT
  have HP := Lib.hid hP
  have hB0 := Below.refl w.heap.size w
  clear hT hP
  go_enter Tryd.func6, Tryd.ntmps6
  go_wp2_with fail
  refine (lives_any _ (HT.out.kept hB0) (HP.out.kept hB0)).mono ?_
  rintro e w1 ⟨rfl, hb⟩
  have hB1 := bt hB0 hb
  clear hb hB0
  go_wp2_with fail
  refine (and_any _ _ _ (HT.out.kept hB1)).mono ?_
  rintro e w2 ⟨rfl, hb⟩
  have hB2 := bt hB1 hb
  clear hb hB1
  go_wp2_with fail
  refine (not_any _ _ (HT.out.kept hB2)).mono ?_
  rintro e w3 ⟨rfl, hb⟩
  have hB3 := bt hB2 hb
  clear hb hB2
  go_wp2_with fail
  refine (not_any _ _ (HT.out.kept hB3)).mono ?_
  rintro e w4 ⟨rfl, hb⟩
  have hB4 := bt hB3 hb
  clear hb hB3
  go_wp2_with fail
  refine (not_any _ _ (HT.out.kept hB4)).mono ?_
  rintro e w5 ⟨rfl, hb⟩
  have hB5 := bt hB4 hb
  clear hb hB4
  go_wp2_with fail
  refine (or_any _ _ _ (HT.out.kept hB5)).mono ?_
  rintro e w6 ⟨rfl, hb⟩
  have hB6 := bt hB5 hb
  clear hb hB5
  go_wp2_with fail
  refine (or_any _ _ _ (HT.out.kept hB6)).mono ?_
  rintro e w7 ⟨rfl, hb⟩
  have hB7 := bt hB6 hb
  clear hb hB6
  go_wp2_with fail
  refine (and_any _ _ _ (HT.out.kept hB7)).mono ?_
  rintro e w8 ⟨rfl, hb⟩
  have hB8 := bt hB7 hb
  clear hb hB7
  go_wp2_with fail
  refine (and_any _ _ _ (HT.out.kept hB8)).mono ?_
  rintro e w9 ⟨rfl, hb⟩
  have hB9 := bt hB8 hb
  clear hb hB8
  go_wp2_with fail
  refine (and_any _ _ _ (HT.out.kept hB9)).mono ?_
  rintro e w10 ⟨rfl, hb⟩
  have hB10 := bt hB9 hb
  clear hb hB9
  go_wp2_with fail
  refine (or_any _ _ _ (HT.out.kept hB10)).mono ?_
  rintro e w11 ⟨rfl, hb⟩
  have hB11 := bt hB10 hb
  clear hb hB10
  go_wp2_with fail
  refine (and_any _ _ _ (HT.out.kept hB11)).mono ?_
  rintro e w12 ⟨rfl, hb⟩
  have hB12 := bt hB11 hb
  clear hb hB11
  go_wp2_with fail
  refine (and_any _ _ _ (HT.out.kept hB12)).mono ?_
  rintro e w13 ⟨rfl, hb⟩
  have hB13 := bt hB12 hb
  clear hb hB12
  go_wp2_with fail
  refine (and_any _ _ _ (HT.out.kept hB13)).mono ?_
  rintro e w14 ⟨rfl, hb⟩
  have hB14 := bt hB13 hb
  clear hb hB13
  go_wp2_with fail
  refine (and_any _ _ _ (HT.out.kept hB14)).mono ?_
  rintro e w15 ⟨rfl, hb⟩
  have hB15 := bt hB14 hb
  clear hb hB14
  go_wp2_with fail
  refine (not_any _ _ (HT.out.kept hB15)).mono ?_
  rintro e w16 ⟨rfl, hb⟩
  have hB16 := bt hB15 hb
  clear hb hB15
  go_wp2_with fail
  refine (not_any _ _ (HT.out.kept hB16)).mono ?_
  rintro e w17 ⟨rfl, hb⟩
  have hB17 := bt hB16 hb
  clear hb hB16
  go_wp2_with fail
  refine (of_any _ _).mono ?_
  rintro e w18 ⟨rfl, hb⟩
  have hB18 := bt hB17 hb
  clear hb hB17
  go_wp2_with fail
  refine (vtruth_any _ _ _ _ (by decide)).mono ?_
  rintro e w19 ⟨rfl, hb⟩
  have hB19 := bt hB18 hb
  clear hb hB18
  go_wp2_with fail
  go_ret
  exact ⟨rfl, hB19⟩

set_option maxHeartbeats 4000000 in
theorem morgans_walk (a b c : Int) (w : World) (hT : Tabs w) (hP : Pows w) :
    Calls Tryd.prog 6 #[.int .i64 a, .int .i64 b, .int .i64 c] w fun e w' => e = .returned (.bool true) ∧ Below w.heap.size w w' := by
  by_cases hin : (0 ≤ a ∧ a ≤ 2) ∧ (0 ≤ b ∧ b ≤ 2) ∧ (0 ≤ c ∧ c ≤ 2)
  · exact morgans_in a b c w hin.1 hin.2.1 hin.2.2 hT hP
  · have hout : a < 0 ∨ (0 ≤ a ∧ 2 < a) ∨ ((0 ≤ a ∧ a ≤ 2) ∧ b < 0) ∨ ((0 ≤ a ∧ a ≤ 2) ∧ 0 ≤ b ∧ 2 < b) ∨ ((0 ≤ a ∧ a ≤ 2) ∧ (0 ≤ b ∧ b ≤ 2) ∧ c < 0) ∨ ((0 ≤ a ∧ a ≤ 2) ∧ (0 ≤ b ∧ b ≤ 2) ∧ 0 ≤ c ∧ 2 < c) := by omega
    have HT := Lib.hid hT
    have HP := Lib.hid hP
    clear hT hP hin
    rcases hout with h | ⟨h1, h2⟩ | ⟨⟨h1, h2⟩, h3⟩ | ⟨⟨h1, h2⟩, h3, h4⟩ | ⟨⟨h1, h2⟩, ⟨h3, h4⟩, h5⟩ | ⟨⟨h1, h2⟩, ⟨h3, h4⟩, h5, h6⟩
    all_goals
      go_enter Tryd.func6, Tryd.ntmps6
      go_wp2_with fail
      refine (lives_any _ HT.out HP.out).mono ?_
      rintro e w1 ⟨rfl, hb⟩
      go_wp2_with fail
      go_ret
      exact ⟨rfl, hb⟩

end Go.Proofs.YtalkgfkekcocgaaDoor
