/-
  Where blanks and remarks end.
-/
import Derived.Test.YtbjkencaebeleaaDoorLx4
import Derived.WalkMore
namespace Go.Proofs.YtbjkencaebeleaaDoor
open Go.RowKit Go.Shelf

theorem sk_true : ∀ r : Lx.B, Lx.sk true r = (r.takeWhile Lx.noEnd).length + Lx.sk false (r.drop (r.takeWhile Lx.noEnd).length)
  | [] => by simp [Lx.sk]
  | c :: r => by
    rw [Lx.sk]
    by_cases hc : c = 10
    · subst hc
      rw [if_pos rfl, List.takeWhile_cons, if_neg (by decide), List.length_nil, List.drop_zero, Lx.sk, if_pos (by decide)]; omega
    · rw [if_neg hc, List.takeWhile_cons, if_pos (by simpa [Lx.noEnd] using hc), List.length_cons, List.drop_succ_cons, sk_true r]; omega
theorem sk_blank {c : UInt8} {r : Lx.B} (h : Lx.blank c = true) : Lx.sk false (c :: r) = Lx.sk false r + 1 := by rw [Lx.sk, if_pos h]
theorem sk_rem {c : UInt8} {r : Lx.B} (h : Lx.blank c = false) (hp : Lib.hasPrefix (c :: r) [45, 45] = true) :
    Lx.sk false (c :: r) = ((c :: r).takeWhile Lx.noEnd).length + Lx.sk false ((c :: r).drop ((c :: r).takeWhile Lx.noEnd).length) := by
  have hh : c = 45 ∧ r.head? = some 45 := by
    cases r with
    | nil => simp [Lib.hasPrefix] at hp
    | cons x r => simp [Lib.hasPrefix] at hp; exact ⟨hp.1.symm, by simp [hp.2]⟩
  rw [Lx.sk, if_neg (by simp [h]), if_pos hh, List.takeWhile_cons, if_pos (by rw [hh.1]; decide), List.length_cons, List.drop_succ_cons, sk_true r]; omega
theorem sk_no {c : UInt8} {r : Lx.B} (h : Lx.blank c = false) (hp : Lib.hasPrefix (c :: r) [45, 45] = false) : Lx.sk false (c :: r) = 0 := by
  rw [Lx.sk, if_neg (by simp [h]), if_neg]
  rintro ⟨rfl, hr⟩
  cases r with
  | nil => simp at hr
  | cons x r => obtain rfl : x = 45 := by simpa using hr
                simp [Lib.hasPrefix] at hp
theorem bs_drop (s : ByteArray) (k : Nat) (h : k < s.size) : (bs s).drop k = s[k] :: (bs s).drop (k + 1) := by
  rw [List.drop_eq_getElem_cons (by rw [bs_len]; exact h)]; rfl
theorem bs_from (s : ByteArray) (k : Nat) : bs (s.extract k s.size) = (bs s).drop k := by
  rw [bs_extract, List.take_of_length_le (by rw [bs_len]; exact Nat.le_refl _)]

set_option maxHeartbeats 1000000 in
theorem skip_any (s : ByteArray) (p : Nat) (w : World) (hs : s.size ≤ 9223372036854775807) (hp : p ≤ s.size) :
    Calls Tryd.prog 13 #[.string s, .int .i64 p] w fun e w' => e = .returned (.int .i64 ((p + Lx.sk false ((bs s).drop p) : Nat))) ∧ w' = w := by
  go_enter Tryd.func13, Tryd.ntmps13
  go_wp2_with fail
  go_step3
  go_wp2_with fail
  go_step3
  go_wp2_with fail
  go_loop [1] (fun i => ∃ k : Nat, k ≤ s.size ∧ i = .int .i64 k ∧ Hid (k + Lx.sk false ((bs s).drop k) = p + Lx.sk false ((bs s).drop p))) (fun i => s.size - (intOf i).toNat)
  case atStart => exact ⟨p, hp, rfl, Lib.hid rfl⟩
  case round =>
    obtain ⟨k, hk, rfl, HA⟩ := hrel
    by_cases hlt : k < s.size
    · have HD := Lib.hid (bs_drop s k hlt)
      cases hbl : Lx.blank s[k]
      · cases hpr : Lib.hasPrefix ((bs s).drop k) [45, 45]
        · go_wp2_with fail
          refine (isBlank_any s[k] _).mono ?_
          rintro e w' ⟨rfl, rfl⟩
          rw [hbl]
          go_wp2_with fail
          refine (Tryd.strings_HasPrefix _ _ _).mono ?_
          rintro e w' ⟨rfl, rfl⟩
          rw [show Lib.hasPrefix (bs (s.extract k s.size)) [45, 45] = false by rw [bs_from, hpr]]
          go_wp2_with fail
          (try rw [Exit.noGoto_ret])
          go_ret
          refine ⟨ret_i ?_, rfl⟩
          rw [← HA.out, HD.out, sk_no hbl (by rw [← HD.out]; exact hpr)]; rfl
        · go_wp2_with fail
          refine (isBlank_any s[k] _).mono ?_
          rintro e w' ⟨rfl, rfl⟩
          rw [hbl]
          go_wp2_with fail
          refine (Tryd.strings_HasPrefix _ _ _).mono ?_
          rintro e w' ⟨rfl, rfl⟩
          rw [show Lib.hasPrefix (bs (s.extract k s.size)) [45, 45] = true by rw [bs_from, hpr]]
          go_wp2_with fail
          refine (runE _ _ (by simp [ByteArray.size_extract]; omega)).mono ?_
          rintro e w' ⟨rfl, rfl⟩
          rw [bs_from]
          have hr := Lx.takeWhile_le Lx.noEnd ((bs s).drop k)
          have hr1 : 0 < (((bs s).drop k).takeWhile Lx.noEnd).length := by
            have hne : Lx.noEnd s[k] = true := by
              rw [HD.out] at hpr
              have : s[k] = 45 := by
                cases h : (bs s).drop (k + 1) with
                | nil => rw [h] at hpr; simp [Lib.hasPrefix] at hpr
                | cons x r => rw [h] at hpr; simp [Lib.hasPrefix] at hpr; exact hpr.1.symm
              rw [this]; decide
            rw [HD.out, List.takeWhile_cons, if_pos hne]; simp
          have HE := Lib.hid (show k + (((bs s).drop k).takeWhile Lx.noEnd).length + Lx.sk false ((bs s).drop (k + (((bs s).drop k).takeWhile Lx.noEnd).length)) = p + Lx.sk false ((bs s).drop p) by
            have := sk_rem hbl (by rw [← HD.out]; exact hpr)
            rw [← HD.out, List.drop_drop] at this
            rw [← HA.out, this]; omega)
          rw [List.length_drop, bs_len] at hr
          generalize (((bs s).drop k).takeWhile Lx.noEnd).length = n at hr hr1 HE ⊢
          go_wp2_with fail
          go_round
          case rel => exact ⟨k + n, by omega, by go_num, HE⟩
          case measure => simp [intOf]; omega
      · go_wp2_with fail
        refine (isBlank_any s[k] _).mono ?_
        rintro e w' ⟨rfl, rfl⟩
        rw [hbl]
        go_wp2_with fail
        go_round
        case rel => exact ⟨k + 1, by omega, by go_num, Lib.hid (by rw [← HA.out, HD.out, sk_blank hbl]; omega)⟩
        case measure => simp [intOf]; omega
    · have HC := Lib.hid (show Lx.sk false ((bs s).drop k) = 0 by rw [List.drop_eq_nil_iff.2 (by rw [bs_len]; omega)]; rfl)
      go_wp2_with fail
      go_ret
      exact ⟨ret_i (by rw [← HA.out, HC.out]; rfl), rfl⟩
end Go.Proofs.YtbjkencaebeleaaDoor
