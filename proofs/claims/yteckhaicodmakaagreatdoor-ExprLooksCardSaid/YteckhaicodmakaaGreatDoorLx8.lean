/-
  Cuts of numbers.
-/
import Derived.Test.YteckhaicodmakaaGreatDoorLx7
namespace Go.Proofs.YteckhaicodmakaaGreatDoor
open Go.RowKit Go.Shelf

theorem val_snoc (l : Lx.B) (c : UInt8) : Lx.val (l ++ [c]) = 10 * Lx.val l + (c.toNat - 48) := by simp [Lx.val, List.foldl_append]
theorem val_app (l r : Lx.B) : Lx.val l ≤ Lx.val (l ++ r) := by
  induction r generalizing l with
  | nil => simp
  | cons c r ih =>
    have := ih (l ++ [c])
    rw [List.append_assoc, List.singleton_append, val_snoc] at this
    omega
theorem val_take (l : Lx.B) (k : Nat) : Lx.val (l.take k) ≤ Lx.val l := by
  have := val_app (l.take k) (l.drop k)
  rwa [List.take_append_drop] at this
theorem bs_snoc (s : ByteArray) (k : Nat) (h : k < s.size) : (bs s).take (k + 1) = (bs s).take k ++ [s[k]] := by
  rw [List.take_add_one, bs_get s k h]; rfl

set_option maxHeartbeats 1000000 in
theorem cutNum_any (s : ByteArray) (w : World) (hs : s.size ≤ 16384) :
    Calls Tryz.prog 93 #[.string s] w fun e w' => ∃ v, e = .returned v ∧ CutV s (Lx.cutNum (bs s)) v ∧ Below w.heap.size w w' := by
  have HBel := Lib.hid (ba w (.cells #[.int .i64 0, .string ⟨#[]⟩, .int .i64 0, .int .i64 0] 80))
  obtain ⟨W, hz⟩ : ∃ W, (bs s).takeWhile Lx.digit = W := ⟨_, rfl⟩
  obtain ⟨n, hn⟩ : ∃ n, W.length = n := ⟨_, rfl⟩
  have hr : n ≤ s.size := by rw [← hn, ← hz, ← bs_len]; exact Lx.takeWhile_le _ _
  have HK := Lib.hid (show (bs s).take n = W by rw [← hn, ← hz, Lx.takeWhile_take])
  have HX := Lib.hid (show bs (s.extract 0 n) = W by rw [bs_extract, List.drop_zero, HK.out])
  have HZ := Lib.hid (show Lx.cutNum (bs s) = if (((bs s).drop n).head?.any Lx.letter) = true then none else if 9007199254740991 < Lx.val W then none else some (⟨3, W, Lx.val W⟩, n) by subst hz hn; rfl)
  have HW := Lib.hid (show ((bs s).takeWhile Lx.digit).length = n by rw [hz, hn])
  have HG := Lib.hid (show ∀ (k : Nat) (h : k < s.size), k < n → Lx.digit s[k] = true by
    intro k h hk
    refine Lx.takeWhile_mem Lx.digit (bs s) _ ?_
    rw [hz]
    refine List.mem_of_getElem? (i := k) ?_
    rw [← HK.out, List.getElem?_take_of_lt hk, bs_get s k h])
  clear hz hn
  by_cases hl : ∃ h : n < s.size, Lx.letter s[n] = true
  · obtain ⟨hlt, hl⟩ := hl
    have HF := Lib.hid (show Lx.cutNum (bs s) = none by rw [HZ.out, if_pos]; rw [bs_drop s n hlt]; exact hl)
    go_enter Tryz.func93, Tryz.ntmps93
    go_wp2_with fail
    refine (runD _ _ (by omega)).mono ?_
    rintro e w' ⟨rfl, rfl⟩
    rw [HW.out]
    go_wp2_with fail
    refine (isLetter_any s[n] _).mono ?_
    rintro e w' ⟨rfl, rfl⟩
    rw [hl]
    go_wp2_with fail
    refine bodyPost_ret (v := noTok) (by simp [results, Tryz.results93, go_sem]) rfl ⟨_, rfl, ?_, HBel.out⟩
    rw [HF.out]; rfl
  · have HF := Lib.hid (show Lx.cutNum (bs s) = if 9007199254740991 < Lx.val W then none else some (⟨3, W, Lx.val W⟩, n) by
      rw [HZ.out, if_neg]
      intro h
      rcases Nat.lt_or_ge n s.size with hlt | hge
      · rw [bs_drop s n hlt] at h; exact hl ⟨hlt, h⟩
      · rw [List.drop_eq_nil_iff.2 (by rw [bs_len]; omega)] at h; cases h)
    go_enter Tryz.func93, Tryz.ntmps93
    go_wp2_with fail
    refine (runD _ _ (by omega)).mono ?_
    rintro e w' ⟨rfl, rfl⟩
    rw [HW.out]
    by_cases hlt : n < s.size
    · have hl' : Lx.letter s[n] = false := by
        cases h : Lx.letter s[n]
        · rfl
        · exact absurd ⟨hlt, h⟩ hl
      clear hl
      go_wp2_with fail
      refine (isLetter_any s[n] _).mono ?_
      rintro e w' ⟨rfl, rfl⟩
      rw [hl']
      go_wp2_with fail
      go_loop [21, 5, 6] (fun i v _ => ∃ k : Nat, k ≤ n ∧ i = .int .i64 k ∧ v = .int .i64 (Lx.val ((bs s).take k) : Nat) ∧ Lx.val ((bs s).take k) ≤ 9007199254740991) (fun i _ _ => n - (intOf i).toNat)
      case atStart => exact ⟨0, Nat.zero_le _, rfl, by simp [Lx.val], by simp [Lx.val]⟩
      case round =>
        obtain ⟨k, hk, rfl, rfl, hv⟩ := hrel
        by_cases hkn : k < n
        · have hks : k < s.size := by omega
          have HS := Lib.hid (show Lx.val ((bs s).take (k + 1)) = 10 * Lx.val ((bs s).take k) + (s[k].toNat - 48) by rw [bs_snoc s k hks, val_snoc])
          have hd : 48 ≤ s[k].toNat ∧ s[k].toNat ≤ 57 := by simpa [Lx.digit] using HG.out k hks hkn
          have HM := Lib.hid (show Lx.val ((bs s).take (k + 1)) ≤ Lx.val W by
            have e : (bs s).take (k + 1) = W.take (k + 1) := by rw [← HK.out, List.take_take, Nat.min_eq_left (by omega)]
            rw [e]; exact val_take _ _)
          generalize Lx.val ((bs s).take k) = v at hv HS ⊢
          by_cases hb : 9007199254740991 < 10 * v + (s[k].toNat - 48)
          · have hb' : 9007199254740991 < 10 * (v : Int) + ((s[k].toNat : Int) - 48) := by omega
            go_wp2_with fail
            refine bodyPost_ret (v := noTok) (by simp [results, Tryz.results93, go_sem]) rfl ⟨_, rfl, ?_, HBel.out⟩
            rw [HF.out, if_pos (by have := HM.out; rw [HS.out] at this; omega)]; rfl
          · have hb' : ¬ 9007199254740991 < 10 * (v : Int) + ((s[k].toNat : Int) - 48) := by omega
            go_wp2_with fail
            go_round
            case rel => exact ⟨k + 1, by omega, by go_num, by rw [HS.out]; go_num, by rw [HS.out]; omega⟩
            case measure => simp [intOf]; omega
        · obtain rfl : k = n := by omega
          rw [HK.out] at hv ⊢
          go_wp2_with fail
          refine bodyPost_ret (v := .tuple #[tokV 3 (s.extract 0 k) (Lx.val W : Nat) 0, .int .i64 k]) (by simp [results, Tryz.results93, go_sem]) rfl ⟨_, rfl, ?_, ba w _⟩
          rw [HF.out, if_neg (by omega)]
          exact ⟨hr, _, HX.out, rfl⟩
    · clear hl
      go_wp2_with fail
      go_loop [21, 5, 6] (fun i v _ => ∃ k : Nat, k ≤ n ∧ i = .int .i64 k ∧ v = .int .i64 (Lx.val ((bs s).take k) : Nat) ∧ Lx.val ((bs s).take k) ≤ 9007199254740991) (fun i _ _ => n - (intOf i).toNat)
      case atStart => exact ⟨0, Nat.zero_le _, rfl, by simp [Lx.val], by simp [Lx.val]⟩
      case round =>
        obtain ⟨k, hk, rfl, rfl, hv⟩ := hrel
        by_cases hkn : k < n
        · have hks : k < s.size := by omega
          have HS := Lib.hid (show Lx.val ((bs s).take (k + 1)) = 10 * Lx.val ((bs s).take k) + (s[k].toNat - 48) by rw [bs_snoc s k hks, val_snoc])
          have hd : 48 ≤ s[k].toNat ∧ s[k].toNat ≤ 57 := by simpa [Lx.digit] using HG.out k hks hkn
          have HM := Lib.hid (show Lx.val ((bs s).take (k + 1)) ≤ Lx.val W by
            have e : (bs s).take (k + 1) = W.take (k + 1) := by rw [← HK.out, List.take_take, Nat.min_eq_left (by omega)]
            rw [e]; exact val_take _ _)
          generalize Lx.val ((bs s).take k) = v at hv HS ⊢
          by_cases hb : 9007199254740991 < 10 * v + (s[k].toNat - 48)
          · have hb' : 9007199254740991 < 10 * (v : Int) + ((s[k].toNat : Int) - 48) := by omega
            go_wp2_with fail
            refine bodyPost_ret (v := noTok) (by simp [results, Tryz.results93, go_sem]) rfl ⟨_, rfl, ?_, HBel.out⟩
            rw [HF.out, if_pos (by have := HM.out; rw [HS.out] at this; omega)]; rfl
          · have hb' : ¬ 9007199254740991 < 10 * (v : Int) + ((s[k].toNat : Int) - 48) := by omega
            go_wp2_with fail
            go_round
            case rel => exact ⟨k + 1, by omega, by go_num, by rw [HS.out]; go_num, by rw [HS.out]; omega⟩
            case measure => simp [intOf]; omega
        · obtain rfl : k = n := by omega
          rw [HK.out] at hv ⊢
          go_wp2_with fail
          refine bodyPost_ret (v := .tuple #[tokV 3 (s.extract 0 k) (Lx.val W : Nat) 0, .int .i64 k]) (by simp [results, Tryz.results93, go_sem]) rfl ⟨_, rfl, ?_, ba w _⟩
          rw [HF.out, if_neg (by omega)]
          exact ⟨hr, _, HX.out, rfl⟩
end Go.Proofs.YteckhaicodmakaaGreatDoor
