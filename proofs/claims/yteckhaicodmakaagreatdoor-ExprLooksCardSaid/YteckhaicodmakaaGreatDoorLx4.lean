/-
  How far a text runs; where blanks and remarks end; texts cut.
-/
import Derived.Test.YteckhaicodmakaaGreatDoorLx3
import Derived.Test.YteckhaicodmakaaGreatDoorShelf
namespace Go.Proofs.YteckhaicodmakaaGreatDoor
open Go.RowKit Go.Shelf

abbrev bs (s : ByteArray) : Lx.B := s.data.toList
theorem bs_len (s : ByteArray) : (bs s).length = s.size := by simp [bs]
theorem bs_extract (s : ByteArray) (a b : Nat) : bs (s.extract a b) = ((bs s).take b).drop a := by
  simp [bs, ByteArray.data_extract]
  rw [List.drop_take]
theorem bs_get (s : ByteArray) (k : Nat) (h : k < s.size) : (bs s)[k]? = some s[k] := by
  have : k < (bs s).length := by rw [bs_len]; exact h
  rw [List.getElem?_eq_getElem this]; rfl
theorem run_lt {p : UInt8 → Bool} : ∀ {l : Lx.B} {k : Nat}, (∀ j c, j < k → l[j]? = some c → p c = true) → k ≤ l.length → (∀ c, l[k]? = some c → p c = false) → (l.takeWhile p).length = k
  | [], k, _, h, _ => by simp at h; simp [h]
  | c :: r, 0, _, _, h => by simp [h c rfl]
  | c :: r, k + 1, h1, h2, h3 => by
    rw [List.takeWhile_cons, h1 0 c (by omega) rfl, if_pos rfl, List.length_cons]
    rw [run_lt (l := r) (k := k) (fun j c' hj hc => h1 (j + 1) c' (by omega) (by simpa using hc)) (by simpa using h2) (fun c' hc => h3 c' (by simpa using hc))]

set_option maxHeartbeats 1000000 in
theorem runW (s : ByteArray) (w : World) (hs : s.size ≤ 9223372036854775807) :
    Calls Tryz.prog 106 #[.string s, .func (.func 107) #[] #[]] w fun e w' => e = .returned (.int .i64 ((bs s).takeWhile Lx.wordy).length) ∧ w' = w := by
  go_enter Tryz.func106, Tryz.ntmps106
  go_wp2_with fail
  go_loop [8, 4] (fun i _ => ∃ k : Nat, k ≤ s.size ∧ i = .int .i64 k ∧ Hid (∀ j c, j < k → (bs s)[j]? = some c → Lx.wordy c = true)) (fun i _ => s.size - (intOf i).toNat)
  case atStart => exact ⟨0, Nat.zero_le _, rfl, Lib.hid (fun j c h => absurd h (by omega))⟩
  case round =>
    obtain ⟨k, hk, rfl, HA⟩ := hrel
    by_cases hlt : k < s.size
    · have HG := Lib.hid (bs_get s k hlt)
      go_wp2_with fail
      go_at_call 107
      refine (wordy_any s[k] _).mono ?_
      rintro e w' ⟨rfl, rfl⟩
      cases hpk : Lx.wordy s[k]
      · go_wp2_with fail
        go_ret
        refine ⟨ret_i ?_, rfl⟩
        rw [run_lt (p := Lx.wordy) HA.out (by rw [bs_len]; omega) (fun c hc => by rw [HG.out] at hc; obtain rfl := Option.some.inj hc; exact hpk)]
      · go_wp2_with fail
        go_round
        case rel =>
          refine ⟨k + 1, by omega, by go_num, Lib.hid (fun j c hj hc => ?_)⟩
          rcases Nat.lt_or_ge j k with h | h
          · exact HA.out j c h hc
          · obtain rfl : j = k := by omega
            rw [HG.out] at hc; obtain rfl := Option.some.inj hc; exact hpk
        case measure => simp [intOf]; omega
    · go_wp2_with fail
      go_ret
      refine ⟨ret_i ?_, rfl⟩
      rw [run_lt (p := Lx.wordy) (k := s.size) (fun j c hj hc => HA.out j c (by omega) hc) (by rw [bs_len]; omega) (fun c hc => by rw [List.getElem?_eq_none (by rw [bs_len]; omega)] at hc; cases hc)]
set_option maxHeartbeats 1000000 in
theorem runD (s : ByteArray) (w : World) (hs : s.size ≤ 9223372036854775807) :
    Calls Tryz.prog 106 #[.string s, .func (.func 92) #[] #[]] w fun e w' => e = .returned (.int .i64 ((bs s).takeWhile Lx.digit).length) ∧ w' = w := by
  go_enter Tryz.func106, Tryz.ntmps106
  go_wp2_with fail
  go_loop [8, 4] (fun i _ => ∃ k : Nat, k ≤ s.size ∧ i = .int .i64 k ∧ Hid (∀ j c, j < k → (bs s)[j]? = some c → Lx.digit c = true)) (fun i _ => s.size - (intOf i).toNat)
  case atStart => exact ⟨0, Nat.zero_le _, rfl, Lib.hid (fun j c h => absurd h (by omega))⟩
  case round =>
    obtain ⟨k, hk, rfl, HA⟩ := hrel
    by_cases hlt : k < s.size
    · have HG := Lib.hid (bs_get s k hlt)
      go_wp2_with fail
      go_at_call 92
      refine (isDigit_any s[k] _).mono ?_
      rintro e w' ⟨rfl, rfl⟩
      cases hpk : Lx.digit s[k]
      · go_wp2_with fail
        go_ret
        refine ⟨ret_i ?_, rfl⟩
        rw [run_lt (p := Lx.digit) HA.out (by rw [bs_len]; omega) (fun c hc => by rw [HG.out] at hc; obtain rfl := Option.some.inj hc; exact hpk)]
      · go_wp2_with fail
        go_round
        case rel =>
          refine ⟨k + 1, by omega, by go_num, Lib.hid (fun j c hj hc => ?_)⟩
          rcases Nat.lt_or_ge j k with h | h
          · exact HA.out j c h hc
          · obtain rfl : j = k := by omega
            rw [HG.out] at hc; obtain rfl := Option.some.inj hc; exact hpk
        case measure => simp [intOf]; omega
    · go_wp2_with fail
      go_ret
      refine ⟨ret_i ?_, rfl⟩
      rw [run_lt (p := Lx.digit) (k := s.size) (fun j c hj hc => HA.out j c (by omega) hc) (by rw [bs_len]; omega) (fun c hc => by rw [List.getElem?_eq_none (by rw [bs_len]; omega)] at hc; cases hc)]
end Go.Proofs.YteckhaicodmakaaGreatDoor
