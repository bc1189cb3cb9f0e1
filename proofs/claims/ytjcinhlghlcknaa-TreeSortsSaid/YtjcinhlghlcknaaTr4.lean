/-
  Package tree: Steps of both; holds, better.
-/
import Derived.Test.YtjcinhlghlcknaaTr3
import Derived.BigQuiet
import Derived.Deep.QuietTactic
namespace Go.Proofs.Ytjcinhlghlcknaa
open Go.RowKit

/-- How many doublings of 1 reach so many leaves. -/
def stpT (n : Int) : Nat := if n ≤ 1 then 0 else if n ≤ 2 then 1 else if n ≤ 4 then 2 else if n ≤ 8 then 3 else if n ≤ 16 then 4 else if n ≤ 32 then 5 else 6
theorem stpT_le (n : Int) : stpT n ≤ 6 := by unfold stpT; (repeat' split) <;> omega
theorem stpT_hi (n : Nat) (h : n ≤ 64) : n ≤ 2 ^ stpT n := by
  unfold stpT
  split
  · omega
  · split
    · omega
    · split
      · omega
      · split
        · omega
        · split
          · omega
          · split <;> omega
/-- One step of the loop. -/
theorem stp_done {n : Int} {s : Nat} (hs : s ≤ 6) (hlo : s = 0 ∨ (2 : Int) ^ (s - 1) < min n 64) (hge : min n 64 ≤ (2 : Int) ^ s) : s = stpT n := by
  have hc : s = 0 ∨ s = 1 ∨ s = 2 ∨ s = 3 ∨ s = 4 ∨ s = 5 ∨ s = 6 := by omega
  rcases hc with rfl | rfl | rfl | rfl | rfl | rfl | rfl
  all_goals
    simp at hlo hge
    unfold stpT
    repeat (first | rw [if_pos (by omega)] | rw [if_neg (by omega)])
theorem stp_next {s : Nat} {r : Int} (hs : s ≤ 6) (hr : r = 2 ^ s) (hlt : r < 64) : s + 1 ≤ 6 ∧ r * 2 = 2 ^ (s + 1) ∧ 1 ≤ r := by
  have hc : s = 0 ∨ s = 1 ∨ s = 2 ∨ s = 3 ∨ s = 4 ∨ s = 5 ∨ s = 6 := by omega
  rcases hc with rfl | rfl | rfl | rfl | rfl | rfl | rfl
  all_goals
    simp at hr
    subst hr
    first | exact ⟨by omega, by decide, by omega⟩ | omega
theorem stp_r {s : Nat} {r : Int} (hs : s ≤ 6) (hr : r = 2 ^ s) : 1 ≤ r ∧ r ≤ 64 := by
  have hc : s = 0 ∨ s = 1 ∨ s = 2 ∨ s = 3 ∨ s = 4 ∨ s = 5 ∨ s = 6 := by omega
  rcases hc with rfl | rfl | rfl | rfl | rfl | rfl | rfl
  all_goals
    simp at hr
    subst hr
    exact ⟨by omega, by omega⟩
/-- What Steps' loop knows: s doublings, r is reached. -/
def StpR (n : Int) (s : Nat) (r : Int) : Prop := s ≤ 6 ∧ r = 2 ^ s ∧ (s = 0 ∨ (2 : Int) ^ (s - 1) < min n 64)
theorem StpR.next {n : Int} {s : Nat} {r : Int} (h : StpR n s r) (hlt : r < min n 64) : StpR n (s + 1) (r * 2) :=
  ⟨(stp_next h.1 h.2.1 (by omega)).1, (stp_next h.1 h.2.1 (by omega)).2.1, .inr (by rw [Nat.add_sub_cancel, ← h.2.1]; exact hlt)⟩
theorem StpR.done {n : Int} {s : Nat} {r : Int} (h : StpR n s r) (hge : min n 64 ≤ r) : s = stpT n := stp_done h.1 h.2.2 (by rw [← h.2.1]; exact hge)
theorem StpR.start (n : Int) : StpR n 0 1 := ⟨by omega, rfl, .inl rfl⟩
set_option maxRecDepth 100000 in
set_option maxHeartbeats 1000000 in
theorem steps_any (n : Int) (w : World) :
    Calls Try.prog 18 #[.int .i64 n] w fun e w' => e = .returned (.int .i64 (stpT n : Nat)) ∧ w = w' := by
  rcases Int.lt_or_le 64 n with h64 | h64
  all_goals
    go_enter Try.func18, Try.ntmps18
    go_wp2_with fail
    go_loop [3, 4] (fun st re => ∃ (s : Nat) (r : Int), st = .int .i64 s ∧ re = .int .i64 r ∧ Hid (StpR n s r)) (fun _ re => 64 - (intOf re).toNat)
    case atStart => exact ⟨0, 1, rfl, rfl, Lib.hid (StpR.start n)⟩
    case round =>
      obtain ⟨s, r, rfl, rfl, HR⟩ := hrel
      obtain ⟨r1, r2⟩ := stp_r HR.out.1 HR.out.2.1
      have hs6 := HR.out.1
      by_cases hlt : r < min n 64
      · have HN := Lib.hid (HR.out.next hlt)
        have hl2 : r < 64 := by omega
        have hl3 : r < n := by omega
        clear hlt
        go_wp2_with fail
        go_round
        case rel => exact ⟨s + 1, r * 2, by go_num, by first | rfl | (rw [Int.mul_comm]), HN⟩
        case measure => simp [intOf]; omega
      · have HD := Lib.hid (HR.out.done (by omega))
        first
          | have hge : n ≤ r := by omega
          | have hge : 64 ≤ r := by omega
        clear hlt
        go_wp2_with fail
        go_ret
        exact ⟨ret_int (by rw [← HD.out]), rfl⟩
theorem shl1 {s : Nat} {r : Int} (hs : s ≤ 6) (hr : r = 2 ^ s) : wrap64 (2 ^ s) = r := by
  have := stp_r hs hr
  rw [← hr]
  unfold wrap64; omega
set_option maxRecDepth 100000 in
set_option maxHeartbeats 1000000 in
theorem rsteps_any (n : Int) (w : World) :
    Calls Try.prog 19 #[.int .i64 n] w fun e w' => e = .returned (.int .i64 (stpT n : Nat)) ∧ w = w' := by
  rcases Int.lt_or_le 64 n with h64 | h64
  all_goals
    go_enter Try.func19, Try.ntmps19
    go_wp2_with fail
    go_loop [3] (fun st => ∃ (s : Nat) (r : Int), st = .int .i64 s ∧ Hid (StpR n s r)) (fun st => 64 - (intOf st).toNat)
    case atStart => exact ⟨0, 1, rfl, Lib.hid (StpR.start n)⟩
    case round =>
      obtain ⟨s, r, rfl, HR⟩ := hrel
      obtain ⟨r1, r2⟩ := stp_r HR.out.1 HR.out.2.1
      have hs6 := HR.out.1
      have hsh := shl1 HR.out.1 HR.out.2.1
      by_cases hlt : r < min n 64
      · have HN := Lib.hid (HR.out.next hlt)
        first
          | have hl3 : r < n := by omega
          | have hl3 : True := trivial
        first
          | have hl2 : r < 64 := by omega
          | have hl2 : True := trivial
        clear hlt
        go_wp2_with fail
        go_round
        case rel => exact ⟨s + 1, r * 2, by go_num, HN⟩
        case measure => simp [intOf]; omega
      · have HD := Lib.hid (HR.out.done (by omega))
        first
          | have hge : n ≤ r := by omega
          | have hge : 64 ≤ r := by omega
        clear hlt
        go_wp2_with fail
        go_ret
        exact ⟨ret_int (by rw [← HD.out]), rfl⟩
theorem drNT (w : World) (n : Nat) : Below w.heap.size w (w.drewN n) := ⟨rfl, rfl, rfl, Nat.le_refl _, fun _ _ => rfl⟩
section
variable {B : Nat} {w : World} {t a b : Nat} {ov : Value} {L : List Lf} {W : List Int}
set_option maxRecDepth 100000 in
set_option maxHeartbeats 1000000 in
theorem holds_q {M : Nat} (h : TrAt B w t a b ov L W) (hw : WnX L M W 0) (hm : M ≤ 64) {i : Nat} (hi : i < L.length) :
    Calls Try.prog 27 #[.pointer (some ⟨t, 0, none⟩), .int .i64 i] w fun e w' => e = .returned (.bool (L.getD i noLf).b) ∧ ∃ nq, w' = w.drewN nq := by
  have hn := hw.n
  have c2 := h.c2
  have HP := Lib.hid (fun W0 (h0 : TrAt B W0 t a b ov L W) => place_any h0 hw.len hm i (by omega))
  have hcell := h.wn (j := M + i) (by have := hw.len; omega)
  rw [hw.leaf i (by omega)] at hcell
  have hlen := hw.len
  obtain ⟨N, hN⟩ : ∃ N, N = W.length := ⟨_, rfl⟩
  rw [← hN] at c2 hlen
  have hMi : M + i < N := by omega
  have HT := Lib.hid h
  clear h hw hN hlen
  generalize (L.getD i noLf).b = bb at hcell ⊢
  cases bb with
  | true =>
    simp only [if_true] at hcell
    go_enter Try.func27, Try.ntmps27
    go_wp2_with fail
    go_quiet ((go_at_call 31; exact Calls.quiet_of_same (HP.out _ (HT.out.kept (drNT _ _)))))
    go_wp2_with fail
    go_ret
    exact ⟨rfl, _, rfl⟩
  | false =>
    simp only [Bool.false_eq_true, if_false] at hcell
    have hne : ((-1 : Int) == (i : Int)) = false := by simp
    go_enter Try.func27, Try.ntmps27
    go_wp2_with fail
    go_quiet ((go_at_call 31; exact Calls.quiet_of_same (HP.out _ (HT.out.kept (drNT _ _)))))
    go_wp2_with fail
    go_ret
    exact ⟨by simp, _, rfl⟩
theorem holds_any {M : Nat} (h : TrAt B w t a b ov L W) (hw : WnX L M W 0) (hm : M ≤ 64) {i : Nat} (hi : i < L.length) :
    Calls Try.prog 27 #[.pointer (some ⟨t, 0, none⟩), .int .i64 i] w fun e w' => e = .returned (.bool (L.getD i noLf).b) ∧ Below w.heap.size w w' :=
  (holds_q h hw hm hi).mono fun _ _ ⟨he, n, hw⟩ => ⟨he, by rw [hw]; exact drNT _ _⟩
end
end Go.Proofs.Ytjcinhlghlcknaa
