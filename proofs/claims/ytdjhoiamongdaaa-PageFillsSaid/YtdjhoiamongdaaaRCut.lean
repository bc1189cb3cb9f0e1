/-
  Contracts of row.cutValue and row.readValue.
-/
import Derived.Test.YtdjhoiamongdaaaRByt
namespace Go.Proofs.Ytdjhoiamongdaaa
open Go.RowKit Go.Shelf

set_option maxHeartbeats 400000 in
theorem cut_nil (A : Option Addr) (c : Nat) (w : World) :
    Calls Try.prog 115 #[.slice A 0 c] w fun e w' => e = .returned (.tuple #[.int .i64 0, .bool false]) ∧ w = w' := by
  go_enter Try.func115, Try.ntmps115
  go_wp2_with fail
  go_ret2
  exact ⟨rfl, rfl⟩

theorem valueSize_odd (k : Int) (n : Int) (w : World) (hk : 4 ≤ k) :
    Calls Try.prog 120 #[.int .i64 k, .int .i64 n] w fun e w' => e = .returned (.int .i64 0) ∧ w = w' := by
  have h0 : k ≠ 0 := by omega
  have h1 : k ≠ 1 := by omega
  have h2 : k ≠ 2 := by omega
  have h3 : k ≠ 3 := by omega
  go_enter Try.func120, Try.ntmps120
  go_wp2_with fail
  go_ret
  exact ⟨rfl, rfl⟩

set_option maxHeartbeats 400000 in
theorem cut_odd (b off L c : Nat) (k : Int) (w : World) (hL : 1 ≤ L) (c0 : w.cell? ⟨b, off, none⟩ = some (.int .u8 k)) (hk : 4 ≤ k) (hk2 : k < 256) :
    Calls Try.prog 115 #[.slice (some ⟨b, off, none⟩) L c] w fun e w' => e = .returned (.tuple #[.int .i64 0, .bool false]) ∧ w = w' := by
  have h3 : k ≠ 3 := by omega
  go_enter Try.func115, Try.ntmps115
  go_wp2_with fail
  refine (valueSize_odd k _ w hk).mono ?_
  rintro e w1 ⟨rfl, rfl⟩
  go_wp2_with fail
  go_ret2
  exact ⟨rfl, rfl⟩

set_option maxHeartbeats 400000 in
theorem cut_b (ok : Bool) (b off L c : Nat) (k : Int) (w : World) (hL : 1 ≤ L) (c0 : w.cell? ⟨b, off, none⟩ = some (.int .u8 k)) (n : Nat) (hk : k = 0 ∧ n = 1 ∨ k = 1 ∧ n = 2 ∨ k = 2 ∧ n = 8) (hok : decide (n ≤ L) = ok) :
    Calls Try.prog 115 #[.slice (some ⟨b, off, none⟩) L c] w fun e w' => e = .returned (.tuple #[.int .i64 n, .bool ok]) ∧ w = w' := by
  have hs := valueSize_any k 0 w (by omega) (by omega)
  rw [show (if k = 1 then (2 : Int) else if k = 2 then 8 else if k = 3 then 2 + ((0 : Nat) : Int) else 1) = n by rcases hk with ⟨rfl, rfl⟩ | ⟨rfl, rfl⟩ | ⟨rfl, rfl⟩ <;> rfl] at hs
  have h3 : k ≠ 3 := by omega
  have hn : (0 : Int) < n := by omega
  have hk0 : 0 ≤ k := by omega
  have hk1 : k < 256 := by omega
  have HS := Lib.hid hs
  clear hk hs
  have hnl : ok = true → (n : Int) ≤ L := by intro h; rw [h] at hok; have := of_decide_eq_true hok; omega
  have hnl2 : ok = false → ¬ (n : Int) ≤ L := by intro h; rw [h] at hok; have := of_decide_eq_false hok; omega
  clear hok
  go_enter Try.func115, Try.ntmps115
  go_wp2_with fail
  refine HS.out.mono ?_
  rintro e w1 ⟨rfl, rfl⟩
  cases ok
  · have hx := hnl2 rfl
    clear hnl hnl2
    go_wp2_with fail
    go_ret2
    exact ⟨by simp; omega, rfl⟩
  · have hx := hnl rfl
    clear hnl hnl2
    go_wp2_with fail
    go_ret2
    exact ⟨rfl, rfl⟩

set_option maxHeartbeats 400000 in
theorem cut_short (b off c : Nat) (w : World) (c0 : w.cell? ⟨b, off, none⟩ = some (.int .u8 3)) :
    Calls Try.prog 115 #[.slice (some ⟨b, off, none⟩) 1 c] w fun e w' => e = .returned (.tuple #[.int .i64 0, .bool false]) ∧ w = w' := by
  go_enter Try.func115, Try.ntmps115
  go_wp2_with fail
  go_ret2
  exact ⟨rfl, rfl⟩

set_option maxHeartbeats 400000 in
theorem cut_text (ok : Bool) (b off L c x : Nat) (w : World) (hL : 2 ≤ L) (c0 : w.cell? ⟨b, off, none⟩ = some (.int .u8 3)) (c1 : w.cell? ⟨b, off + 1, none⟩ = some (.int .u8 x)) (hx : x < 256) (hok : decide (2 + x ≤ L) = ok) :
    Calls Try.prog 115 #[.slice (some ⟨b, off, none⟩) L c] w fun e w' => e = .returned (.tuple #[.int .i64 (2 + x), .bool ok]) ∧ w = w' := by
  have HS := Lib.hid (valueSize_any 3 x w (by omega) (by omega))
  have hnl : ok = true → (2 + x : Int) ≤ L := by intro h; rw [h] at hok; have := of_decide_eq_true hok; omega
  have hnl2 : ok = false → ¬ (2 + x : Int) ≤ L := by intro h; rw [h] at hok; have := of_decide_eq_false hok; omega
  clear hok
  go_enter Try.func115, Try.ntmps115
  go_wp2_with fail
  refine HS.out.mono ?_
  rintro e w1 ⟨rfl, rfl⟩
  cases ok
  · have hy := hnl2 rfl
    clear hnl hnl2
    go_wp2_with fail
    go_ret2
    exact ⟨by simp; omega, rfl⟩
  · have hy := hnl rfl
    clear hnl hnl2
    go_wp2_with fail
    go_ret2
    exact ⟨rfl, rfl⟩

end Go.Proofs.Ytdjhoiamongdaaa
