/-
  The contract of 'large': is a row too long to be looked at?
-/
import Derived.Test.YtlobgdfmgbedgaaRMem
import Derived.Test.YtlobgdfmgbedgaaProg
namespace Go.Proofs.Ytlobgdfmgbedgaa
open Go.RowKit

def longV (v : Va) : Bool := decide (200 < v.s.size)
def largeV (r : List Va) : Bool := decide (100 < r.length) || r.any longV

set_option maxHeartbeats 400000 in
theorem large_any (A : Option Addr) (c : Nat) (r : List Va) (w : World) (h : RowAt w A r) (hf : Fine r) (hl : r.length ≤ 9223372036854775807) :
    Calls Try.prog 16 #[.slice A r.length c] w fun e w' => e = .returned (.bool (largeV r)) ∧ w = w' := by
  by_cases h1 : 100 < r.length
  · have HF := Lib.hid (show largeV r = true by simp [largeV, h1])
    go_enter Try.func16, Try.ntmps16
    go_wp2_with fail
    go_ret
    exact ⟨ret_bool HF.out.symm, rfl⟩
  · have HF := Lib.hid (show largeV r = r.any longV by simp [largeV, h1])
    go_enter Try.func16, Try.ntmps16
    go_wp2_with fail
    go_loop [3] (fun i => ∃ j : Nat, j ≤ r.length ∧ i = .int .i64 j ∧ Hid ((r.take j).any longV = false)) (fun i => r.length - (intOf i).toNat)
    case atStart => exact ⟨0, Nat.zero_le _, rfl, Lib.hid (by simp)⟩
    case round =>
      obtain ⟨j, hj, rfl, HN⟩ := hrel
      by_cases hlt : j < r.length
      · obtain ⟨b, off, rfl, hb, c0, c1, c2⟩ := h.at hlt
        have hz := hf.at hlt
        have HS := Lib.hid (any_take_succ longV r j hlt)
        have HM := Lib.hid (show longV r[j] = true → r.any longV = true from fun hh => List.any_eq_true.2 ⟨_, List.getElem_mem hlt, hh⟩)
        generalize r[j] = v at c0 c1 c2 hz HS HM
        go_wp2_with fail
        · have hg : (200 : Int) < v.s.size := by assumption
          go_ret
          exact ⟨ret_bool (by rw [HF.out, HM.out (by simp [longV]; omega)]), rfl⟩
        · have hg : (v.s.size : Int) ≤ 200 := by assumption
          go_round
          case rel => exact ⟨j + 1, by omega, by go_num, Lib.hid (by rw [HS.out, HN.out]; simp [longV]; omega)⟩
          case measure => simp [intOf]; omega
      · go_wp2_with fail
        go_ret
        exact ⟨ret_bool (by rw [HF.out, ← HN.out, List.take_of_length_le (by omega)]), rfl⟩

theorem large_len {r : List Va} (h : largeV r = false) : r.length ≤ 100 ∧ ∀ v ∈ r, v.s.size ≤ 200 := by
  simp [largeV, longV] at h
  exact ⟨h.1, fun v hv => h.2 v hv⟩

theorem large_B (A : Option Addr) (c : Nat) (r : List Va) (w : World) (h : RowAt w A r) (hf : Fine r) (hl : r.length ≤ 9223372036854775807) :
    Calls Try.prog 16 #[.slice A r.length c] w fun e w' => e = .returned (.bool (largeV r)) ∧ Below w.heap.size w w' :=
  (large_any A c r w h hf hl).mono fun _ _ ⟨he, hw⟩ => ⟨he, hw ▸ Below.refl _ _⟩

end Go.Proofs.Ytlobgdfmgbedgaa
