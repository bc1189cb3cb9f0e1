/-
  Contracts of page.rowBytes and of the laws' own 'large' and 'size'.
-/
import Derived.Test.YtdjhoiamongdaaaPgR
import Derived.Test.YtdjhoiamongdaaaRPut2
import Derived.Test.YtdjhoiamongdaaaLOpen
namespace Go.Proofs.Ytdjhoiamongdaaa
open Go.RowKit Go.Shelf

/-- The ends of page.rowBytes. -/
def RBEnd (w : World) (r : List Va) (e : Ending) (w' : World) : Prop :=
  if okR r = true then
    if 253 < 1 + sumV r then e = .returned (.tuple #[.slice none 0 0, .int .i64 3]) ∧ Below w.heap.size w w' else PutREnd w r e w'
  else e = .returned (.tuple #[.slice none 0 0, .int .i64 20]) ∧ Below w.heap.size w w'

set_option maxHeartbeats 400000 in
theorem rowBytes_any (A : Option Addr) (c : Nat) (r : List Va) (w : World) (h : RowAt w A r) (hf : Fine r) (hl : r.length ≤ 9223372036854775807) :
    Calls Try.prog 63 #[.slice A r.length c] w (RBEnd w r) := by
  unfold RBEnd
  by_cases hok : okR r = true
  · have HI := Lib.hid (put_ok A c r w h hf hok)
    have hs : sumV r ≤ 65536 := by
      obtain ⟨h32, hall⟩ := okR_parts hok
      have := sumV_le r hall
      omega
    clear h
    simp only [if_pos hok]
    by_cases hw : 253 < 1 + sumV r
    · simp only [if_pos hw]
      go_enter Try.func63, Try.ntmps63
      go_wp2_with fail
      refine HI.out.mono ?_
      rintro e w1 ⟨g, rfl, _, hb⟩
      go_wp2_with fail
      go_ret2
      exact ⟨rfl, hb⟩
    · simp only [if_neg hw]
      go_enter Try.func63, Try.ntmps63
      go_wp2_with fail
      refine HI.out.mono ?_
      rintro e w1 ⟨g, rfl, hB, hb⟩
      have HB := Lib.hid hB
      clear hB
      go_wp2_with fail
      go_ret2
      exact ⟨g, rfl, HB.out, hb⟩
  · have HI := Lib.hid (put_no A c r w h hf hl (by simpa using hok))
    clear h
    simp only [if_neg hok]
    go_enter Try.func63, Try.ntmps63
    go_wp2_with fail
    refine HI.out.mono ?_
    rintro e w1 ⟨rfl, hb⟩
    go_wp2_with fail
    go_ret2
    exact ⟨rfl, hb⟩

def wideP (r : List Va) : Bool := decide (100 < r.length)
def largeP (rs : List (List Va)) : Bool := decide (600 < rs.length) || rs.any wideP
theorem anyp_take_succ (p : List Va → Bool) (r : List (List Va)) (i : Nat) (hi : i < r.length) : (r.take (i + 1)).any p = ((r.take i).any p || p r[i]) := by
  rw [List.take_succ_eq_append_getElem hi, List.any_append]
  simp

set_option maxHeartbeats 400000 in
theorem largeP_any (A : Option Addr) (c : Nat) (rs : List (List Va)) (w : World) (h : RowsAt w A rs) (hk : ∀ r ∈ rs, r.length ≤ 9223372036854775807) (hl : rs.length ≤ 9223372036854775807) :
    Calls Try.prog 15 #[.slice A rs.length c] w fun e w' => e = .returned (.bool (largeP rs)) ∧ w = w' := by
  have HK := Lib.hid hk
  have HR := Lib.hid h
  clear hk h
  by_cases h1 : 600 < rs.length
  · have HF := Lib.hid (show largeP rs = true by simp [largeP, h1])
    go_enter Try.func15, Try.ntmps15
    go_wp2_with fail
    go_ret
    exact ⟨ret_bool HF.out.symm, rfl⟩
  · have HF := Lib.hid (show largeP rs = rs.any wideP by simp [largeP, h1])
    go_enter Try.func15, Try.ntmps15
    go_wp2_with fail
    go_loop [3] (fun i => ∃ j : Nat, j ≤ rs.length ∧ i = .int .i64 j ∧ Hid ((rs.take j).any wideP = false)) (fun i => rs.length - (intOf i).toNat)
    case atStart => exact ⟨0, Nat.zero_le _, rfl, Lib.hid (by simp)⟩
    case round =>
      obtain ⟨j, hj, rfl, HN⟩ := hrel
      by_cases hlt : j < rs.length
      · obtain ⟨b, off, rfl, A', c', c0, _⟩ := HR.out.cellAt hlt
        have hz := HK.out rs[j] (List.getElem_mem hlt)
        have HS := Lib.hid (anyp_take_succ wideP rs j hlt)
        have HM := Lib.hid (show wideP rs[j] = true → rs.any wideP = true from fun hh => List.any_eq_true.2 ⟨_, List.getElem_mem hlt, hh⟩)
        generalize rs[j] = v at c0 hz HS HM
        go_wp2_with fail
        · have hg : (100 : Int) < v.length := by assumption
          go_ret
          exact ⟨ret_bool (by rw [HF.out, HM.out (by simp [wideP]; omega)]), rfl⟩
        · have hg : (v.length : Int) ≤ 100 := by assumption
          go_round
          case rel => exact ⟨j + 1, by omega, by go_num, Lib.hid (by rw [HS.out, HN.out]; simp [wideP]; omega)⟩
          case measure => simp [intOf]; omega
      · go_wp2_with fail
        go_ret
        exact ⟨ret_bool (by rw [HF.out, ← HN.out, List.take_of_length_le (by omega)]), rfl⟩
theorem largeP_len {rs : List (List Va)} (h : largeP rs = false) : rs.length ≤ 600 ∧ ∀ r ∈ rs, r.length ≤ 100 := by
  simp [largeP, wideP] at h
  exact ⟨h.1, fun v hv => h.2 v hv⟩

set_option maxHeartbeats 1000000 in
theorem sizeL_any (A : Option Addr) (c : Nat) (r : List Va) (w : World) (h : RowAt w A r) (hf : Fine r) (hok : okR r = true) :
    Calls Try.prog 33 #[.slice A r.length c] w fun e w' => e = .returned (.int .i64 ((1 + sumV r : Nat) : Int)) ∧ w = w' := by
  obtain ⟨h32, hall⟩ := okR_parts hok
  have HSum := Lib.hid (sumV_le r hall)
  have HT := Lib.hid (fun j (hj : j < r.length) => sumV_take_le r j hj)
  have HO := Lib.hid hall
  clear hall hok
  have hs : sumV r ≤ 65536 := by have := HSum.out; omega
  go_enter Try.func33, Try.ntmps33
  go_wp2_with fail
  go_loop [3, 4] (fun s i => ∃ j S : Nat, j ≤ r.length ∧ i = .int .i64 j ∧ s = .int .i64 S ∧ Hid (S = 1 + sumV (r.take j)) ∧ S ≤ 65537) (fun _ i => r.length - (intOf i).toNat)
  case atStart => exact ⟨0, 1, by omega, rfl, rfl, Lib.hid rfl, by omega⟩
  case round =>
    obtain ⟨j, S, hj, rfl, rfl, HS, hS⟩ := hrel
    by_cases hlt : j < r.length
    · obtain ⟨b, off, rfl, hb, c0, c1, c2⟩ := h.at hlt
      have hz := hf.at hlt
      have hk := ok_kind (HO.out _ (List.getElem_mem hlt))
      have HZ := Lib.hid (sizeV_eq r[j])
      have hle : S + sizeV r[j] ≤ 65537 := by have := HT.out j hlt; have := HS.out; omega
      have HN := Lib.hid (show S + sizeV r[j] = 1 + sumV (r.take (j + 1)) by rw [sumV_succ r j hlt, HS.out]; omega)
      generalize r[j] = v at c0 c1 c2 hz hk HZ hle HN
      obtain ⟨k, n, s⟩ := v
      simp only at c0 c1 c2 hz hk
      have H2 := Lib.hid hle
      clear hle
      rcases hk with rfl | rfl | rfl | rfl
      · obtain ⟨z, hz0⟩ : ∃ z, z = sizeV ⟨0, n, s⟩ := ⟨_, rfl⟩
        have e1 : z = 1 := by rw [hz0, HZ.out]; rfl
        have HL := Lib.hid (show S + 1 = 1 + sumV (r.take (j + 1)) by rw [← HN.out, ← hz0, e1])
        have hl2 : S + 1 ≤ 65537 := by have := H2.out; rw [← hz0, e1] at this; exact this
        clear hz0
        go_wp2_with fail
        go_round
        case rel => exact ⟨j + 1, S + 1, by omega, by go_num, by go_num, HL, hl2⟩
        case measure => simp [intOf]; omega
      · obtain ⟨z, hz0⟩ : ∃ z, z = sizeV ⟨1, n, s⟩ := ⟨_, rfl⟩
        have e1 : z = 2 := by rw [hz0, HZ.out]; rfl
        have HL := Lib.hid (show S + 2 = 1 + sumV (r.take (j + 1)) by rw [← HN.out, ← hz0, e1])
        have hl2 : S + 2 ≤ 65537 := by have := H2.out; rw [← hz0, e1] at this; exact this
        clear hz0
        go_wp2_with fail
        go_round
        case rel => exact ⟨j + 1, S + 2, by omega, by go_num, by go_num, HL, hl2⟩
        case measure => simp [intOf]; omega
      · obtain ⟨z, hz0⟩ : ∃ z, z = sizeV ⟨2, n, s⟩ := ⟨_, rfl⟩
        have e1 : z = 8 := by rw [hz0, HZ.out]; rfl
        have HL := Lib.hid (show S + 8 = 1 + sumV (r.take (j + 1)) by rw [← HN.out, ← hz0, e1])
        have hl2 : S + 8 ≤ 65537 := by have := H2.out; rw [← hz0, e1] at this; exact this
        clear hz0
        go_wp2_with fail
        go_round
        case rel => exact ⟨j + 1, S + 8, by omega, by go_num, by go_num, HL, hl2⟩
        case measure => simp [intOf]; omega
      · obtain ⟨z, hz0⟩ : ∃ z, z = sizeV ⟨3, n, s⟩ := ⟨_, rfl⟩
        have e1 : z = 2 + s.size := by rw [hz0, HZ.out]; rfl
        have HL := Lib.hid (show S + 2 + s.size = 1 + sumV (r.take (j + 1)) by rw [← HN.out, ← hz0, e1]; omega)
        have hl2 : S + 2 + s.size ≤ 65537 := by have := H2.out; rw [← hz0, e1] at this; omega
        clear hz0
        go_wp2_with fail
        go_round
        case rel => exact ⟨j + 1, S + 2 + s.size, by omega, by go_num, by go_num, HL, hl2⟩
        case measure => simp [intOf]; omega
    · have HE := Lib.hid (show S = 1 + sumV r by rw [HS.out, List.take_of_length_le (by omega)])
      go_wp2_with fail
      go_ret
      exact ⟨congrArg (fun x : Int => Ending.returned (.int .i64 x)) (show (S : Int) = _ by have := HE.out; omega), rfl⟩
end Go.Proofs.Ytdjhoiamongdaaa
