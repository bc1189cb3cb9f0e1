/-
  Contracts of row.Size, row.putValue and row.Put.
-/
import Derived.Test.YtdjhoiamongdaaaRChk
import Derived.Test.YtdjhoiamongdaaaROwn
import Derived.Room.AppendFits
namespace Go.Proofs.Ytdjhoiamongdaaa
open Go.RowKit Go.Shelf

/-- A text's bytes; an int's seven. -/
def strB (s : ByteArray) : List Int := s.data.toList.map fun b => (b.toNat : Int)
def byteAt (n : Int) (i : Nat) : Int := n / 256 ^ i % 256
def seven (n : Int) : List Int := [byteAt n 6, byteAt n 5, byteAt n 4, byteAt n 3, byteAt n 2, byteAt n 1, byteAt n 0]
/-- A value's bytes. -/
def putV (v : Va) : List Int :=
  if v.k = 1 then [1, v.n] else if v.k = 2 then 2 :: seven (v.n + 9007199254740992) else if v.k = 3 then 3 :: (v.s.size : Int) :: strB v.s else [0]
def sizeV (v : Va) : Nat := (putV v).length
theorem sizeV_eq (v : Va) : sizeV v = if v.k = 1 then 2 else if v.k = 2 then 8 else if v.k = 3 then 2 + v.s.size else 1 := by
  unfold sizeV putV
  split
  · rfl
  · split
    · rfl
    · split
      · simp [strB]; omega
      · rfl
theorem ok_kind {v : Va} (h : v.ok = true) : v.k = 0 ∨ v.k = 1 ∨ v.k = 2 ∨ v.k = 3 := by
  unfold Va.ok okV at h
  by_cases h0 : v.k = 0
  · exact .inl h0
  · by_cases h1 : v.k = 1
    · exact .inr (.inl h1)
    · by_cases h2 : v.k = 2
      · exact .inr (.inr (.inl h2))
      · by_cases h3 : v.k = 3
        · exact .inr (.inr (.inr h3))
        · simp [h0, h1, h2, h3] at h
theorem ok_text {v : Va} (h : v.ok = true) : v.s.size ≤ 64 := by
  unfold Va.ok okV at h
  by_cases h3 : v.k = 3
  · simp [h3] at h; exact h.2
  · have he : v.s.toList.isEmpty = true := by
      split at h
      · simp at h; simp [h.2]
      · split at h
        · simp at h; simp [h.2]
        · split at h
          · simp at h; simp [h.2]
          · simp at h <;> exact absurd h.1 h3
    have : v.s.size = 0 := by
      rw [ByteArray.toList_eq] at he
      have : v.s.data.toList = [] := by simpa using he
      have e : v.s.data.toList.length = v.s.size := by simp
      rw [this] at e
      simpa using e.symm
    omega

set_option maxHeartbeats 400000 in
theorem valueSize_any (k : Int) (n : Nat) (w : World) (hn : n ≤ 65536) (hk : k = 0 ∨ k = 1 ∨ k = 2 ∨ k = 3) :
    Calls Try.prog 120 #[.int .i64 k, .int .i64 n] w fun e w' => e = .returned (.int .i64 (if k = 1 then 2 else if k = 2 then 8 else if k = 3 then 2 + (n : Int) else 1)) ∧ w = w' := by
  rcases hk with rfl | rfl | rfl | rfl
  all_goals
    go_enter Try.func120, Try.ntmps120
    go_wp2_with fail
    go_ret
    exact ⟨rfl, rfl⟩

set_option maxHeartbeats 400000 in
theorem sizeOne (v : Va) (w : World) (hv : v.ok = true) :
    Calls Try.prog 120 #[.int .i64 v.k, .int .i64 v.s.size] w fun e w' => e = .returned (.int .i64 (sizeV v)) ∧ w = w' := by
  have h := valueSize_any v.k v.s.size w (by have := ok_text hv; omega) (ok_kind hv)
  have e : (if v.k = 1 then (2 : Int) else if v.k = 2 then 8 else if v.k = 3 then 2 + (v.s.size : Int) else 1) = sizeV v := by
    rw [sizeV_eq]
    (repeat' split) <;> simp
  rw [e] at h
  exact h

/-- How many bytes a row has. -/
def sumV : List Va → Nat
  | [] => 0
  | v :: r => sizeV v + sumV r
theorem sumV_append (r r' : List Va) : sumV (r ++ r') = sumV r + sumV r' := by
  induction r with
  | nil => simp [sumV]
  | cons v r ih => simp [sumV, ih]; omega
theorem sumV_succ (r : List Va) (j : Nat) (h : j < r.length) : sumV (r.take (j + 1)) = sumV (r.take j) + sizeV r[j] := by
  rw [List.take_succ_eq_append_getElem h, sumV_append]; simp [sumV]
theorem sizeV_le {v : Va} (h : v.ok = true) : sizeV v ≤ 66 := by
  rw [sizeV_eq]
  have := ok_text h
  (repeat' split) <;> omega
theorem sumV_le (r : List Va) (h : ∀ v ∈ r, v.ok = true) : sumV r ≤ 66 * r.length := by
  induction r with
  | nil => simp [sumV]
  | cons v r ih =>
    have := sizeV_le (h v (by simp))
    have := ih (fun u hu => h u (by simp [hu]))
    simp [sumV]; omega
theorem okR_parts {r : List Va} (h : okR r = true) : r.length ≤ 32 ∧ ∀ v ∈ r, v.ok = true := by
  simp only [okR, Bool.and_eq_true, decide_eq_true_eq, Bool.not_eq_true'] at h
  refine ⟨h.1, fun v hv => ?_⟩
  cases hk : v.ok
  · have hb : badA v = true := by unfold badA; rw [hk]; rfl
    exact absurd (List.any_eq_true.2 ⟨v, hv, hb⟩) (by rw [h.2]; exact Bool.false_ne_true)
  · rfl

set_option maxHeartbeats 1000000 in
theorem size_any (A : Option Addr) (c : Nat) (r : List Va) (w : World) (h : RowAt w A r) (hf : Fine r) (hok : okR r = true) :
    Calls Try.prog 102 #[.slice A r.length c] w fun e w' => e = .returned (.int .i64 (1 + sumV r)) ∧ Below w.heap.size w w' := by
  obtain ⟨h32, hall⟩ := okR_parts hok
  have HA := Lib.hid hall
  have HK := Lib.hid (rowCheck_b true A c r w h hf (by omega) hok)
  clear hall hok
  go_enter Try.func102, Try.ntmps102
  go_wp2_with fail
  refine HK.out.mono ?_
  rintro e w1 ⟨rfl, hb1⟩
  go_wp2_with fail
  go_loopw [3, 11] (fun s i wr => ∃ j S : Nat, j ≤ r.length ∧ i = .int .i64 j ∧ s = .int .i64 S ∧ S ≤ 66 * j + 1 ∧ Below w.heap.size w wr ∧ Hid (S = 1 + sumV (r.take j))) (fun _ i _ => r.length - (intOf i).toNat)
  case atStart => exact ⟨0, 1, Nat.zero_le _, rfl, rfl, by omega, hb1, Lib.hid (by simp [sumV])⟩
  case round =>
    obtain ⟨j, S, hj, rfl, rfl, hS, hB, HS⟩ := hrel
    have hr := h.kept hB
    clear hb1
    by_cases hlt : j < r.length
    · obtain ⟨b, off, rfl, hb, c0, c1, c2⟩ := hr.at hlt
      have hz := hf.at hlt
      have HV := Lib.hid (HA.out r[j] (List.getElem_mem hlt))
      have HN := Lib.hid (sumV_succ r j hlt)
      have hle := sizeV_le HV.out
      generalize r[j] = v at c0 c1 c2 hz HV HN hle
      clear hr
      go_wp2_with fail
      refine (sizeOne v _ HV.out).mono ?_
      rintro e w2 ⟨rfl, rfl⟩
      generalize sizeV v = sv at hle HN ⊢
      go_wp2_with fail
      go_roundw
      case rel => exact ⟨j + 1, S + sv, by omega, by go_num, by go_num, by omega, bt hB (ba _ _), Lib.hid (by rw [HN.out, HS.out]; omega)⟩
      case measure => simp [intOf]; omega
    · have HE := Lib.hid (show S = 1 + sumV r by rw [HS.out, List.take_of_length_le (by omega)])
      go_wp2_with fail
      go_ret
      exact ⟨ret_int (by rw [HE.out]; simp), hB⟩

set_option maxHeartbeats 400000 in
theorem size_no (A : Option Addr) (c : Nat) (r : List Va) (w : World) (h : RowAt w A r) (hf : Fine r) (hl : r.length ≤ 9223372036854775807) (hok : okR r = false) :
    Calls Try.prog 102 #[.slice A r.length c] w fun e w' => e = .returned (.int .i64 0) ∧ Below w.heap.size w w' := by
  have HK := Lib.hid (rowCheck_b false A c r w h hf hl hok)
  clear hok h hf
  go_enter Try.func102, Try.ntmps102
  go_wp2_with fail
  refine HK.out.mono ?_
  rintro e w1 ⟨rfl, hb1⟩
  go_wp2_with fail
  go_ret
  exact ⟨rfl, hb1⟩

end Go.Proofs.Ytdjhoiamongdaaa
