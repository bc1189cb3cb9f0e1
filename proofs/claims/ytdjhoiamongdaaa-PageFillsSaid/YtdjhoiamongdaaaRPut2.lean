/-
  Contract of row.Put: a row's bytes, in a row of just that capacity.
-/
import Derived.Test.YtdjhoiamongdaaaRPut
namespace Go.Proofs.Ytdjhoiamongdaaa
open Go.RowKit Go.Shelf

theorem putValue_any (base g cap N : Nat) (l : List Int) (v : Va) (w : World) (hbuf : Buf w base g cap N l) (hv : v.ok = true) (hroom : N + sizeV v ≤ cap) :
    Calls Try.prog 103 #[.slice (some ⟨g, 0, none⟩) N cap, VV v.k v.n v.s] w (PutEnd base g cap (N + sizeV v) (l ++ putV v) w) := by
  have ht := ok_text hv
  have hk := ok_kind hv
  rw [sizeV_eq] at hroom
  obtain ⟨k, n, s⟩ := v
  rcases hk with h | h | h | h
  all_goals
    simp only at h
    subst h
    unfold Va.ok okV at hv
    simp at hv
    simp at hroom
    simp at ht
  · have e : N + sizeV ⟨0, n, s⟩ = N + 1 := by rw [sizeV_eq]; simp
    rw [e]
    exact putValue_null base g cap N l n s w hbuf hroom
  · have e : N + sizeV ⟨1, n, s⟩ = N + 1 + 1 := by rw [sizeV_eq]; simp
    have e2 : l ++ putV ⟨1, n, s⟩ = l ++ [1] ++ [n] := by simp [putV]
    rw [e, e2]
    exact putValue_bool base g cap N l n s w hbuf (by omega) hroom
  · have e : N + sizeV ⟨2, n, s⟩ = N + 1 + 7 := by rw [sizeV_eq]; simp
    have e2 : l ++ putV ⟨2, n, s⟩ = l ++ [2] ++ seven (n + 9007199254740992) := by simp [putV]
    rw [e, e2]
    exact putValue_int base g cap N l n s w hbuf (by omega) (by omega) hroom
  · have e : N + sizeV ⟨3, n, s⟩ = N + 1 + 1 + s.size := by rw [sizeV_eq]; simp; omega
    have e2 : l ++ putV ⟨3, n, s⟩ = l ++ [3] ++ [(s.size : Int)] ++ strB s := by simp [putV]
    rw [e, e2]
    obtain rfl : n = 0 := by omega
    exact putValue_text base g cap N l s w hbuf ht (by omega)

/-- A row's bytes. -/
def bodyR (r : List Va) : List Int := r.flatMap putV
def putR (r : List Va) : List Int := (r.length : Int) :: bodyR r
theorem bodyR_length (r : List Va) : (bodyR r).length = sumV r := by
  induction r with
  | nil => rfl
  | cons v r ih => simp [bodyR, sumV] at ih ⊢; rw [ih]; rfl
theorem bodyR_succ (r : List Va) (j : Nat) (h : j < r.length) : bodyR (r.take (j + 1)) = bodyR (r.take j) ++ putV r[j] := by
  unfold bodyR; rw [List.take_succ_eq_append_getElem h, List.flatMap_append]; simp
theorem sumV_take_le (r : List Va) (j : Nat) (h : j < r.length) : sumV (r.take j) + sizeV r[j] ≤ sumV r := by
  rw [← sumV_succ r j h]
  conv => rhs; rw [← List.take_append_drop (j + 1) r, sumV_append]
  omega

/-- The end of Put. -/
def PutREnd (w : World) (r : List Va) (e : Ending) (w' : World) : Prop :=
  ∃ g, e = .returned (.tuple #[.slice (some ⟨g, 0, none⟩) (1 + sumV r) (1 + sumV r), .int .i64 0]) ∧ Buf w' w.heap.size g (1 + sumV r) (1 + sumV r) (putR r) ∧ Below w.heap.size w w'

set_option maxRecDepth 100000 in
set_option maxHeartbeats 2000000 in
theorem put_ok (A : Option Addr) (c : Nat) (r : List Va) (w : World) (h : RowAt w A r) (hf : Fine r) (hok : okR r = true) :
    Calls Try.prog 90 #[.slice A r.length c] w (PutREnd w r) := by
  obtain ⟨h32, hall⟩ := okR_parts hok
  have HA := Lib.hid hall
  have HK := Lib.hid (rowCheck_b true A c r w h hf (by omega) hok)
  have hsum := sumV_le r hall
  obtain ⟨i0, hi, hz0, hz1, hz2⟩ := info_parts info_byte
  clear hall
  have HO := Lib.hid hok
  clear hok
  go_enter Try.func90, Try.ntmps90
  go_wp2_with fail
  refine HK.out.mono ?_
  rintro e w1 ⟨rfl, hb1⟩
  have hr1 := h.kept hb1
  go_wp2_with fail
  refine (size_any A c r w1 hr1 hf HO.out).mono ?_
  rintro e w2 ⟨rfl, hb2⟩
  have hB2 := bt hb1 hb2
  have hs2 := hB2.size
  generalize hS : sumV r = S at hsum
  go_wp2_with (at_make; refine wpList_make_own _ rfl _ _ 25 rfl w.heap.size 5 i0 _ 1 Try.underlying25 hi hz0 hz1 _ _ _ (1 + S) rfl rfl ?b0 ?b1 ?b2 ?b3 ?_)
  case b0 => simp
  case b1 => rw [hz2]; omega
  case b2 => simp [maxLen]; omega
  case b3 => exact hs2
  intro w3 hown hg
  have hB3 := hB2.grown hg hs2 (fun k hk => by cases hk)
  have hbuf : Buf w3 w.heap.size w2.heap.size (1 + S) 0 [] := ⟨rfl, hown⟩
  generalize w2.heap.size = g at hbuf ⊢
  have HS := Lib.hid hS
  have HB := Lib.hid hbuf
  clear hown hg hr1 hb1 hb2 hB2 hs2 hS hbuf
  go_wp2_with (at_builtin; refine wpList_push rfl (.tmp 16) (.tmp 20) rfl w.heap.size g (1 + S) 0 [] (r.length : Int) _ rfl HB.out _ rfl rfl ?c1 ?_)
  case c1 => omega
  intro w4 hb4 he4 hB4 hz4
  have HB4 := Lib.hid hb4
  have HW4 := Lib.hid (hB3.trans hB4)
  clear hb4 he4 hB4 hz4 hB3
  go_wp2_with fail
  go_loopw [5, 24] (fun v i wr => ∃ j N : Nat, j ≤ r.length ∧ i = .int .i64 j ∧ v = .slice (some ⟨g, 0, none⟩) N (1 + S) ∧ Hid (N = 1 + sumV (r.take j)) ∧ Hid (Buf wr w.heap.size g (1 + S) N ((r.length : Int) :: bodyR (r.take j))) ∧ Below w.heap.size w wr) (fun _ i _ => r.length - (intOf i).toNat)
  case atStart => exact ⟨0, 1, Nat.zero_le _, rfl, rfl, Lib.hid (by simp [sumV]), Lib.hid (by simpa [bodyR] using HB4.out), HW4.out⟩
  case round =>
    obtain ⟨j, N, hj, rfl, rfl, HN, HBj, hB⟩ := hrel
    have hr := h.kept hB
    by_cases hlt : j < r.length
    · obtain ⟨b, off, rfl, hb, c0, c1, c2⟩ := hr.at hlt
      have HV := Lib.hid (HA.out r[j] (List.getElem_mem hlt))
      have HX := Lib.hid (bodyR_succ r j hlt)
      have HX2 := Lib.hid (sumV_succ r j hlt)
      have HR := Lib.hid (show N + sizeV r[j] ≤ 1 + S by have := sumV_take_le r j hlt; rw [HN.out, ← HS.out]; omega)
      generalize r[j] = v at c0 c1 c2 HV HX HX2 HR
      clear hr
      go_wp2_with fail
      refine (putValue_any w.heap.size g (1 + S) N _ v _ (HBj.out.alloc _) HV.out HR.out).mono ?_
      rintro e w5 ⟨rfl, hb5, hB5⟩
      have HB5 := Lib.hid hb5
      have HW5 := Lib.hid ((hB.alloc hB.size _).trans hB5)
      clear hb5 hB5
      generalize hq : N + sizeV v = q at HB5 ⊢
      have HQ := Lib.hid hq
      clear hq
      go_wp2_with fail
      go_roundw
      case rel => exact ⟨j + 1, q, by omega, by go_num, rfl, Lib.hid (by rw [← HQ.out, HX2.out, HN.out]; omega), Lib.hid (by rw [HX.out]; simpa using HB5.out), HW5.out⟩
      case measure => simp [intOf]; omega
    · obtain rfl : j = r.length := by omega
      have eN : N = 1 + S := by rw [HN.out, List.take_length, HS.out]
      subst eN
      go_wp2_with fail
      go_ret2
      have hbj := HBj.out
      rw [List.take_length] at hbj
      refine ⟨g, ?_, ?_, hB⟩
      · simp [HS.out]
      · rw [HS.out]; exact hbj

set_option maxHeartbeats 400000 in
theorem put_no (A : Option Addr) (c : Nat) (r : List Va) (w : World) (h : RowAt w A r) (hf : Fine r) (hl : r.length ≤ 9223372036854775807) (hok : okR r = false) :
    Calls Try.prog 90 #[.slice A r.length c] w fun e w' => e = .returned (.tuple #[.slice none 0 0, .int .i64 20]) ∧ Below w.heap.size w w' := by
  have HK := Lib.hid (rowCheck_b false A c r w h hf hl hok)
  clear hok h hf
  go_enter Try.func90, Try.ntmps90
  go_wp2_with fail
  refine HK.out.mono ?_
  rintro e w1 ⟨rfl, hb1⟩
  go_wp2_with fail
  go_ret2
  exact ⟨rfl, hb1⟩

end Go.Proofs.Ytdjhoiamongdaaa
