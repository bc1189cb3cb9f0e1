/-
  The walk of DiskFaults.
-/
import Derived.Test.YthfopabefknlkabDke
namespace Go.Proofs.Ythfopabefknlkab
open Go.RowKit Go.Maps Go.Sort

set_option maxRecDepth 100000 in
set_option maxHeartbeats 2000000 in
theorem diskFaults_out (A : Option Addr) (c : Nat) (fa : List Int) (n : Int) (w : World) (hA : NumsAt w A fa) (hwf : ∀ n ∈ fa, (Lit.int .i64 n).wf = true) (hl : fa.length ≤ maxLen) (hout : 100 < fa.length ∨ n < 0 ∨ 200 < n) :
    Calls Try.prog 6 #[.slice A fa.length c, .int .i64 n] w fun e w' => e = .returned (.bool true) ∧ Below w.heap.size w w' := by
  have HN := Lib.hid (fl_new A c fa w hA hwf hl)
  have hl2 : fa.length ≤ 9223372036854775807 := by simp only [maxLen] at hl; omega
  clear hA hwf hl
  have hcase : (100 < fa.length) ∨ (fa.length ≤ 100 ∧ n < 0) ∨ (fa.length ≤ 100 ∧ 0 ≤ n ∧ 200 < n) := by omega
  clear hout
  rcases hcase with h1 | h1 | h1
  all_goals
    go_enter Try.func6, Try.ntmps6
    go_wp2_with fail
    refine HN.out.mono ?_
    rintro e w1 ⟨⟨l, mf, ms, rfl, _⟩, hb1⟩
    have HB1 := Lib.hid hb1
    clear hb1
    go_wp2_with fail
    refine (lives5_yes w1).mono ?_
    rintro e w2 ⟨rfl, hb2⟩
    have HB2 := Lib.hid (bt HB1.out hb2)
    clear hb2
    go_wp2_with fail
    refine (lives5_yes w2).mono ?_
    rintro e w3 ⟨rfl, hb3⟩
    have HB3 := Lib.hid (bt HB2.out hb3)
    clear hb3
    go_wp2_with fail
    go_ret
    exact ⟨rfl, HB3.out⟩
/-- What the inner loop has found behind k faults. -/
def seenF (fa : List Int) (i : Int) (k : Nat) : Int := if i + 1 ∈ fa.take k then 50 else 0
theorem seenF_succ (fa : List Int) (i : Int) (k : Nat) (hk : k < fa.length) : seenF fa i (k + 1) = if fa[k] = i + 1 then 50 else seenF fa i k := by
  unfold seenF
  rw [List.take_succ_eq_append_getElem hk]
  by_cases e : fa[k] = i + 1
  · rw [if_pos e, if_pos (by rw [List.mem_append]; exact .inr (by simp [e]))]
  · rw [if_neg e]
    by_cases h : i + 1 ∈ fa.take k
    · rw [if_pos h, if_pos (List.mem_append_left _ h)]
    · rw [if_neg h, if_neg (fun hh => by
        rcases List.mem_append.1 hh with hh | hh
        · exact h hh
        · simp at hh; exact e hh.symm)]
theorem seenF_all (fa : List Int) (i : Int) (k : Nat) (hk : fa.length ≤ k) : seenF fa i k = wantF fa i := by
  unfold seenF wantF
  rw [List.take_of_length_le hk]
set_option maxRecDepth 100000 in
set_option maxHeartbeats 8000000 in
theorem diskFaults_in (A : Option Addr) (c : Nat) (fa : List Int) (n : Int) (w : World) (hA : NumsAt w A fa) (hwf : ∀ n ∈ fa, (Lit.int .i64 n).wf = true) (hl : fa.length ≤ 100) (hn0 : 0 ≤ n) (hn1 : n ≤ 200) :
    Calls Try.prog 6 #[.slice A fa.length c, .int .i64 n] w fun e w' => e = .returned (.bool true) ∧ Below w.heap.size w w' := by
  have HN := Lib.hid (fl_new A c fa w hA hwf (by simp [maxLen]; omega))
  have HA := Lib.hid hA
  have HW := Lib.hid (show ∀ n ∈ fa, -9223372036854775808 ≤ n ∧ n ≤ 9223372036854775807 from fun n hn => by
    have := hwf n hn
    simp [Lit.wf, IntKind.min, IntKind.max, IntKind.bits, IntKind.signed] at this
    omega)
  clear hA hwf
  go_enter Try.func6, Try.ntmps6
  go_wp2_with fail
  refine HN.out.mono ?_
  rintro e w1 ⟨⟨l, mf, ms, rfl, hd⟩, hb1⟩
  have HD1 := Lib.hid hd
  have HB1 := Lib.hid hb1
  clear hb1 hd HN
  go_wp2_with fail
  refine (lives5_yes w1).mono ?_
  rintro e w2 ⟨rfl, hb2⟩
  have HD2 := Lib.hid (HD1.out.kept hb2)
  have HB2 := Lib.hid (bt HB1.out hb2)
  clear hb2
  go_wp2_with fail
  refine (fl_create HD2.out).mono ?_
  rintro e w3 ⟨rfl, hd, hg⟩
  have HD3 := Lib.hid hd
  have HB3 := Lib.hid (HB2.out.trans hg.below)
  clear hd hg HD1 HD2 HB1 HB2
  go_wp2_with fail
  go_loopw [9, 10] (fun s v wr => ∃ (i dn : Int), s = .int .i64 dn ∧ v = .int .i64 i ∧ 0 ≤ dn ∧ dn ≤ i ∧ i ≤ n ∧ Hid (FlSt w.heap.size wr l mf ms fa i dn) ∧ Hid (Below w.heap.size w wr)) (fun _ v _ => (n - intOf v).toNat)
  case atStart => exact ⟨0, 0, rfl, rfl, by omega, by omega, by omega, HD3, HB3⟩
  case round =>
    obtain ⟨i, dn, rfl, rfl, d0, d1, i1, HD, HB⟩ := hrel
    clear HD3 HB3
    rcases Int.lt_or_le i n with hin | hin
    · go_wp2_with fail
      go_loopw [11, 12] (fun s v wx => ∃ k : Nat, s = .int .i64 (seenF fa i k) ∧ v = .int .i64 k ∧ k ≤ fa.length ∧ wx = wr) (fun _ v _ => fa.length - (intOf v).toNat)
      case atStart => exact ⟨0, by simp [seenF], rfl, Nat.zero_le _, rfl⟩
      case round =>
        obtain ⟨k, rfl, rfl, hk, rfl⟩ := hrel
        by_cases hkl : k < fa.length
        · obtain ⟨b, off, hAe, hbb, c0⟩ := (HA.out.kept HB.out).at hkl
          have HS := Lib.hid (seenF_succ fa i k hkl)
          have hwn := HW.out _ (List.getElem_mem hkl)
          obtain ⟨s, hs⟩ : ∃ s, s = seenF fa i k := ⟨_, rfl⟩
          rw [← hs] at HS ⊢
          subst hAe
          generalize fa[k] = x at c0 HS hwn
          clear hs
          by_cases hmin : x = -9223372036854775808
          · subst hmin
            have HS2 := Lib.hid (show s = seenF fa i (k + 1) by rw [HS.out, if_neg (by omega)])
            have hne : (wrap64 (-9223372036854775809) == i) = false := by
              rw [show wrap64 (-9223372036854775809) = 9223372036854775807 by unfold wrap64; omega]
              simp
              omega
            go_wp2_with fail
            go_roundw
            case rel => exact ⟨k + 1, (by first | exact HS2.out | exact congrArg _ HS2.out | rw [← HS2.out]), by go_num, by omega, trivial⟩
            case measure => simp [intOf]; omega
          · by_cases hx : x = i + 1
            · have HS2 := Lib.hid (show (50 : Int) = seenF fa i (k + 1) by rw [HS.out, if_pos hx])
              have hx2 : x - 1 = i := by omega
              clear hx
              go_wp2_with fail
              go_roundw
              case rel => exact ⟨k + 1, (by first | exact HS2.out | exact congrArg _ HS2.out | rw [← HS2.out]), by go_num, by omega, trivial⟩
              case measure => simp [intOf]; omega
            · have HS2 := Lib.hid (show s = seenF fa i (k + 1) by rw [HS.out, if_neg hx])
              have hx2 : ¬ (x - 1 = i) := by omega
              go_wp2_with fail
              go_roundw
              case rel => exact ⟨k + 1, (by first | exact HS2.out | exact congrArg _ HS2.out | rw [← HS2.out]), by go_num, by omega, trivial⟩
              case measure => simp [intOf]; omega
        · rw [seenF_all fa i k (by omega)]
          go_wp2_with fail
          refine (page_any 1 _).mono ?_
          rintro e w4 ⟨g, rfl, _, hp, hb4⟩
          have HD4 := Lib.hid (HD.out.kept hb4)
          have HB4 := Lib.hid (bt HB.out hb4)
          have HQ4 := Lib.hid hp
          clear hp hb4
          go_wp2_with fail
          refine (fl_app HD4.out d0 d1 (by omega) g HQ4.out).mono ?_
          rintro e w5 ⟨rfl, hd5, hg5⟩
          have HD5 := Lib.hid hd5
          have HB5 := Lib.hid (HB4.out.trans hg5.below)
          clear hd5 hg5
          by_cases hm : i + 1 ∈ fa
          · have hw1 : wantF fa i = 50 := by unfold wantF; rw [if_pos hm]
            have hw2 : doneF fa i dn = dn := by unfold doneF; rw [if_pos hm]
            rw [hw1]
            rw [hw2] at HD5
            clear hw1 hw2 hm
            go_wp2_with fail
            exact ⟨⟨i + 1, dn, rfl, rfl, d0, by omega, by omega, HD5, HB5⟩, by simp [intOf]; omega⟩
          · have hw1 : wantF fa i = 0 := by unfold wantF; rw [if_neg hm]
            have hw2 : doneF fa i dn = dn + 1 := by unfold doneF; rw [if_neg hm]
            rw [hw1]
            rw [hw2] at HD5
            clear hw1 hw2 hm
            go_wp2_with fail
            exact ⟨⟨i + 1, dn + 1, rfl, rfl, by omega, by omega, by omega, HD5, HB5⟩, by simp [intOf]; omega⟩
    · have hie : i = n := by omega
      subst hie
      go_wp2_with fail
      refine (fl_meter HD.out).mono ?_
      rintro e w4 ⟨⟨r, u, p, rfl⟩, hb4⟩
      have HD4 := Lib.hid (HD.out.kept hb4)
      have HB4 := Lib.hid (bt HB.out hb4)
      clear hb4
      have hfd := field_writes
      go_wp2_with fail
      refine (fl_deeds HD4.out).mono ?_
      rintro e w5 ⟨rfl, rfl⟩
      go_wp2_with fail
      go_ret
      exact ⟨rfl, HB4.out⟩
theorem diskFaults_walk (A : Option Addr) (c : Nat) (fa : List Int) (n : Int) (w : World) (hA : NumsAt w A fa) (hwf : ∀ n ∈ fa, (Lit.int .i64 n).wf = true) (hl : fa.length ≤ maxLen) :
    Calls Try.prog 6 #[.slice A fa.length c, .int .i64 n] w fun e w' => e = .returned (.bool true) ∧ Below w.heap.size w w' := by
  by_cases h : 100 < fa.length ∨ n < 0 ∨ 200 < n
  · exact diskFaults_out A c fa n w hA hwf hl h
  · exact diskFaults_in A c fa n w hA hwf (by omega) (by omega) (by omega)
end Go.Proofs.Ythfopabefknlkab
