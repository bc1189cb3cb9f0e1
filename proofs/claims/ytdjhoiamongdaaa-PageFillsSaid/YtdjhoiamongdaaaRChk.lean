/-
  Contracts of row.Check, of the library's ContainsFunc over values, and of the document's own Check.
-/
import Derived.Test.YtdjhoiamongdaaaRCmp
namespace Go.Proofs.Ytdjhoiamongdaaa
open Go.RowKit Go.Shelf

def badA (v : Va) : Bool := !v.ok
def okR (r : List Va) : Bool := decide (r.length ≤ 32) && !(r.any badA)

/-- A place, or none. -/
def IdxEnd (b : Bool) (w : World) (e : Ending) (w' : World) : Prop := ∃ i : Int, -1 ≤ i ∧ decide (0 ≤ i) = b ∧ e = .returned (.int .i64 i) ∧ Below w.heap.size w w'

set_option maxHeartbeats 400000 in
theorem bad_b (b : Bool) (v : Va) (w : World) (hs : v.s.size ≤ 9223372036854775807) (h : badA v = b) :
    Calls Try.prog 118 #[VV v.k v.n v.s] w fun e w' => e = .returned (.bool b) ∧ Below w.heap.size w w' := by
  have hc := check_any v.k v.n v.s
  cases b
  · have e1 : okV v.k v.n v.s = true := by simpa [badA, Va.ok] using h
    rw [e1] at hc
    have HC := Lib.hid hc
    clear hc h e1
    go_enter Try.func118, Try.ntmps118
    go_wp2_with fail
    refine (HC.out _ hs).mono ?_
    rintro e w1 ⟨rfl, hb1⟩
    go_wp2_with fail
    go_ret
    exact ⟨rfl, bt (ba _ _) hb1⟩
  · have e1 : okV v.k v.n v.s = false := by simpa [badA, Va.ok] using h
    rw [e1] at hc
    have HC := Lib.hid hc
    clear hc h e1
    go_enter Try.func118, Try.ntmps118
    go_wp2_with fail
    refine (HC.out _ hs).mono ?_
    rintro e w1 ⟨rfl, hb1⟩
    go_wp2_with fail
    go_ret
    exact ⟨rfl, bt (ba _ _) hb1⟩

set_option maxHeartbeats 1000000 in
theorem indexBad_any (A : Option Addr) (c : Nat) (r : List Va) (w : World) (h : RowAt w A r) (hf : Fine r) (hl : r.length ≤ 9223372036854775807) :
    Calls Try.prog 131 #[.slice A r.length c, .func (.func 118) #[] #[]] w (IdxEnd (r.any badA) w) := by
  have eg := enters_of Try.func118 (by kernel_rfl) rfl
  unfold Enters at eg
  go_enter Try.func131, Try.ntmps131
  go_wp2_with fail
  go_loopw [8] (fun i wr => ∃ j : Nat, j ≤ r.length ∧ i = .int .i64 j ∧ Below w.heap.size w wr ∧ Hid ((r.take j).any badA = false)) (fun i _ => r.length - (intOf i).toNat)
  case atStart => exact ⟨0, Nat.zero_le _, rfl, Below.refl _ _, Lib.hid (by simp)⟩
  case round =>
    obtain ⟨j, hj, rfl, hB, HN⟩ := hrel
    have hr := h.kept hB
    have HR := Lib.hid h
    clear h
    by_cases hlt : j < r.length
    · obtain ⟨b, off, rfl, hb, c0, c1, c2⟩ := hr.at hlt
      have hz := hf.at hlt
      have HS := Lib.hid (any_take_succ badA r j hlt)
      have HM := Lib.hid (show badA r[j] = true → r.any badA = true from fun hh => List.any_eq_true.2 ⟨_, List.getElem_mem hlt, hh⟩)
      generalize r[j] = v at c0 c1 c2 hz HS HM
      clear hr
      cases hbd : badA v
      · have HD := Lib.hid hbd
        have HE := Lib.hid (show (r.take (j + 1)).any badA = false by rw [HS.out, HN.out, hbd]; rfl)
        clear hbd
        go_wp2_with fail
        refine (bad_b false v _ hz HD.out).mono ?_
        rintro e w1 ⟨rfl, hb1⟩
        go_wp2_with fail
        go_roundw
        case rel => exact ⟨j + 1, by omega, by go_num, bt hB hb1, HE⟩
        case measure => simp [intOf]; omega
      · have HD := Lib.hid hbd
        have HE := Lib.hid (HM.out hbd)
        clear hbd
        go_wp2_with fail
        refine (bad_b true v _ hz HD.out).mono ?_
        rintro e w1 ⟨rfl, hb1⟩
        go_wp2_with fail
        go_ret
        exact ⟨j, by omega, by rw [HE.out]; simp, rfl, bt hB hb1⟩
    · have HE := Lib.hid (show r.any badA = false by rw [← HN.out, List.take_of_length_le (by omega)])
      go_wp2_with fail
      go_ret
      exact ⟨-1, by omega, by rw [HE.out]; rfl, rfl, hB⟩

set_option maxHeartbeats 400000 in
theorem containsBad_b (b : Bool) (A : Option Addr) (c : Nat) (r : List Va) (w : World) (h : RowAt w A r) (hf : Fine r) (hl : r.length ≤ 9223372036854775807) (hb : r.any badA = b) :
    Calls Try.prog 119 #[.slice A r.length c, .func (.func 118) #[] #[]] w fun e w' => e = .returned (.bool b) ∧ Below w.heap.size w w' := by
  have HI := Lib.hid (indexBad_any A c r w h hf hl)
  rw [hb] at HI
  clear hb h hf
  go_enter Try.func119, Try.ntmps119
  go_wp2_with fail
  refine HI.out.mono ?_
  rintro e w1 ⟨i, hi0, hi, rfl, hb1⟩
  go_wp2_with fail
  go_ret
  exact ⟨rfl, hb1⟩

theorem rowCheck_b (b : Bool) (A : Option Addr) (c : Nat) (r : List Va) (w : World) (h : RowAt w A r) (hf : Fine r) (hl : r.length ≤ 9223372036854775807) (hb : okR r = b) :
    Calls Try.prog 101 #[.slice A r.length c] w fun e w' => e = .returned (.int .i64 (if b then 0 else 20)) ∧ Below w.heap.size w w' := by
  by_cases h32 : 32 < r.length
  · have hF : b = false := by rw [← hb]; simp [okR]; omega
    subst hF
    clear hb h hf
    go_enter Try.func101, Try.ntmps101
    go_wp2_with fail
    go_ret
    exact ⟨rfl, Below.refl _ _⟩
  · have hF : (!(r.any badA)) = b := by rw [← hb]; simp [okR]; omega
    cases hbd : r.any badA
    · rw [hbd] at hF
      obtain rfl : true = b := hF
      have HI := Lib.hid (containsBad_b false A c r w h hf hl hbd)
      clear hb h hf hbd
      go_enter Try.func101, Try.ntmps101
      go_wp2_with fail
      refine HI.out.mono ?_
      rintro e w1 ⟨rfl, hb1⟩
      go_wp2_with fail
      go_ret
      exact ⟨rfl, hb1⟩
    · rw [hbd] at hF
      obtain rfl : false = b := hF
      have HI := Lib.hid (containsBad_b true A c r w h hf hl hbd)
      clear hb h hf hbd
      go_enter Try.func101, Try.ntmps101
      go_wp2_with fail
      refine HI.out.mono ?_
      rintro e w1 ⟨rfl, hb1⟩
      go_wp2_with fail
      go_ret
      exact ⟨rfl, hb1⟩

theorem refCheckA (b : Bool) (v : Va) (w : World) (hs : v.s.size ≤ 9223372036854775807) (h : badA v = b) :
    Calls Try.prog 92 #[VV v.k v.n v.s] w fun e w' => e = .returned (.bool (!b)) ∧ Below w.heap.size w w' := by
  have e1 : okV v.k v.n v.s = !b := by rw [← h]; simp [badA, Va.ok]
  rw [← e1]; exact refCheck_any _ _ _ _ hs

set_option maxHeartbeats 1000000 in
theorem refRowCheck_any (A : Option Addr) (c : Nat) (r : List Va) (w : World) (h : RowAt w A r) (hf : Fine r) (hl : r.length ≤ 9223372036854775807) :
    Calls Try.prog 66 #[.slice A r.length c] w fun e w' => e = .returned (.bool (okR r)) ∧ Below w.heap.size w w' := by
  go_enter Try.func66, Try.ntmps66
  go_wp2_with fail
  go_loopw [3] (fun i wr => ∃ j : Nat, j ≤ r.length ∧ i = .int .i64 j ∧ Below w.heap.size w wr ∧ Hid ((r.take j).any badA = false)) (fun i _ => r.length - (intOf i).toNat)
  case atStart => exact ⟨0, Nat.zero_le _, rfl, Below.refl _ _, Lib.hid (by simp)⟩
  case round =>
    obtain ⟨j, hj, rfl, hB, HN⟩ := hrel
    have hr := h.kept hB
    have HR := Lib.hid h
    clear h
    by_cases hlt : j < r.length
    · obtain ⟨b, off, rfl, hb, c0, c1, c2⟩ := hr.at hlt
      have hz := hf.at hlt
      have HS := Lib.hid (any_take_succ badA r j hlt)
      have HM := Lib.hid (show badA r[j] = true → r.any badA = true from fun hh => List.any_eq_true.2 ⟨_, List.getElem_mem hlt, hh⟩)
      generalize r[j] = v at c0 c1 c2 hz HS HM
      clear hr
      cases hbd : badA v
      · have HD := Lib.hid hbd
        have HE := Lib.hid (show (r.take (j + 1)).any badA = false by rw [HS.out, HN.out, hbd]; rfl)
        clear hbd
        go_wp2_with fail
        refine (refCheckA false v _ hz HD.out).mono ?_
        rintro e w1 ⟨rfl, hb1⟩
        go_wp2_with fail
        go_roundw
        case rel => exact ⟨j + 1, by omega, by go_num, bt hB hb1, HE⟩
        case measure => simp [intOf]; omega
      · have HD := Lib.hid hbd
        have HE := Lib.hid (show okR r = false by simp only [okR, HM.out hbd]; simp)
        clear hbd
        go_wp2_with fail
        refine (refCheckA true v _ hz HD.out).mono ?_
        rintro e w1 ⟨rfl, hb1⟩
        go_wp2_with fail
        go_ret
        exact ⟨ret_bool HE.out.symm, bt hB hb1⟩
    · have HE := Lib.hid (show okR r = decide (r.length ≤ 32) by
        have : r.any badA = false := by rw [← HN.out, List.take_of_length_le (by omega)]
        simp only [okR, this]; simp)
      go_wp2_with fail
      go_ret
      exact ⟨ret_bool (by rw [HE.out]; simp; omega), hB⟩

end Go.Proofs.Ytdjhoiamongdaaa
