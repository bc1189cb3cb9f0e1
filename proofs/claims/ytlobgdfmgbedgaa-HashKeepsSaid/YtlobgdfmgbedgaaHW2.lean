/-
  The walk of HashSplits.
-/
import Derived.Test.YtlobgdfmgbedgaaHSpl2
import Derived.Test.YtlobgdfmgbedgaaHLiv
namespace Go.Proofs.Ytlobgdfmgbedgaa
open Go.RowKit Go.Shelf

def wideR (r : List Va) : Bool := decide (100 < r.length)
def largeL (rs : List (List Va)) : Bool := decide (300 < rs.length) || rs.any wideR
theorem largeL_no {rs : List (List Va)} (h : largeL rs = false) : rs.length ≤ 300 ∧ ∀ r ∈ rs, r.length ≤ 100 := by
  simp [largeL, wideR] at h
  exact ⟨h.1, fun r hr => h.2 r hr⟩
theorem anyl_take_succ (p : List Va → Bool) (l : List (List Va)) (i : Nat) (hi : i < l.length) : (l.take (i + 1)).any p = ((l.take i).any p || p l[i]) := by
  rw [List.take_succ_eq_append_getElem hi, List.any_append]
  simp

set_option maxHeartbeats 400000 in
theorem largeH_any (A : Option Addr) (c : Nat) (rs : List (List Va)) (w : World) (h : RowsAt w A rs) (hk : ∀ r ∈ rs, r.length ≤ 9223372036854775807) (hl : rs.length ≤ 9223372036854775807) :
    Calls Try.prog 37 #[.slice A rs.length c] w fun e w' => e = .returned (.bool (largeL rs)) ∧ w = w' := by
  have HK := Lib.hid hk
  have HR := Lib.hid h
  clear hk h
  by_cases h1 : 300 < rs.length
  · have HF := Lib.hid (show largeL rs = true by simp [largeL, h1])
    go_enter Try.func37, Try.ntmps37
    go_wp2_with fail
    go_ret
    exact ⟨ret_bool HF.out.symm, rfl⟩
  · have HF := Lib.hid (show largeL rs = rs.any wideR by simp [largeL, h1])
    go_enter Try.func37, Try.ntmps37
    go_wp2_with fail
    go_loop [3] (fun i => ∃ j : Nat, j ≤ rs.length ∧ i = .int .i64 j ∧ Hid ((rs.take j).any wideR = false)) (fun i => rs.length - (intOf i).toNat)
    case atStart => exact ⟨0, Nat.zero_le _, rfl, Lib.hid (by simp)⟩
    case round =>
      obtain ⟨j, hj, rfl, HN⟩ := hrel
      by_cases hlt : j < rs.length
      · obtain ⟨b, off, rfl, A', c', c0, _⟩ := HR.out.cellAt hlt
        have hz := HK.out rs[j] (List.getElem_mem hlt)
        have HS := Lib.hid (anyl_take_succ wideR rs j hlt)
        have HM := Lib.hid (show wideR rs[j] = true → rs.any wideR = true from fun hh => List.any_eq_true.2 ⟨_, List.getElem_mem hlt, hh⟩)
        generalize rs[j] = v at c0 hz HS HM
        go_wp2_with fail
        · have hg : (100 : Int) < v.length := by assumption
          go_ret
          exact ⟨ret_bool (by rw [HF.out, HM.out (by simp [wideR]; omega)]), rfl⟩
        · have hg : (v.length : Int) ≤ 100 := by assumption
          go_round
          case rel => exact ⟨j + 1, by omega, by go_num, Lib.hid (by rw [HS.out, HN.out]; simp [wideR]; omega)⟩
          case measure => simp [intOf]; omega
      · go_wp2_with fail
        go_ret
        exact ⟨ret_bool (by rw [HF.out, ← HN.out, List.take_of_length_le (by omega)]), rfl⟩

theorem PartsAt.rows {w : World} {B g : Nat} {vs : List Value} {P : List (List (List Va))} (h : PartsAt w B g vs P) {i : Nat} (hi : i < P.length) :
    ∃ A c, w.cell? ⟨g, i, none⟩ = some (.slice A P[i].length c) ∧ RowsAt w A P[i] := by
  obtain ⟨v, hv, hl⟩ := h.lists hi
  have e : P.getD i [] = P[i] := by simp [List.getD, hi]
  rw [e] at hl
  obtain ⟨A, c, rfl, hr⟩ := hl.rows
  exact ⟨A, c, (h.cell i).trans hv, hr⟩

set_option maxRecDepth 100000 in
set_option maxHeartbeats 2000000 in
theorem sameP_self (g g' : Nat) (c c' N : Nat) (B B' : Nat) (vs vs' : List Value) (P : List (List (List Va))) (w : World) (h : PartsAt w B g vs P) (h' : PartsAt w B' g' vs' P) (hN : P.length = N) (hn : N ≤ 65536) (hk : ∀ p ∈ P, p.length ≤ 9223372036854775807 ∧ ∀ r ∈ p, r.length ≤ 9223372036854775807) :
    Calls Try.prog 40 #[.slice (some ⟨g, 0, none⟩) N c, .slice (some ⟨g', 0, none⟩) N c'] w fun e w' => e = .returned (.bool true) ∧ Below w.heap.size w w' := by
  have HR := Lib.hid h
  have HR' := Lib.hid h'
  have HK := Lib.hid hk
  have HN := Lib.hid hN
  clear h h' hk hN
  go_enter Try.func40, Try.ntmps40
  go_wp2_with fail
  go_loopw [5] (fun i wr => ∃ j : Nat, j ≤ N ∧ i = .int .i64 j ∧ Hid (Below w.heap.size w wr)) (fun i _ => N - (intOf i).toNat)
  case atStart => exact ⟨0, Nat.zero_le _, rfl, Lib.hid (Below.refl _ _)⟩
  case round =>
    obtain ⟨j, hj, rfl, HB⟩ := hrel
    by_cases hlt : j < N
    · have hlt' : j < P.length := by rw [HN.out]; exact hlt
      obtain ⟨A, ca, c0, r0⟩ := (HR.out.kept HB.out).rows hlt'
      obtain ⟨A', ca', d0, s0⟩ := (HR'.out.kept HB.out).rows hlt'
      obtain ⟨hrl, hrr⟩ := HK.out P[j] (List.getElem_mem hlt')
      generalize P[j] = p at c0 r0 d0 s0 hrl hrr
      have HX := Lib.hid r0
      have HY := Lib.hid s0
      have HRR := Lib.hid hrr
      clear r0 s0 hrr hlt'
      have hi0 : (0 : Int) ≤ (j : Int) := Int.natCast_nonneg _
      have hi1 : (j : Int) < (N : Int) := by omega
      have HZ := Lib.hid (fun (W : World) (hW : Below wr.heap.size wr W) => (sameList_self A A' ca ca' p W (HX.out.kept hW) (HY.out.kept hW) hrl HRR.out).mono (fun e w' (hq : _ ∧ _) => (show e = .returned (.bool true) ∧ Below wr.heap.size wr w' from ⟨hq.1, bt hW hq.2⟩)))
      have hB1 := Below.drew (Below.refl wr.heap.size wr)
      go_wp2_with fail
      go_region_held3 (fun w' => Below wr.heap.size wr w' ∧ w'.cell? ⟨g, j, none⟩ = some (.slice A p.length ca) ∧ w'.cell? ⟨g', j, none⟩ = some (.slice A' p.length ca'))
        (first
          | exact ⟨hB1, c0, d0⟩
          | exact ⟨hbx, cell_kept hbx c0, cell_kept hbx d0⟩)
        (first
          | (go_at_call 28; refine (HZ.out _ (by exact hB1)).mono ?_; rintro e w' ⟨rfl, hbx⟩))
      rename_i hold
      have HB2 := Lib.hid (bt HB.out hold.1)
      clear hold
      go_wp2_with fail
      go_roundw
      case rel => exact ⟨j + 1, by omega, by go_num, HB2⟩
      case measure => simp [intOf]; omega
    · go_wp2_with fail
      go_ret
      exact ⟨rfl, HB.out⟩
set_option maxHeartbeats 1000000 in
theorem sameP_nil (w : World) :
    Calls Try.prog 40 #[.slice none 0 0, .slice none 0 0] w fun e w' => e = .returned (.bool true) ∧ w = w' := by
  go_enter Try.func40, Try.ntmps40
  go_wp2_with fail
  go_loop [5] (fun i => i = .int .i64 0) (fun _ => 0)
  case atStart => exact rfl
  case round =>
    subst hrel
    go_wp2_with fail
    go_ret
    exact ⟨rfl, rfl⟩

/-- What a part holds are rows of the list. -/
theorem split_mem (s l fan : Int) (cols : List Int) : ∀ (rs : List (List Va)) (P : List (List (List Va))) (p : List (List Va)), p ∈ rs.foldl (addH s l fan cols) P → ∀ r ∈ p, r ∈ rs ∨ ∃ q ∈ P, r ∈ q
  | [], P, p, hp, r, hr => .inr ⟨p, hp, hr⟩
  | a :: rs, P, p, hp, r, hr => by
    rw [List.foldl_cons] at hp
    rcases split_mem s l fan cols rs _ p hp r hr with h | ⟨q, hq, hrq⟩
    · exact .inl (by simp [h])
    · unfold addH at hq
      rcases List.mem_or_eq_of_mem_set hq with hq | rfl
      · exact .inr ⟨q, hq, hrq⟩
      · rcases List.mem_append.1 hrq with hrq | hrq
        · by_cases hi : (partH s l fan (keyH cols a)).toNat < P.length
          · rw [List.getD, List.getElem?_eq_getElem hi] at hrq
            exact .inr ⟨_, List.getElem_mem hi, hrq⟩
          · rw [List.getD, List.getElem?_eq_none (by omega)] at hrq
            cases hrq
        · simp at hrq; exact .inl (by simp [hrq])
theorem split_sizes (s l : Int) (N : Nat) (cols : List Int) (rs : List (List Va)) (hn : rs.length ≤ 300) (hr : ∀ r ∈ rs, r.length ≤ 100) : ∀ p ∈ splitH s l N cols rs, p.length ≤ 9223372036854775807 ∧ ∀ r ∈ p, r.length ≤ 9223372036854775807 := by
  intro p hp
  unfold splitH at hp
  rw [Int.toNat_natCast] at hp
  constructor
  · have := fold_le s l N cols rs N rs.length (Nat.le_refl _) p (by rw [List.take_length]; exact hp)
    omega
  · intro r hrp
    rcases split_mem s l N cols rs _ p hp r hrp with h | ⟨q, hq, hrq⟩
    · have := hr r h; omega
    · simp at hq; rw [hq.2] at hrq; cases hrq

set_option maxRecDepth 100000 in
set_option maxHeartbeats 4000000 in
theorem splits_large (A C : Option Addr) (c cc : Nat) (s l fan : Int) (rs : List (List Va)) (cols : List Int) (w : World) (h : RowsAt w A rs) (hk : ∀ r ∈ rs, r.length ≤ 9223372036854775807) (hn : rs.length ≤ 9223372036854775807) (_hlc : cols.length ≤ 9223372036854775807) (hbig : largeL rs = true ∨ (100 : Int) < cols.length) :
    Calls Try.prog 8 #[.int .u64 s, .int .i64 l, .int .i64 fan, .slice A rs.length c, .slice C cols.length cc] w fun e w' => e = .returned (.bool true) ∧ Below w.heap.size w w' := by
  have HG := Lib.hid hbig
  have HK := Lib.hid hk
  clear hbig hk
  go_enter Try.func8, Try.ntmps8
  go_wp2_with fail
  refine (largeH_any A c rs w h HK.out hn).mono ?_
  rintro e w1 ⟨rfl, rfl⟩
  cases hla : largeL rs
  · have hc1 : (100 : Int) < cols.length := by
      rcases HG.out with hx | hx
      · rw [hla] at hx; cases hx
      · exact hx
    go_wp2_with fail
    refine (livesH_yes _).mono ?_
    rintro e w3 ⟨rfl, hb3⟩
    go_wp2_with fail
    go_ret
    exact ⟨rfl, hb3⟩
  · go_wp2_with fail
    refine (livesH_yes _).mono ?_
    rintro e w3 ⟨rfl, hb3⟩
    go_wp2_with fail
    go_ret
    exact ⟨rfl, hb3⟩

set_option maxRecDepth 100000 in
set_option maxHeartbeats 4000000 in
theorem splits_may (A C : Option Addr) (c cc : Nat) (s l fan : Int) (rs : List (List Va)) (cols : List Int) (w : World) (h : RowsAt w A rs) (hk : ∀ r ∈ rs, r.length ≤ 9223372036854775807) (hn : rs.length ≤ 9223372036854775807) (hla : largeL rs = false) (hc1 : ¬ (100 : Int) < cols.length) (hm : mayH l fan = false) :
    Calls Try.prog 8 #[.int .u64 s, .int .i64 l, .int .i64 fan, .slice A rs.length c, .slice C cols.length cc] w fun e w' => e = .returned (.bool true) ∧ Below w.heap.size w w' := by
  have HM := Lib.hid hm
  have HK := Lib.hid hk
  have HL := Lib.hid hla
  clear hm hk hla
  go_enter Try.func8, Try.ntmps8
  go_wp2_with fail
  refine (largeH_any A c rs w h HK.out hn).mono ?_
  rw [HL.out]
  rintro e w1 ⟨rfl, rfl⟩
  go_wp2_with fail
  refine (split_may A C rs.length c cols.length cc s l fan _ HM.out).mono ?_
  rintro e w1 ⟨rfl, rfl⟩
  go_wp2_with fail
  refine (refSplit_may A C rs.length c cols.length cc s l fan _ HM.out).mono ?_
  rintro e w1 ⟨rfl, rfl⟩
  go_wp2_with fail
  refine (livesH_yes _).mono ?_
  rintro e w3 ⟨rfl, hb3⟩
  go_wp2_with fail
  refine (sameP_nil _).mono ?_
  rintro e w4 ⟨rfl, rfl⟩
  go_wp2_with fail
  go_ret
  exact ⟨by simp, hb3⟩

set_option maxRecDepth 100000 in
set_option maxHeartbeats 4000000 in
theorem splits_do (A C : Option Addr) (c cc : Nat) (s l fan : Int) (rs : List (List Va)) (cols : List Int) (w : World) (h : RowsAt w A rs) (hC : IntsAt w C cols) (hf : ∀ r ∈ rs, Fine r) (hla : largeL rs = false) (hc1 : ¬ (100 : Int) < cols.length) (hm : mayH l fan = true) :
    Calls Try.prog 8 #[.int .u64 s, .int .i64 l, .int .i64 fan, .slice A rs.length c, .slice C cols.length cc] w fun e w' => e = .returned (.bool true) ∧ Below w.heap.size w w' := by
  obtain ⟨hn, hr⟩ := largeL_no hla
  obtain ⟨l0, l8, f1, f64⟩ := mayH_parts hm
  obtain ⟨N, rfl⟩ := Int.eq_ofNat_of_zero_le (by omega : 0 ≤ fan)
  have HM := Lib.hid hm
  have HK := Lib.hid (show ∀ r ∈ rs, r.length ≤ 9223372036854775807 from fun r h' => by have := hr r h'; omega)
  have HK2 := Lib.hid (show ∀ r ∈ rs, r.length ≤ 65536 from fun r h' => by have := hr r h'; omega)
  have HZ := Lib.hid (split_sizes s l N cols rs hn hr)
  have HLN := Lib.hid (show (splitH s l N cols rs).length = N by unfold splitH; rw [splitH_len]; simp)
  have HL := Lib.hid hla
  have HF := Lib.hid hf
  have HR := Lib.hid h
  have HC := Lib.hid hC
  clear hm hr hla hf h hC
  go_enter Try.func8, Try.ntmps8
  go_wp2_with fail
  refine (largeH_any A c rs w HR.out HK.out (by omega)).mono ?_
  rw [HL.out]
  rintro e w1 ⟨rfl, rfl⟩
  go_wp2_with fail
  refine (split_any A C c cc s l N rs cols w HM.out HR.out HC.out (by omega) HK2.out HF.out (by omega)).mono ?_
  rintro e w1 ⟨hb1, hx⟩
  have HB := Lib.hid hb1
  have HX := Lib.hid hx
  clear hb1 hx
  rcases HX.out with ⟨h0, rfl⟩ | ⟨h0, g, vs, rfl, hP⟩
  · have HE := Lib.hid h0
    clear h0 HX
    go_wp2_with fail
    refine (refSplit_any A C c cc s l N rs cols w1 HM.out (HR.out.kept HB.out) (HC.out.kept HB.out) (by omega) HK2.out HF.out (by omega)).mono ?_
    rintro e w2 ⟨hb2, hy⟩
    have HB := Lib.hid (bt HB.out hb2)
    have HY := Lib.hid hy
    clear hb2 hy
    rcases HY.out with ⟨_, rfl⟩ | ⟨h1, _⟩
    · clear HY
      generalize firstE cols rs = e0
      go_wp2_with fail
      refine (livesH_yes _).mono ?_
      rintro e w3 ⟨rfl, hb3⟩
      have HB := Lib.hid (bt HB.out hb3)
      clear hb3
      go_wp2_with fail
      refine (sameP_nil _).mono ?_
      rintro e w4 ⟨rfl, rfl⟩
      go_wp2_with fail
      go_ret
      exact ⟨by simp, HB.out⟩
    · exact absurd h1 HE.out
  · have HE := Lib.hid h0
    have HP := Lib.hid hP
    clear h0 HX hP
    rw [Int.toNat_natCast]
    go_wp2_with fail
    refine (refSplit_any A C c cc s l N rs cols w1 HM.out (HR.out.kept HB.out) (HC.out.kept HB.out) (by omega) HK2.out HF.out (by omega)).mono ?_
    rintro e w2 ⟨hb2, hy⟩
    have HP := Lib.hid (HP.out.kept hb2)
    have HB := Lib.hid (bt HB.out hb2)
    have HY := Lib.hid hy
    clear hb2 hy
    rcases HY.out with ⟨h1, _⟩ | ⟨_, g', vs', rfl, hP'⟩
    · exact absurd HE.out h1
    · have HP' := Lib.hid hP'
      clear HY hP'
      rw [Int.toNat_natCast]
      go_wp2_with fail
      refine (livesH_yes _).mono ?_
      rintro e w3 ⟨rfl, hb3⟩
      have HP := Lib.hid (HP.out.kept hb3)
      have HP' := Lib.hid (HP'.out.kept hb3)
      have HB := Lib.hid (bt HB.out hb3)
      clear hb3
      go_wp2_with fail
      refine (sameP_self g g' N N N _ _ vs vs' _ _ HP.out HP'.out HLN.out (by omega) HZ.out).mono ?_
      rintro e w4 ⟨rfl, hb4⟩
      have HB := Lib.hid (bt HB.out hb4)
      clear hb4
      go_wp2_with fail
      go_ret
      exact ⟨by simp, HB.out⟩

theorem hashSplits_walk (A C : Option Addr) (c cc : Nat) (s l fan : Int) (rs : List (List Va)) (cols : List Int) (w : World) (h : RowsAt w A rs) (hC : IntsAt w C cols) (hf : ∀ r ∈ rs, Fine r) (hk : ∀ r ∈ rs, r.length ≤ 9223372036854775807) (hn : rs.length ≤ 9223372036854775807) (hlc : cols.length ≤ 9223372036854775807) :
    Calls Try.prog 8 #[.int .u64 s, .int .i64 l, .int .i64 fan, .slice A rs.length c, .slice C cols.length cc] w fun e w' => e = .returned (.bool true) ∧ Below w.heap.size w w' := by
  cases hla : largeL rs
  · by_cases hc1 : (100 : Int) < cols.length
    · exact splits_large A C c cc s l fan rs cols w h hk hn hlc (.inr hc1)
    · cases hm : mayH l fan
      · exact splits_may A C c cc s l fan rs cols w h hk hn hla hc1 hm
      · exact splits_do A C c cc s l fan rs cols w h hC hf hla hc1 hm
  · exact splits_large A C c cc s l fan rs cols w h hk hn hlc (.inl hla)
end Go.Proofs.Ytlobgdfmgbedgaa
