/-
  The walk of LedgerNests.
-/
import Derived.Test.YtdjhoiamongdaaaLdk
import Derived.Deep.CutRange
namespace Go.Proofs.Ytdjhoiamongdaaa
open Go.RowKit Go.Maps Go.Sort

set_option maxRecDepth 100000 in
set_option maxHeartbeats 1000000 in
theorem ledgerNests_out (g : Int) (w : World) (h : g < 0 ∨ 200 < g) :
    Calls Try.prog 13 #[.int .i64 g] w fun e w' => e = .returned (.bool true) ∧ Below w.heap.size w w' := by
  rcases h with h | h
  all_goals
    go_enter Try.func13, Try.ntmps13
    go_wp2_with fail
    refine (lives6_yes _).mono ?_
    rintro e w1 ⟨rfl, hb⟩
    go_wp2_with fail
    go_ret
    exact ⟨rfl, hb⟩
theorem new_in (G : Nat) (hG : G ≤ 200) (w : World) :
    Calls Try.prog 48 #[.int .i64 (G : Int)] w fun e w' => (∃ l m bs, e = .returned (.tuple #[.pointer (some ⟨l, 0, none⟩), .int .i64 0]) ∧ Led w.heap.size w' l m (upL G bs 0 0) ((0 : Nat) : Int) ((0 : Nat) : Int)) ∧ Below w.heap.size w w' := by
  refine (new_any G w).mono ?_
  rintro e w' ⟨hb, h⟩
  rw [if_pos (by omega)] at h
  obtain ⟨l, m, b, he, hl⟩ := h
  refine ⟨⟨l, m, fun _ => b, he, ?_⟩, hb⟩
  have e1 : upL (G : Int) (fun _ => b) 0 0 = [⟨0, b, -1, G, 0, 0⟩] := by simp [upL]
  rw [e1]
  exact hl

set_option maxRecDepth 100000 in
set_option maxHeartbeats 4000000 in
theorem ledgerNests_in (G : Nat) (w : World) (hG : G ≤ 200) :
    Calls Try.prog 13 #[.int .i64 (G : Int)] w fun e w' => e = .returned (.bool true) ∧ Below w.heap.size w w' := by
  obtain ⟨g, hgG⟩ : ∃ g : Int, g = (G : Int) := ⟨_, rfl⟩
  have HN := Lib.hid (new_in G hG w)
  rw [← hgG] at HN ⊢
  have HG := Lib.hid hgG
  have g0 : 0 ≤ g := by omega
  have g1 : g ≤ 200 := by omega
  clear hgG hG
  go_enter Try.func13, Try.ntmps13
  go_wp2_with fail
  refine HN.out.mono ?_
  rintro e w1 ⟨⟨l, m, bs0, rfl, h1⟩, hb1⟩
  have HL1 := Lib.hid h1
  have HB1 := Lib.hid hb1
  clear h1 hb1
  go_wp2_with fail
  refine (lives6_yes w1).mono ?_
  rintro e w2 ⟨rfl, hb2⟩
  have HL2 := Lib.hid (HL1.out.kept hb2)
  have HB2 := Lib.hid (bt HB1.out hb2)
  clear hb2
  go_wp2_with fail
  go_loopw [5] (fun v wr => ∃ (i : Nat) (c : Int) (bs : Nat → Nat), v = .int .i64 c ∧ 1 ≤ c ∧ c ≤ g + 1 ∧ Hid (c = i + 1) ∧ Hid (Led w.heap.size wr l m (upL g bs i 0) i i) ∧ Hid (Below w.heap.size w wr)) (fun v _ => (g + 1 - intOf v).toNat)
  case atStart => exact ⟨0, 1, bs0, rfl, by omega, by omega, Lib.hid (by simp), HL2, HB2⟩
  case round =>
    obtain ⟨i, c, bs, rfl, c1, c2, HC, HL, HB⟩ := hrel
    clear HL1 HB1 HL2 HB2 HN
    rcases Int.lt_or_le g c with hcg | hcg
    · have hiG : i = G := by have := HC.out; have := HG.out; omega
      subst hiG
      clear c1 c2
      go_wp2_with fail
      refine (total_any l m _ _ _ _ HL.out.at_ HL.out.sane).mono ?_
      rintro e w3 ⟨rfl, hb3⟩
      have HL3 := Lib.hid (HL.out.kept hb3)
      have HB3 := Lib.hid (bt HB.out hb3)
      rw [upL_held, ← HG.out]
      clear hb3
      go_wp2_with fail
      refine (nest_close0 HL3.out).mono ?_
      rintro e w4 ⟨rfl, h4, hb4⟩
      have HL4 := Lib.hid h4
      have HB4 := Lib.hid (HB3.out.trans hb4)
      clear h4 hb4 hcg
      go_wp2_with fail
      go_loopw [8] (fun v wr => ∃ (j : Nat) (c : Int) (bs : Nat → Nat) (q : Int), v = .int .i64 c ∧ 0 ≤ c ∧ c ≤ g ∧ Hid (c = j) ∧ Hid (Led w.heap.size wr l m (upL g bs j q) i i) ∧ Hid (Below w.heap.size w wr)) (fun v _ => (intOf v).toNat)
      case atStart => exact ⟨i, g, bs, 0, rfl, by omega, by omega, HG, HL4, HB4⟩
      case round =>
        obtain ⟨j, c', bs', q, rfl, d1, d2, HJ, HL, HB⟩ := hrel
        clear HL3 HB3 HL4 HB4
        rcases Int.lt_or_le 0 c' with hc0 | hc0
        · obtain ⟨k, hk⟩ : ∃ k : Nat, j = k + 1 := ⟨j - 1, by have := HJ.out; omega⟩
          subst hk
          have HK := Lib.hid (show c' = (k : Int) + 1 by have := HJ.out; omega)
          go_wp2_with fail
          refine (nest_close1 c' HK.out HL.out (by omega)).mono ?_
          rintro e w5 ⟨rfl, h5, hb5⟩
          have HL5 := Lib.hid h5
          have HB5 := Lib.hid (HB.out.trans hb5)
          clear h5 hb5
          go_wp2_with fail
          refine (nest_close2 c' HK.out HL5.out (by omega)).mono ?_
          rintro e w6 ⟨rfl, h6, hb6⟩
          have HL6 := Lib.hid h6
          have HB6 := Lib.hid (HB5.out.trans hb6)
          clear h6 hb6
          go_wp2_with fail
          refine (nest_give c' HK.out HL6.out (by omega)).mono ?_
          rintro e w7 ⟨rfl, h7, hb7⟩
          have HL7 := Lib.hid h7
          have HB7 := Lib.hid (HB6.out.trans hb7)
          clear h7 hb7
          go_wp2_with fail
          go_roundw
          case rel => exact ⟨k, c' - 1, bs', 1, rfl, by omega, by omega, Lib.hid (by have := HK.out; omega), HL7, HB7⟩
          case measure => simp [intOf]; omega
        · have hj0 : j = 0 := by have := HJ.out; omega
          subst hj0
          have HLf := Lib.hid (show leftOf (upL g bs' 0 q) 0 = g by have := upL_left_last g bs' 0 q; simpa using this)
          go_wp2_with fail
          refine (total_any l m _ _ _ _ HL.out.at_ HL.out.sane).mono ?_
          rintro e w5 ⟨rfl, hb5⟩
          have HL5 := Lib.hid (HL.out.kept hb5)
          have HB5 := Lib.hid (bt HB.out hb5)
          rw [upL_held]
          clear hb5
          go_wp2_with fail
          refine (left_any l m _ _ _ 0 _ HL5.out.at_ HL5.out.sane (by decide)).mono ?_
          rintro e w6 ⟨rfl, hb6⟩
          have HL6 := Lib.hid (HL5.out.kept hb6)
          have HB6 := Lib.hid (bt HB5.out hb6)
          rw [HLf.out]
          clear hb6
          go_wp2_with fail
          refine (most_any l m _ _ _ _ HL6.out.at_).mono ?_
          rintro e w7 ⟨rfl, rfl⟩
          rw [← HG.out]
          go_wp2_with fail
          go_ret
          exact ⟨rfl, HB6.out⟩
    · go_wp2_with fail
      refine (nest_open c HC.out HL.out hcg g1).mono ?_
      rintro e w3 ⟨rfl, ⟨b, h3⟩, hb3⟩
      have HL3 := Lib.hid h3
      have HB3 := Lib.hid (HB.out.trans hb3)
      clear h3 hb3
      go_wp2_with fail
      refine (nest_take2 c HC.out HL3.out (by omega)).mono ?_
      rintro e w4 ⟨rfl, h4, hb4⟩
      have HL4 := Lib.hid h4
      have HB4 := Lib.hid (HB3.out.trans hb4)
      clear h4 hb4
      go_wp2_with fail
      refine (nest_take1 c HC.out HL4.out (by omega)).mono ?_
      rintro e w5 ⟨rfl, ⟨bs', h5⟩, hb5⟩
      have HL5 := Lib.hid h5
      have HB5 := Lib.hid (HB4.out.trans hb5)
      clear h5 hb5
      go_wp2_with fail
      go_roundw
      case rel => exact ⟨i + 1, c + 1, bs', rfl, by omega, by omega, Lib.hid (by have := HC.out; omega), HL5, HB5⟩
      case measure => simp [intOf]; omega
theorem ledgerNests_walk (g : Int) (w : World) :
    Calls Try.prog 13 #[.int .i64 g] w fun e w' => e = .returned (.bool true) ∧ Below w.heap.size w w' := by
  by_cases h : g < 0 ∨ 200 < g
  · exact ledgerNests_out g w h
  · obtain ⟨G, rfl⟩ : ∃ G : Nat, g = G := ⟨g.toNat, by omega⟩
    exact ledgerNests_in G w (by omega)
end Go.Proofs.Ytdjhoiamongdaaa
