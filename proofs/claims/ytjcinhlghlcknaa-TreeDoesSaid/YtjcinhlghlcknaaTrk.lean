/-
  Package tree: alike.
-/
import Derived.Test.YtjcinhlghlcknaaTrj
namespace Go.Proofs.Ytjcinhlghlcknaa
open Go.RowKit

section
variable {O : Ord8} {B : Nat} {w w' : World} {t a b X : Nat} {L : List Lf} {M s : Nat} {c : Int}
theorem get_in (h : T8 O B w t a b L M s c) {i : Nat} (hi : i < L.length) :
    Calls Try.prog 22 #[.pointer (some ⟨t, 0, none⟩), .int .i64 i] w fun e w' => e = .returned (.tuple #[.agg #[.int .i64 (L.getD i noLf).k, .int .i64 (L.getD i noLf).t], .bool (L.getD i noLf).b]) ∧ Below w.heap.size w w' := by
  cases hb : (L.getD i noLf).b with
  | true => exact get_some h hi hb
  | false =>
    have := get_none h hi hb
    rw [h.z i hb]
    exact this
theorem leaves_q (h : T8 O B w t a b L M s c) : Calls Try.prog 24 #[.pointer (some ⟨t, 0, none⟩)] w fun e w' => e = .returned (.int .i64 L.length) ∧ w' = w := by
  have hn := h.n
  obtain ⟨W, hT, _⟩ := h.at'
  exact (leaves_any hT hn.2).mono fun _ _ hh => ⟨hh.1, hh.2.symm⟩
set_option maxRecDepth 100000 in
set_option maxHeartbeats 8000000 in
theorem alike_any (h : T8 plainO B w t a b L M s 0) (hx : XlAt w X L) {cp : Nat} (l : Int) :
    Calls Try.prog 13 #[.pointer (some ⟨t, 0, none⟩), .slice (some ⟨X, 0, none⟩) L.length cp, .int .i64 l] w fun e w' => e = .returned (.bool true) ∧ Below w.heap.size w w' := by
  have hn := h.n
  have HQ := Lib.hid h
  have HX := Lib.hid hx
  have HL1 := Lib.hid (fun (w : World) (hh : T8 plainO B w t a b L M s 0) => len_q plainO_ok hh)
  have HL2 := Lib.hid (fun (w : World) (hh : T8 plainO B w t a b L M s 0) => leaves_q hh)
  have HL3 := Lib.hid (fun (w : World) (hh : XlAt w X L) => rwin_any (c := cp) hh hn.2)
  have HL4 := Lib.hid (fun (w : World) (hh : T8 plainO B w t a b L M s 0) => win_any hh (wnr_is L))
  have hcl : ∀ i, cntT (L.take i) ≤ 64 := fun i => by
    have h1 := List.length_filter_le (·.b) (L.take i)
    have h2 := List.length_take_le i L
    have h3 : (L.take i).length ≤ L.length := by simp; omega
    unfold cntT; omega
  have HCl := Lib.hid hcl
  have HWr := Lib.hid (show wnr L = -1 ∧ wkT L (wnr L) = 0 ∧ wtT L (wnr L) = 0 ∨ ∃ k : Nat, wnr L = k ∧ k < L.length ∧ wkT L (wnr L) = (L.getD k noLf).k ∧ wtT L (wnr L) = (L.getD k noLf).t from by
    rcases winN_range L L.length with hw | ⟨k, hw, hk, _⟩
    · left; unfold wnr; rw [hw]; exact ⟨rfl, rfl, rfl⟩
    · right; unfold wnr; rw [hw]
      exact ⟨k, rfl, hk, by simp [wkT], by simp [wtT]⟩)
  obtain ⟨N, hN⟩ : ∃ N, N = L.length := ⟨_, rfl⟩
  rw [← hN] at hn HL2 HL3 ⊢
  have HN := Lib.hid hN
  clear h hx hcl hN
  go_enter Try.func13, Try.ntmps13
  go_wp2_with fail
  go_loop [7, 8] (fun cc ii => ∃ i : Nat, ii = .int .i64 i ∧ i ≤ N ∧ cc = .int .i64 (cntT (L.take i) : Nat)) (fun _ ii => N - (intOf ii).toNat)
  case atStart => exact ⟨0, rfl, Nat.zero_le _, by simp [cntT]⟩
  case round =>
    obtain ⟨i, rfl, hi, rfl⟩ := hrel
    have hci := HCl.out i
    by_cases hlt : i < N
    · have hil : i < L.length := by have := HN.out; omega
      obtain ⟨_, _, c2⟩ := HX.out.at hil
      have HS := Lib.hid (cnt_snoc hil)
      clear hil
      generalize (L.getD i noLf).b = bb at c2 HS
      generalize cntT (L.take i) = q at hci HS
      cases bb with
      | true =>
        go_wp2_with fail
        go_round
        case rel => exact ⟨i + 1, by go_num, hlt, by rw [HS.out]; go_num⟩
        case measure => simp [intOf]; omega
      | false =>
        go_wp2_with fail
        go_round
        case rel => exact ⟨i + 1, by go_num, hlt, by rw [HS.out]; rfl⟩
        case measure => simp [intOf]; omega
    · have HE := Lib.hid (show cntT (L.take i) = cntT L by rw [List.take_of_length_le (by have := HN.out; omega)])
      rw [HE.out] at hci ⊢
      clear HE HCl
      obtain ⟨nL, hnL⟩ : ∃ q, q = cntT L := ⟨_, rfl⟩
      rw [← hnL] at hci HL1 ⊢
      clear hnL
      rcases HWr.out with ⟨e1, e2, e3⟩ | ⟨k, e1, hk, e2, e3⟩
      · rw [e2, e3, e1] at HL4
        rw [e1] at HL3
        clear HWr e1 e2 e3
        go_wp2_with fail
        refine (HL3.out w HX.out).mono ?_
        rintro e w1 ⟨rfl, hb1⟩
        have HB1 := Lib.hid hb1
        have HX1 := Lib.hid (HX.out.kept hb1)
        have HQ1 := Lib.hid (HQ.out.kept plainO_ok hb1)
        clear hb1 HX HQ
        go_wp2_with fail
        refine (HL4.out w1 HQ1.out).mono ?_
        rintro e w2 ⟨rfl, hb2⟩
        have hb3 := bt hb2 (ba w2 (.cells #[.int .i64 0, .int .i64 0] 28))
        have HB3 := Lib.hid (bt HB1.out hb3)
        have HX3 := Lib.hid (HX1.out.kept hb3)
        have HQ3 := Lib.hid (HQ1.out.kept plainO_ok hb3)
        have HY3 := Lib.hid (MapKept.heap_alloc w2 (.cells #[.int .i64 0, .int .i64 0] 28)).1
        clear hb2 hb3 HB1 HX1 HQ1
        go_upto_region 9 with fail
        generalize w2.alloc (.cells #[.int .i64 0, .int .i64 0] 28) = w3 at HB3 HX3 HQ3 HY3 ⊢
        generalize w2.heap.size = Y at HY3 ⊢
        have y0 : w3.cell? ⟨Y, 0, none⟩ = some (.int .i64 0) := by simp only [World.cell?, HY3.out]; rfl
        have y1 : w3.cell? ⟨Y, 1, none⟩ = some (.int .i64 0) := by simp only [World.cell?, HY3.out]; rfl
        go_quiet ((first | (go_at_call 23; exact Calls.quiet_of (HL1.out _ (HQ3.out.kept plainO_ok (drNT _ _)))) | (go_at_call 24; exact Calls.quiet_of_same (HL2.out _ (HQ3.out.kept plainO_ok (drNT _ _))))))
        go_wp2_with fail
        have HB4 := Lib.hid (bt HB3.out (drNT w3 nq))
        have HX4 := Lib.hid (HX3.out.kept (drNT w3 nq))
        have HQ4 := Lib.hid (HQ3.out.kept plainO_ok (drNT w3 nq))
        clear HB3 HX3 HQ3 HY3 y0 y1
        generalize w3.drewN nq = w4 at HB4 HX4 HQ4 ⊢
        by_cases hlo : l < 0 ∨ (N : Int) ≤ l
        · have HG := Lib.hid (get_out HQ4.out (i := l) (by rw [← HN.out]; exact hlo))
          rcases hlo with hlo | hlo
          all_goals
            refine HG.out.mono ?_
            rintro e w5 ⟨rfl, hb5⟩
            have HB5 := Lib.hid (bt HB4.out (bt hb5 (ba w5 (.cells #[.int .i64 0, .int .i64 0] 28))))
            clear hb5
            go_wp2_with fail
            go_ret
            exact ⟨rfl, HB5.out⟩
        · obtain ⟨j, rfl⟩ : ∃ j : Nat, l = j := ⟨_, (Int.toNat_of_nonneg (by omega)).symm⟩
          have hjN : j < N := by omega
          have hjI : (j : Int) < (N : Int) := by omega
          have hj2 : ¬ (N : Int) ≤ (j : Int) := by omega
          have hj3 : ¬ (j : Int) < 0 := by omega
          have HG := Lib.hid (get_in HQ4.out (i := j) (by have := HN.out; omega))
          have HK := Lib.hid (fun (w : World) (hh : XlAt w X L) => hh.at (i := j) (by have := HN.out; omega))
          generalize (L.getD j noLf).k = kj at HG HK
          generalize (L.getD j noLf).t = tj at HG HK
          generalize (L.getD j noLf).b = bj at HG HK
          clear hlo
          refine HG.out.mono ?_
          rintro e w5 ⟨rfl, hb5⟩
          have hb6 := bt hb5 (ba w5 (.cells #[.int .i64 kj, .int .i64 tj] 28))
          have HB6 := Lib.hid (bt HB4.out hb6)
          have HX6 := Lib.hid (HX4.out.kept hb6)
          have HY6 := Lib.hid (MapKept.heap_alloc w5 (.cells #[.int .i64 kj, .int .i64 tj] 28)).1
          clear hb5 hb6 HB4 HX4 HQ4
          go_upto_region 12 with fail
          generalize w5.alloc (.cells #[.int .i64 kj, .int .i64 tj] 28) = w6 at HB6 HX6 HY6 ⊢
          generalize w5.heap.size = Z at HY6 ⊢
          have z0 : w6.cell? ⟨Z, 0, none⟩ = some (.int .i64 kj) := by simp only [World.cell?, HY6.out]; rfl
          have z1 : w6.cell? ⟨Z, 1, none⟩ = some (.int .i64 tj) := by simp only [World.cell?, HY6.out]; rfl
          obtain ⟨u0, u1, u2⟩ := HK.out w6 HX6.out
          go_wp2_with fail
          go_quiet (fail)
          go_wp2_with fail
          go_ret
          exact ⟨by simp, bt HB6.out (drNT _ _)⟩
      · rw [e2, e3, e1] at HL4
        rw [e1] at HL3
        clear HWr e1 e2 e3
        have HK := Lib.hid (fun (w : World) (hh : XlAt w X L) => hh.at hk)
        have hkN : k < N := by have := HN.out; omega
        have hkI : (k : Int) < (N : Int) := by omega
        generalize (L.getD k noLf).k = kk at HL4 HK
        generalize (L.getD k noLf).t = tt at HL4 HK
        clear hk
        go_wp2_with fail
        refine (HL3.out w HX.out).mono ?_
        rintro e w1 ⟨rfl, hb1⟩
        have HB1 := Lib.hid hb1
        have HX1 := Lib.hid (HX.out.kept hb1)
        have HQ1 := Lib.hid (HQ.out.kept plainO_ok hb1)
        clear hb1 HX HQ
        go_wp2_with fail
        refine (HL4.out w1 HQ1.out).mono ?_
        rintro e w2 ⟨rfl, hb2⟩
        have hb3 := bt hb2 (ba w2 (.cells #[.int .i64 kk, .int .i64 tt] 28))
        have HB3 := Lib.hid (bt HB1.out hb3)
        have HX3 := Lib.hid (HX1.out.kept hb3)
        have HQ3 := Lib.hid (HQ1.out.kept plainO_ok hb3)
        have HY3 := Lib.hid (MapKept.heap_alloc w2 (.cells #[.int .i64 kk, .int .i64 tt] 28)).1
        clear hb2 hb3 HB1 HX1 HQ1
        go_upto_region 9 with fail
        generalize w2.alloc (.cells #[.int .i64 kk, .int .i64 tt] 28) = w3 at HB3 HX3 HQ3 HY3 ⊢
        generalize w2.heap.size = Y at HY3 ⊢
        have y0 : w3.cell? ⟨Y, 0, none⟩ = some (.int .i64 kk) := by simp only [World.cell?, HY3.out]; rfl
        have y1 : w3.cell? ⟨Y, 1, none⟩ = some (.int .i64 tt) := by simp only [World.cell?, HY3.out]; rfl
        obtain ⟨x0, x1, _⟩ := HK.out w3 HX3.out
        go_quiet ((first | (go_at_call 23; exact Calls.quiet_of (HL1.out _ (HQ3.out.kept plainO_ok (drNT _ _)))) | (go_at_call 24; exact Calls.quiet_of_same (HL2.out _ (HQ3.out.kept plainO_ok (drNT _ _))))))
        go_wp2_with fail
        have HB4 := Lib.hid (bt HB3.out (drNT w3 nq))
        have HX4 := Lib.hid (HX3.out.kept (drNT w3 nq))
        have HQ4 := Lib.hid (HQ3.out.kept plainO_ok (drNT w3 nq))
        clear HB3 HX3 HQ3 HY3 y0 y1 x0 x1
        generalize w3.drewN nq = w4 at HB4 HX4 HQ4 ⊢
        by_cases hlo : l < 0 ∨ (N : Int) ≤ l
        · have HG := Lib.hid (get_out HQ4.out (i := l) (by rw [← HN.out]; exact hlo))
          rcases hlo with hlo | hlo
          all_goals
            refine HG.out.mono ?_
            rintro e w5 ⟨rfl, hb5⟩
            have HB5 := Lib.hid (bt HB4.out (bt hb5 (ba w5 (.cells #[.int .i64 0, .int .i64 0] 28))))
            clear hb5
            go_wp2_with fail
            go_ret
            exact ⟨rfl, HB5.out⟩
        · obtain ⟨j, rfl⟩ : ∃ j : Nat, l = j := ⟨_, (Int.toNat_of_nonneg (by omega)).symm⟩
          have hjN : j < N := by omega
          have hjI : (j : Int) < (N : Int) := by omega
          have hj2 : ¬ (N : Int) ≤ (j : Int) := by omega
          have hj3 : ¬ (j : Int) < 0 := by omega
          have HG := Lib.hid (get_in HQ4.out (i := j) (by have := HN.out; omega))
          have HK := Lib.hid (fun (w : World) (hh : XlAt w X L) => hh.at (i := j) (by have := HN.out; omega))
          generalize (L.getD j noLf).k = kj at HG HK
          generalize (L.getD j noLf).t = tj at HG HK
          generalize (L.getD j noLf).b = bj at HG HK
          clear hlo
          refine HG.out.mono ?_
          rintro e w5 ⟨rfl, hb5⟩
          have hb6 := bt hb5 (ba w5 (.cells #[.int .i64 kj, .int .i64 tj] 28))
          have HB6 := Lib.hid (bt HB4.out hb6)
          have HX6 := Lib.hid (HX4.out.kept hb6)
          have HY6 := Lib.hid (MapKept.heap_alloc w5 (.cells #[.int .i64 kj, .int .i64 tj] 28)).1
          clear hb5 hb6 HB4 HX4 HQ4
          go_upto_region 12 with fail
          generalize w5.alloc (.cells #[.int .i64 kj, .int .i64 tj] 28) = w6 at HB6 HX6 HY6 ⊢
          generalize w5.heap.size = Z at HY6 ⊢
          have z0 : w6.cell? ⟨Z, 0, none⟩ = some (.int .i64 kj) := by simp only [World.cell?, HY6.out]; rfl
          have z1 : w6.cell? ⟨Z, 1, none⟩ = some (.int .i64 tj) := by simp only [World.cell?, HY6.out]; rfl
          obtain ⟨u0, u1, u2⟩ := HK.out w6 HX6.out
          go_wp2_with fail
          go_quiet (fail)
          go_wp2_with fail
          go_ret
          exact ⟨by simp, bt HB6.out (drNT _ _)⟩
end
end Go.Proofs.Ytjcinhlghlcknaa
