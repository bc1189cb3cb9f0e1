/-
  QueueDoes: each call of the document's own queue, beside all else; its Move, its New.
-/
import Derived.Test.YthimgldohhaimaaQv3
namespace Go.Proofs.Ythimgldohhaimaa
open Go.RowKit Go.Conc

section
variable {B : Nat} {w : World} {i : Ids} {s : St}
theorem ds_rput (h : DS B w i s) (z : Int) :
    Calls Try.prog 52 #[.pointer (some ⟨i.x, 0, none⟩), .int .i64 z] w fun e w' => e = .returned (.bool (canPut s.cr i.n s.xr)) ∧ DS B w' i { s with xr := if canPut s.cr i.n s.xr then s.xr ++ [z] else s.xr } ∧ Qg B w w' := by
  have hs := h
  obtain ⟨vx, vy, h⟩ := h
  cases hc : canPut s.cr i.n s.xr with
  | false =>
    refine (rput_no h.ra z hc).mono ?_
    rintro e w' ⟨rfl, hb⟩
    refine ⟨rfl, ?_, Qg.of_below hs.lt hb⟩
    rw [if_neg (by simp)]
    exact hs.kept hb
  | true =>
    have hcr : s.cr = false ∧ s.xr.length < i.n := by simpa [canPut] using hc
    have hra := h.ra
    rw [hcr.1] at hra
    refine (rput_yes hra z hcr.2).mono ?_
    rintro e w' ⟨rfl, v', hr, hst⟩
    have := h.rstep hr hst.below hst.block hst.own
    refine ⟨rfl, ⟨v', vy, ?_⟩, this.2⟩
    rw [if_pos rfl]
    have h2 := this.1
    rw [← hcr.1] at h2
    exact h2
theorem ds_rtake (h : DS B w i s) :
    Calls Try.prog 53 #[.pointer (some ⟨i.x, 0, none⟩)] w fun e w' => e = .returned (.tuple #[.int .i64 (hdI s.xr), .bool (decide (0 < s.xr.length))]) ∧ DS B w' i { s with xr := s.xr.tail } ∧ Qg B w w' := by
  have hs := h
  obtain ⟨vx, vy, h⟩ := h
  have hra := h.ra
  cases hx : s.xr with
  | nil =>
    rw [hx] at hra
    refine (rtake_none hra).mono ?_
    rintro e w' ⟨rfl, rfl⟩
    refine ⟨rfl, ?_, Qg.refl _ _⟩
    rw [show ([] : List Int).tail = s.xr by rw [hx]; rfl]
    exact hs
  | cons a t =>
    rw [hx] at hra
    refine (rtake_some a hra).mono ?_
    rintro e w' ⟨rfl, v', hr, hst⟩
    have := h.rstep hr hst.below hst.block hst.own
    exact ⟨by simp [hdI], ⟨v', vy, this.1⟩, this.2⟩
theorem ds_rroom (h : DS B w i s) :
    Calls Try.prog 55 #[.pointer (some ⟨i.x, 0, none⟩)] w fun e w' => e = .returned (.int .i64 (roomZ s.cr i.n s.xr)) ∧ Below w.heap.size w w' := by
  obtain ⟨vx, vy, h⟩ := h
  exact rroom_any h.ra
theorem ds_yput (h : DS B w i s) (z : Int) :
    Calls Try.prog 52 #[.pointer (some ⟨i.y, 0, none⟩), .int .i64 z] w fun e w' => e = .returned (.bool (canPut s.dr i.m s.yr)) ∧ DS B w' i { s with yr := if canPut s.dr i.m s.yr then s.yr ++ [z] else s.yr } ∧ Qg B w w' := by
  refine (ds_rput h.swap z).mono ?_
  rintro e w' ⟨he, hs, hq⟩
  exact ⟨he, hs.unswap, hq⟩
theorem ds_yroom (h : DS B w i s) :
    Calls Try.prog 55 #[.pointer (some ⟨i.y, 0, none⟩)] w fun e w' => e = .returned (.int .i64 (roomZ s.dr i.m s.yr)) ∧ Below w.heap.size w w' := ds_rroom h.swap
theorem DS.caps (h : DS B w i s) : s.xr.length ≤ i.n ∧ i.n ≤ 1024 ∧ s.yr.length ≤ i.m ∧ i.m ≤ 1024 := by
  obtain ⟨vx, vy, h⟩ := h
  exact ⟨h.ra.room.1, h.ra.room.2, h.rb.room.1, h.rb.room.2⟩
set_option maxRecDepth 100000 in
set_option maxHeartbeats 4000000 in
theorem ds_rmove (h : DS B w i s) (most : Int) :
    Calls Try.prog 54 #[.pointer (some ⟨i.x, 0, none⟩), .pointer (some ⟨i.y, 0, none⟩), .int .i64 most] w fun e w' => e = .returned (.int .i64 (moveN s.xr s.yr i.m s.dr most)) ∧ DS B w' i { s with xr := s.xr.drop (moveN s.xr s.yr i.m s.dr most), yr := s.yr ++ s.xr.take (moveN s.xr s.yr i.m s.dr most) } ∧ Qg B w w' := by
  obtain ⟨i1, i2, i3, i4, x, y, n, m⟩ := i
  obtain ⟨xq, cq, xr, cr, yq, dq, yr, dr⟩ := s
  have hcap := h.caps
  simp only at hcap ⊢
  have hx1 : xr.length ≤ 1024 := by omega
  have hy1 : yr.length ≤ m := hcap.2.2.1
  have hm1 : m ≤ 1024 := hcap.2.2.2
  have HS0 := Lib.hid (show DS B w ⟨i1, i2, i3, i4, x, y, n, m⟩ ⟨xq, cq, xr.drop 0, cr, yq, dq, yr ++ xr.take 0, dr⟩ by simpa using h)
  have HQ0 := Lib.hid (Qg.refl B w)
  clear hcap h
  go_enter Try.func54, Try.ntmps54
  go_wp2_with fail
  go_loopw [7] (fun v wr => ∃ j : Nat, v = .int .i64 j ∧ j ≤ xr.length ∧ Hid (j ≤ most.toNat) ∧ Hid (j ≤ (if dr then 0 else m - yr.length)) ∧ Hid (DS B wr ⟨i1, i2, i3, i4, x, y, n, m⟩ ⟨xq, cq, xr.drop j, cr, yq, dq, yr ++ xr.take j, dr⟩) ∧ Hid (Qg B w wr)) (fun v _ => xr.length - (intOf v).toNat)
  case atStart => exact ⟨0, rfl, Nat.zero_le _, Lib.hid (Nat.zero_le _), Lib.hid (Nat.zero_le _), HS0, HQ0⟩
  case round =>
    obtain ⟨j, rfl, hj, HM, HR, HS, HQ⟩ := hrel
    clear HS0 HQ0
    obtain ⟨vx, vy, hsv⟩ := HS.out
    obtain ⟨A, c, rfl⟩ := hsv.ra.slice
    have c0 := hsv.ra.c0
    simp only at c0
    obtain ⟨N, hN⟩ : ∃ N, N = (xr.drop j).length := ⟨_, rfl⟩
    rw [← hN] at c0
    have hN2 : N = xr.length - j := by rw [hN]; simp
    have HN := Lib.hid hN2
    clear hsv hN hN2
    by_cases hm : (j : Int) < most
    · by_cases hjx : j < xr.length
      · have hNp : (0 : Int) < (N : Int) := by have := HN.out; omega
        go_wp2_with fail
        refine (ds_yroom HS.out).mono ?_
        rintro e w1 ⟨rfl, hb1⟩
        simp only
        have HS2 := Lib.hid (HS.out.kept hb1)
        have HQ2 := Lib.hid (HQ.out.trans (Qg.of_below HS.out.lt hb1))
        obtain ⟨rm, hrm⟩ : ∃ rm, rm = roomZ dr m (yr ++ xr.take j) := ⟨_, rfl⟩
        rw [← hrm]
        have HRM := Lib.hid hrm
        clear hrm hb1 HS HQ c0
        by_cases h0 : 0 < rm
        · have hopen : dr = false ∧ yr.length + j < m := by
            have h1 := HRM.out
            unfold roomZ at h1
            cases dr with
            | true => simp at h1; omega
            | false => simp at h1; exact ⟨rfl, by omega⟩
          obtain ⟨rfl, hroom⟩ := hopen
          go_wp2_with fail
          refine (ds_rtake HS2.out).mono ?_
          rintro e w3 ⟨rfl, hs3, hq3⟩
          simp only at hs3 ⊢
          obtain ⟨a, ha⟩ : ∃ a, a = hdI (xr.drop j) := ⟨_, rfl⟩
          rw [← ha]
          have HA := Lib.hid ha
          have HS3 := Lib.hid hs3
          have HQ3 := Lib.hid (HQ2.out.trans hq3)
          clear ha hs3 hq3 HS2 HQ2
          go_wp2_with fail
          refine (ds_yput HS3.out a).mono ?_
          rintro e w4 ⟨rfl, hs4, hq4⟩
          have hcp : canPut false m (yr ++ xr.take j) = true := by simp [canPut]; omega
          simp only [hcp, if_true] at hs4 ⊢
          have HS4 := Lib.hid (show DS B w4 ⟨i1, i2, i3, i4, x, y, n, m⟩ ⟨xq, cq, xr.drop (j + 1), cr, yq, dq, yr ++ xr.take (j + 1), false⟩ by
            rw [dropI xr j hjx, ← HA.out, ← List.append_assoc]
            simpa using hs4)
          have HQ4 := Lib.hid (HQ3.out.trans hq4)
          clear hs4 hq4 HS3 HQ3 hcp
          go_wp2_with fail
          go_roundw
          case rel =>
            have hrn : (if false = true then 0 else m - yr.length) = m - yr.length := by simp
            refine ⟨j + 1, by go_num, hjx, Lib.hid (by omega), Lib.hid (by rw [hrn]; omega), HS4, HQ4⟩
          case measure => simp [intOf]; omega
        · go_wp2_with fail
          go_ret
          have hk : moveN xr yr m dr most = j := by
            have h1 := HM.out
            have h2 := HR.out
            have h3 := HRM.out
            simp only [moveN, mvK]
            unfold roomZ at h3
            cases dr with
            | true => simp at h2 h3 ⊢; omega
            | false => simp at h2 h3 ⊢; omega
          rw [hk]
          exact ⟨rfl, HS2.out, HQ2.out⟩
      · have hNp : (N : Int) = 0 := by have := HN.out; omega
        have hN0 : N = 0 := by omega
        subst hN0
        go_wp2_with fail
        go_ret
        have hk : moveN xr yr m dr most = j := by
          have h1 := HM.out
          have h2 := HR.out
          simp only [moveN, mvK]
          omega
        rw [hk]
        exact ⟨rfl, HS.out, HQ.out⟩
    · have hmb : decide ((j : Int) < most) = false := decide_eq_false hm
      go_wp2_with fail
      go_ret
      have hk : moveN xr yr m dr most = j := by
        have h1 := HM.out
        have h2 := HR.out
        simp only [moveN, mvK]
        omega
      rw [hk]
      exact ⟨rfl, HS.out, HQ.out⟩
end
end Go.Proofs.Ythimgldohhaimaa
