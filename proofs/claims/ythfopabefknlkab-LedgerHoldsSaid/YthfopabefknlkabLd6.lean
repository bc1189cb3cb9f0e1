/-
  Package ledger: what accounts tell.
-/
import Derived.Test.YthfopabefknlkabLd5
namespace Go.Proofs.Ythfopabefknlkab
open Go.RowKit Go.Maps

def fieldOf (f : Ac → Int) (o : Option Ac) : Int := match o with | some a => f a | none => 0
set_option maxRecDepth 100000 in
set_option maxHeartbeats 1000000 in
theorem grant_any (l m : Nat) (L : List Ac) (last most n : Int) (w : World) (h : LedAt w l m L last most) (hw : (Lit.int .i64 n).wf = true) :
    Calls Try.prog 16 #[.pointer (some ⟨l, 0, none⟩), .int .i64 n] w fun e w' => e = .returned (.int .i64 (fieldOf Ac.g (acOf L n))) ∧ Below w.heap.size w w' := by
  have HA := Lib.hid (account_any l m L last most n w h hw)
  clear h hw
  cases ha : acOf L n with
  | none =>
    rw [ha] at HA
    clear ha
    go_enter Try.func16, Try.ntmps16
    go_wp2_with fail
    refine HA.out.mono ?_
    rintro e w1 ⟨rfl, hb⟩
    unfold acV
    have HB := Lib.hid hb
    clear hb
    go_wp2_with fail
    go_ret
    exact ⟨rfl, bt HB.out (ba w1 _)⟩
  | some a =>
    rw [ha] at HA
    clear ha
    go_enter Try.func16, Try.ntmps16
    go_wp2_with fail
    refine HA.out.mono ?_
    rintro e w1 ⟨rfl, hb⟩
    unfold acV
    have HB := Lib.hid hb
    clear hb
    go_wp2_with fail
    go_ret
    exact ⟨rfl, bt HB.out (ba w1 _)⟩
set_option maxRecDepth 100000 in
set_option maxHeartbeats 1000000 in
theorem grant_nil (n : Int) (w : World) :
    Calls Try.prog 16 #[.pointer none, .int .i64 n] w fun e w' => e = .returned (.int .i64 0) ∧ Below w.heap.size w w' := by
  have HA := Lib.hid (account_nil n w)
  go_enter Try.func16, Try.ntmps16
  go_wp2_with fail
  refine HA.out.mono ?_
  rintro e w1 ⟨rfl, hb⟩
  have HB := Lib.hid hb
  clear hb
  go_wp2_with fail
  go_ret
  exact ⟨rfl, bt HB.out (ba w1 _)⟩
set_option maxRecDepth 100000 in
set_option maxHeartbeats 1000000 in
theorem held_any (l m : Nat) (L : List Ac) (last most n : Int) (w : World) (h : LedAt w l m L last most) (hw : (Lit.int .i64 n).wf = true) :
    Calls Try.prog 15 #[.pointer (some ⟨l, 0, none⟩), .int .i64 n] w fun e w' => e = .returned (.int .i64 (fieldOf Ac.h (acOf L n))) ∧ Below w.heap.size w w' := by
  have HA := Lib.hid (account_any l m L last most n w h hw)
  clear h hw
  cases ha : acOf L n with
  | none =>
    rw [ha] at HA
    clear ha
    go_enter Try.func15, Try.ntmps15
    go_wp2_with fail
    refine HA.out.mono ?_
    rintro e w1 ⟨rfl, hb⟩
    unfold acV
    have HB := Lib.hid hb
    clear hb
    go_wp2_with fail
    go_ret
    exact ⟨rfl, bt HB.out (ba w1 _)⟩
  | some a =>
    rw [ha] at HA
    clear ha
    go_enter Try.func15, Try.ntmps15
    go_wp2_with fail
    refine HA.out.mono ?_
    rintro e w1 ⟨rfl, hb⟩
    unfold acV
    have HB := Lib.hid hb
    clear hb
    go_wp2_with fail
    go_ret
    exact ⟨rfl, bt HB.out (ba w1 _)⟩
set_option maxRecDepth 100000 in
set_option maxHeartbeats 1000000 in
theorem held_nil (n : Int) (w : World) :
    Calls Try.prog 15 #[.pointer none, .int .i64 n] w fun e w' => e = .returned (.int .i64 0) ∧ Below w.heap.size w w' := by
  have HA := Lib.hid (account_nil n w)
  go_enter Try.func15, Try.ntmps15
  go_wp2_with fail
  refine HA.out.mono ?_
  rintro e w1 ⟨rfl, hb⟩
  have HB := Lib.hid hb
  clear hb
  go_wp2_with fail
  go_ret
  exact ⟨rfl, bt HB.out (ba w1 _)⟩
set_option maxRecDepth 100000 in
set_option maxHeartbeats 1000000 in
theorem peak_any (l m : Nat) (L : List Ac) (last most n : Int) (w : World) (h : LedAt w l m L last most) (hw : (Lit.int .i64 n).wf = true) :
    Calls Try.prog 18 #[.pointer (some ⟨l, 0, none⟩), .int .i64 n] w fun e w' => e = .returned (.int .i64 (fieldOf Ac.p (acOf L n))) ∧ Below w.heap.size w w' := by
  have HA := Lib.hid (account_any l m L last most n w h hw)
  clear h hw
  cases ha : acOf L n with
  | none =>
    rw [ha] at HA
    clear ha
    go_enter Try.func18, Try.ntmps18
    go_wp2_with fail
    refine HA.out.mono ?_
    rintro e w1 ⟨rfl, hb⟩
    unfold acV
    have HB := Lib.hid hb
    clear hb
    go_wp2_with fail
    go_ret
    exact ⟨rfl, bt HB.out (ba w1 _)⟩
  | some a =>
    rw [ha] at HA
    clear ha
    go_enter Try.func18, Try.ntmps18
    go_wp2_with fail
    refine HA.out.mono ?_
    rintro e w1 ⟨rfl, hb⟩
    unfold acV
    have HB := Lib.hid hb
    clear hb
    go_wp2_with fail
    go_ret
    exact ⟨rfl, bt HB.out (ba w1 _)⟩
set_option maxRecDepth 100000 in
set_option maxHeartbeats 1000000 in
theorem peak_nil (n : Int) (w : World) :
    Calls Try.prog 18 #[.pointer none, .int .i64 n] w fun e w' => e = .returned (.int .i64 0) ∧ Below w.heap.size w w' := by
  have HA := Lib.hid (account_nil n w)
  go_enter Try.func18, Try.ntmps18
  go_wp2_with fail
  refine HA.out.mono ?_
  rintro e w1 ⟨rfl, hb⟩
  have HB := Lib.hid hb
  clear hb
  go_wp2_with fail
  go_ret
  exact ⟨rfl, bt HB.out (ba w1 _)⟩
def leftOf (L : List Ac) (n : Int) : Int := match acOf L n with | some a => a.g - a.h - sumN L n | none => 0
theorem sumN_bound {L : List Ac} (hs : Sane L) (n : Int) : 0 ≤ sumN L n ∧ sumN L n ≤ 16384000 := by
  have h := tot_bound (sumU n) 16384 L (fun _ => false) (sumU_bound hs n)
  rw [tot_end _ _ _ (fun _ => rfl)] at h
  have := hs.len
  unfold sumN
  omega
set_option maxRecDepth 100000 in
set_option maxHeartbeats 1000000 in
theorem left_any (l m : Nat) (L : List Ac) (last most n : Int) (w : World) (h : LedAt w l m L last most) (hs : Sane L) (hw : (Lit.int .i64 n).wf = true) :
    Calls Try.prog 17 #[.pointer (some ⟨l, 0, none⟩), .int .i64 n] w fun e w' => e = .returned (.int .i64 (leftOf L n)) ∧ Below w.heap.size w w' := by
  have HA := Lib.hid (account_any l m L last most n w h hw)
  have HL := Lib.hid h
  have HS := Lib.hid hs
  have HSb := Lib.hid (sumN_bound hs n)
  clear h hw hs
  cases ha : acOf L n with
  | none =>
    have HV := Lib.hid (show leftOf L n = 0 by unfold leftOf; rw [ha])
    rw [ha] at HA
    clear ha
    go_enter Try.func17, Try.ntmps17
    go_wp2_with fail
    refine HA.out.mono ?_
    rintro e w1 ⟨rfl, hb⟩
    unfold acV
    have HB := Lib.hid hb
    clear hb
    go_wp2_with fail
    go_ret
    exact ⟨by rw [HV.out]; rfl, bt HB.out (ba w1 _)⟩
  | some a =>
    have HV := Lib.hid (show leftOf L n = a.g - a.h - sumN L n by unfold leftOf; rw [ha])
    obtain ⟨hm, _⟩ := acOf_mem ha
    obtain ⟨g0, g1⟩ := HS.out.gr a hm
    obtain ⟨h0, h1⟩ := HS.out.he a hm
    clear hm
    rw [ha] at HA
    clear ha
    go_enter Try.func17, Try.ntmps17
    go_wp2_with fail
    refine HA.out.mono ?_
    rintro e w1 ⟨rfl, hb⟩
    unfold acV
    have HB := Lib.hid hb
    clear hb
    go_wp2_with fail
    have HL2 := Lib.hid (HL.out.kept (bt HB.out (ba w1 (.cells #[.int .i64 a.u, .int .i64 a.g, .int .i64 a.h, .int .i64 a.p] 65))))
    have HB2 := Lib.hid (bt HB.out (ba w1 (.cells #[.int .i64 a.u, .int .i64 a.g, .int .i64 a.h, .int .i64 a.p] 65)))
    have hbx : (w1.alloc (.cells #[.int .i64 a.u, .int .i64 a.g, .int .i64 a.h, .int .i64 a.p] 65)).heap[w1.heap.size]? = some (.cells #[.int .i64 a.u, .int .i64 a.g, .int .i64 a.h, .int .i64 a.p] 65 (0, 0)) := (MapKept.heap_alloc w1 _).1
    generalize w1.alloc (.cells #[.int .i64 a.u, .int .i64 a.g, .int .i64 a.h, .int .i64 a.p] 65) = W at HL2 HB2 hbx ⊢
    generalize w1.heap.size = B at hbx ⊢
    refine (under_any l m L last most n W HL2.out HS.out).mono ?_
    rintro e w3 ⟨rfl, hb3⟩
    have hlt := block_lt hbx
    have hbx3 := (hb3.block B hlt).trans hbx
    have x1 : w3.cell? ⟨B, 1, none⟩ = some (.int .i64 a.g) := by simp only [World.cell?, hbx3]; rfl
    have x2 : w3.cell? ⟨B, 2, none⟩ = some (.int .i64 a.h) := by simp only [World.cell?, hbx3]; rfl
    have HB3 := Lib.hid (bt HB2.out hb3)
    have hsb := HSb.out
    obtain ⟨s0, s1⟩ := hsb
    obtain ⟨s, hs⟩ : ∃ s, s = sumN L n := ⟨_, rfl⟩
    rw [← hs] at s0 s1 ⊢
    have HSs := Lib.hid hs
    clear hb3 hbx hbx3 hlt hs
    go_wp2_with fail
    go_ret
    exact ⟨by rw [HV.out, HSs.out]; rfl, HB3.out⟩
set_option maxRecDepth 100000 in
set_option maxHeartbeats 1000000 in
theorem left_nil (n : Int) (w : World) :
    Calls Try.prog 17 #[.pointer none, .int .i64 n] w fun e w' => e = .returned (.int .i64 0) ∧ Below w.heap.size w w' := by
  have HA := Lib.hid (account_nil n w)
  go_enter Try.func17, Try.ntmps17
  go_wp2_with fail
  refine HA.out.mono ?_
  rintro e w1 ⟨rfl, hb⟩
  have HB := Lib.hid hb
  clear hb
  go_wp2_with fail
  go_ret
  exact ⟨rfl, bt HB.out (ba w1 _)⟩
set_option maxRecDepth 100000 in
set_option maxHeartbeats 1000000 in
theorem most_any (l m : Nat) (L : List Ac) (last most : Int) (w : World) (h : LedAt w l m L last most) :
    Calls Try.prog 20 #[.pointer (some ⟨l, 0, none⟩)] w fun e w' => e = .returned (.int .i64 most) ∧ w = w' := by
  have c0 := h.c0
  have c2 := h.c2
  have HC := Lib.hid (closed_no l m w c0)
  clear h
  go_enter Try.func20, Try.ntmps20
  go_wp2_with fail
  refine HC.out.mono ?_
  rintro e w1 ⟨rfl, rfl⟩
  go_wp2_with fail
  go_ret
  exact ⟨rfl, rfl⟩
set_option maxRecDepth 100000 in
set_option maxHeartbeats 1000000 in
theorem most_nil (w : World) :
    Calls Try.prog 20 #[.pointer none] w fun e w' => e = .returned (.int .i64 0) ∧ w = w' := by
  have HC := Lib.hid (closed_nil w)
  go_enter Try.func20, Try.ntmps20
  go_wp2_with fail
  refine HC.out.mono ?_
  rintro e w1 ⟨rfl, rfl⟩
  go_wp2_with fail
  go_ret
  exact ⟨rfl, rfl⟩
end Go.Proofs.Ythfopabefknlkab
