/-
  DiskDoes: one call of both (do): the other kinds.
-/
import Derived.Test.YthimgldohhaimabDr9
namespace Go.Proofs.Ythimgldohhaimab
open Go.RowKit Go.Maps Go.Sort

section
variable {B : Nat} {w0 w w' : World} {b l mf ms x : Nat} {k n i : Int} {A : Option Addr} {len c : Nat} {d : Dk} {X : Xd} {j : Int}
set_option maxRecDepth 100000 in
set_option maxHeartbeats 4000000 in
theorem do_4 (h : Two B w l mf ms x j) (n i : Int) (A : Option Addr) (len c : Nat) (hw : (Lit.int .i64 n).wf = true) :
    Calls Try.prog 7 #[.pointer (some ⟨l, 0, none⟩), .pointer (some ⟨x, 0, none⟩), .agg #[.int .i64 4, .int .i64 n, .int .i64 i, .slice A len c]] w (DoEnd B w l mf ms x j) := by
  obtain ⟨d, X, vF, vL, hd, hx, hs⟩ := h.ex
  have HP := Lib.hid (pd_start (k := 4) (n := n) (i := i) (A := A) (len := len) (c := c) hd hx)
  have HS := Lib.hid hs
  have HSd := Lib.hid hd.sane
  have HW := Lib.hid hw
  obtain ⟨b, hb⟩ : ∃ b, b = w.heap.size := ⟨_, rfl⟩
  rw [← hb] at HP
  have HBb := Lib.hid hb
  clear h hd hx hs hw
  go_enter Try.func7, Try.ntmps7
  go_upto_region 1 with fail
  rw [← HBb.out]
  clear hb
  unfold opBox at HP
  generalize w.alloc (.cells #[.int .i64 4, .int .i64 n, .int .i64 i, .slice A len c] 33) = W at HP ⊢
  have x0 := HP.out.c0
  go_upto_region 13 with fail
  clear x0
  have HPd := Lib.hid (show Pd B w W.drew b l mf ms x 4 n i A len c d X from HP.out.kept (Below.drew (Below.refl _ _)))
  clear HP
  have x1 : W.drew.cell? ⟨b, 1, none⟩ = some (.int .i64 n) := HPd.out.c1
  go_region_held3 (fun w' => w'.cell? ⟨b, 1, none⟩ = some (.int .i64 n))
    (first
      | exact x1
      | exact x2
      | exact x3)
    (first
      | (go_at_call 15; refine (p_del (by assumption) HW.out).mono ?_; rintro e w1 ⟨rfl, d1, hp1, ha1, x2⟩)
      | (go_at_call 21; refine (p_rdel (by assumption) (by assumption) HS HSd).mono ?_; rintro e w2 ⟨rfl, X2, hp2, hs2, x3⟩))
  go_wp2_with fail
  go_ret
  exact ⟨rfl, hp2.out.two (hs2.out.mono (by omega)), hp2.out.below⟩
set_option maxRecDepth 100000 in
set_option maxHeartbeats 4000000 in
theorem do_0 (h : Two B w l mf ms x j) (k n i : Int) (A : Option Addr) (len c : Nat) (h1 : k ≠ 1) (h2 : k ≠ 2) (h3 : k ≠ 3) (h4 : k ≠ 4) :
    Calls Try.prog 7 #[.pointer (some ⟨l, 0, none⟩), .pointer (some ⟨x, 0, none⟩), .agg #[.int .i64 k, .int .i64 n, .int .i64 i, .slice A len c]] w (DoEnd B w l mf ms x j) := by
  obtain ⟨d, X, vF, vL, hd, hx, hs⟩ := h.ex
  have HP := Lib.hid (pd_start (k := k) (n := n) (i := i) (A := A) (len := len) (c := c) hd hx)
  have HS := Lib.hid hs
  obtain ⟨b, hb⟩ : ∃ b, b = w.heap.size := ⟨_, rfl⟩
  rw [← hb] at HP
  have HBb := Lib.hid hb
  clear h hd hx hs
  go_enter Try.func7, Try.ntmps7
  go_upto_region 1 with fail
  rw [← HBb.out]
  clear hb
  unfold opBox at HP
  generalize w.alloc (.cells #[.int .i64 k, .int .i64 n, .int .i64 i, .slice A len c] 33) = W at HP ⊢
  have x0 := HP.out.c0
  go_wp2_with fail
  go_ret
  exact ⟨rfl, HP.out.two (HS.out.mono (by omega)), HP.out.below⟩
def crA (d : Dk) : Int := if 32768 ≤ d.fs.length then 0 else d.last + 1
def crR (d : Dk) : Int := if 32768 ≤ d.fs.length then 2 else 0
def CrD (d d' : Dk) : Prop := if 32768 ≤ d.fs.length then d' = d else d' = d.add
theorem p_create (h : Hid (Pd B w0 w b l mf ms x k n i A len c d X)) (hs : Hid (Sy d X j)) (hj : Hid (j < 1000000000000)) :
    Calls Try.prog 9 #[.pointer (some ⟨l, 0, none⟩)] w fun e w' => e = .returned (.tuple #[.int .i64 (crA d), .int .i64 (crR d)]) ∧ ∃ d', Hid (Pd B w0 w' b l mf ms x k n i A len c d' X) ∧ Hid (CrD d d') := by
  have hc := hs.out.cnt
  have hj := hj.out
  refine (create_any B l mf ms d w h.out.D (by omega)).mono ?_
  rintro e w' he
  unfold CreateEnd at he
  unfold crA crR CrD
  by_cases a : 32768 ≤ d.fs.length
  · rw [if_pos a] at he
    obtain ⟨rfl, rfl⟩ := he
    rw [if_pos a, if_pos a]
    exact ⟨rfl, d, h, Lib.hid (by rw [if_pos a])⟩
  · rw [if_neg a] at he
    obtain ⟨rfl, hd, hg, _⟩ := he
    rw [if_neg a, if_neg a]
    exact ⟨rfl, _, Lib.hid (h.out.turnD hd hg), Lib.hid (by rw [if_neg a])⟩
theorem p_rcreate {d' : Dk} (h : Hid (Pd B w0 w b l mf ms x k n i A len c d' X)) (ha : Hid (CrD d d')) (hs : Hid (Sy d X j)) (hj : Hid (j < 1000000000000)) :
    Calls Try.prog 18 #[.pointer (some ⟨x, 0, none⟩)] w fun e w' => e = .returned (.tuple #[.int .i64 (crA d), .int .i64 (crR d)]) ∧ ∃ X', Hid (Pd B w0 w' b l mf ms x k n i A len c d' X') ∧ Hid (Sy d' X' (j + 1)) := by
  have hS := hs.out
  have hc := hS.cnt
  have hj := hj.out
  have hA := ha.out
  obtain ⟨vF, vL, hx⟩ := h.out.ex
  refine (rcreate_any hx (by rw [hS.made]; omega)).mono ?_
  rintro e w' he
  unfold RCreateEnd at he
  unfold CrD at hA
  unfold crA crR
  rw [hS.len] at he
  by_cases a : 32768 ≤ d.fs.length
  · rw [if_pos a] at he hA
    obtain ⟨rfl, rfl⟩ := he
    rw [if_pos a, if_pos a]
    exact ⟨rfl, X, h, Lib.hid (by rw [hA]; exact hS.mono (by omega))⟩
  · rw [if_neg a] at he hA
    obtain ⟨rfl, ⟨vL', hx'⟩, hg⟩ := he
    rw [if_neg a, if_neg a, hS.made]
    exact ⟨rfl, _, Lib.hid (h.out.turnX hx' hg), Lib.hid (by rw [hA]; exact hS.add)⟩
set_option maxRecDepth 100000 in
set_option maxHeartbeats 4000000 in
theorem do_1 (h : Two B w l mf ms x j) (hj : j < 1000000000000) (n i : Int) (A : Option Addr) (len c : Nat) :
    Calls Try.prog 7 #[.pointer (some ⟨l, 0, none⟩), .pointer (some ⟨x, 0, none⟩), .agg #[.int .i64 1, .int .i64 n, .int .i64 i, .slice A len c]] w (DoEnd B w l mf ms x j) := by
  obtain ⟨d, X, vF, vL, hd, hx, hs⟩ := h.ex
  have HP := Lib.hid (pd_start (k := 1) (n := n) (i := i) (A := A) (len := len) (c := c) hd hx)
  have HS := Lib.hid hs
  have HJ := Lib.hid hj
  obtain ⟨b, hb⟩ : ∃ b, b = w.heap.size := ⟨_, rfl⟩
  rw [← hb] at HP
  have HBb := Lib.hid hb
  clear h hd hx hs hj
  go_enter Try.func7, Try.ntmps7
  go_upto_region 1 with fail
  rw [← HBb.out]
  clear hb
  unfold opBox at HP
  generalize w.alloc (.cells #[.int .i64 1, .int .i64 n, .int .i64 i, .slice A len c] 33) = W at HP ⊢
  have x0 := HP.out.c0
  go_wp2_with fail
  refine (p_create HP HS HJ).mono ?_
  rintro e w1 ⟨rfl, d1, hp1, ha1⟩
  clear HP x0
  go_wp2_with fail
  refine (p_rcreate hp1 ha1 HS HJ).mono ?_
  rintro e w2 ⟨rfl, X2, hp2, hs2⟩
  clear hp1 ha1
  go_wp2_with fail
  go_ret
  exact ⟨rfl, hp2.out.two hs2.out, hp2.out.below⟩
end
end Go.Proofs.Ythimgldohhaimab
