/-
  The walk of DiskDoes.
-/
import Derived.Test.YthimgldohhaimabDre
import Derived.Test.YthimgldohhaimabDkd
namespace Go.Proofs.Ythimgldohhaimab
open Go.RowKit Go.Maps Go.Sort

theorem XdAt.lower {B C : Nat} {w : World} {x : Nat} {vF vL : Value} {X : Xd} (h : XdAt B w x vF vL X) (hf : X.fs = []) (hC : C ≤ B) : XdAt C w x vF vL X := by
  have low : ∀ {e : TypeId} {size n : Nat} {v : Value} {xs : List Value}, w.ownsRow B e size v n xs → w.ownsRow C e size v n xs := fun h => ⟨h.1, h.2.imp id (fun ⟨g, cap, cur, a, b, r⟩ => ⟨g, cap, cur, a, Nat.le_trans hC b, r⟩)⟩
  exact ⟨h.box, low h.ofa, low h.ofs, fun f hm => by (rw [hf] at hm; cases hm), h.apart, h.nums, h.num, h.len, h.pos, Nat.le_trans hC h.lo⟩
theorem two_start {w w1 w2 : World} {l mf ms x : Nat} {room : Int} {fa : List Int} {vF : Value} (hn : NewAt w.heap.size w1 l mf ms room fa) (h1 : Below w.heap.size w w1) (hx : XdAt w1.heap.size w2 x vF (.slice none 0 0) (xdNew room fa)) (h2 : Below w1.heap.size w1 w2) : Two w.heap.size w2 l mf ms x 0 := by
  obtain ⟨F, hd, hF, _⟩ := hn
  exact ⟨_, _, _, _, hd.kept h2, hx.lower rfl h1.size, Sy.new hF⟩
theorem nw_in (room : Int) (h : 0 ≤ room ∧ room ≤ 16384) (A : Option Addr) (c : Nat) (fa : List Int) (w : World) (hA : NumsAt w A fa) (hwf : ∀ n ∈ fa, (Lit.int .i64 n).wf = true) (hl : fa.length ≤ maxLen) :
    Calls Try.prog 5 #[.int .i64 room, .slice A fa.length c] w fun e w' => (∃ l, e = .returned (.tuple #[.pointer (some ⟨l, 0, none⟩), .int .i64 0]) ∧ Hid (∃ mf ms, NewAt w.heap.size w' l mf ms room fa)) ∧ Below w.heap.size w w' := by
  refine (newD_any room A c fa w hA hwf hl).mono ?_
  rintro e w' ⟨hb, he⟩
  rw [if_pos h] at he
  obtain ⟨l, mf, ms, he, hn⟩ := he
  exact ⟨⟨l, he, Lib.hid ⟨mf, ms, hn⟩⟩, hb⟩
theorem nw_out (room : Int) (h : ¬ (0 ≤ room ∧ room ≤ 16384)) (A : Option Addr) (c : Nat) (fa : List Int) (w : World) (hA : NumsAt w A fa) (hwf : ∀ n ∈ fa, (Lit.int .i64 n).wf = true) (hl : fa.length ≤ maxLen) :
    Calls Try.prog 5 #[.int .i64 room, .slice A fa.length c] w fun e w' => e = .returned (.tuple #[.pointer none, .int .i64 1]) ∧ Below w.heap.size w w' := by
  refine (newD_any room A c fa w hA hwf hl).mono ?_
  rintro e w' ⟨hb, he⟩
  rw [if_neg h] at he
  exact ⟨he, hb⟩
theorem rn_in (room : Int) (h : 0 ≤ room ∧ room ≤ 16384) (A : Option Addr) (c : Nat) (fa : List Int) (w : World) (hA : NumsAt w A fa) (hc : A = none → c = 0) (hl : fa.length ≤ 1000) :
    Calls Try.prog 6 #[.int .i64 room, .slice A fa.length c] w fun e w' => (∃ x, e = .returned (.pointer (some ⟨x, 0, none⟩)) ∧ Hid (∃ vF, XdAt w.heap.size w' x vF (.slice none 0 0) (xdNew room fa))) ∧ Below w.heap.size w w' := by
  refine (rnew_any room A c fa w hA hc hl).mono ?_
  rintro e w' ⟨hb, he⟩
  rw [if_pos h] at he
  obtain ⟨x, vF, he, hx⟩ := he
  exact ⟨⟨x, he, Lib.hid ⟨vF, hx⟩⟩, hb⟩
theorem rn_out (room : Int) (h : ¬ (0 ≤ room ∧ room ≤ 16384)) (A : Option Addr) (c : Nat) (fa : List Int) (w : World) (hA : NumsAt w A fa) (hc : A = none → c = 0) (hl : fa.length ≤ 1000) :
    Calls Try.prog 6 #[.int .i64 room, .slice A fa.length c] w fun e w' => e = .returned (.pointer none) ∧ Below w.heap.size w w' := by
  refine (rnew_any room A c fa w hA hc hl).mono ?_
  rintro e w' ⟨hb, he⟩
  rw [if_neg h] at he
  exact ⟨he, hb⟩
set_option maxRecDepth 100000 in
set_option maxHeartbeats 4000000 in
theorem diskDoes_out (room : Int) (A0 : Option Addr) (c0 : Nat) (fa : List Int) (A2 : Option Addr) (c2 : Nat) (xs : List O5) (w : World) (h : ¬ (0 ≤ room ∧ room ≤ 16384)) (hA : NumsAt w A0 fa) (hc : A0 = none → c0 = 0) (hwf : ∀ n ∈ fa, (Lit.int .i64 n).wf = true) (hl : fa.length ≤ 100) (hxl : xs.length ≤ 9223372036854775807) :
    Calls Try.prog 3 #[.int .i64 room, .slice A0 fa.length c0, .slice A2 xs.length c2] w fun e w' => e = .returned (.bool true) ∧ Below w.heap.size w w' := by
  have H1 := Lib.hid (nw_out room h A0 c0 fa w hA hwf (by unfold maxLen; omega))
  have H2 := Lib.hid (show ∀ w', Below w.heap.size w w' → _ from fun w' hb => rn_out room h A0 c0 fa w' (hA.kept hb) hc (by omega))
  obtain ⟨M, hM⟩ : ∃ M, M = fa.length := ⟨_, rfl⟩
  rw [← hM] at H1 H2 hl ⊢
  clear h hA hc hwf hM
  go_enter Try.func3, Try.ntmps3
  go_wp2_with fail
  refine H1.out.mono ?_
  rintro e w1 ⟨rfl, hb1⟩
  have HB1 := Lib.hid hb1
  clear hb1
  go_wp2_with fail
  refine (H2.out w1 HB1.out).mono ?_
  rintro e w2 ⟨rfl, hb2⟩
  have HB2 := Lib.hid (bt HB1.out hb2)
  clear hb2
  go_wp2_with fail
  refine (lives5_yes w2).mono ?_
  rintro e w5 ⟨rfl, hb5⟩
  have HB5 := Lib.hid (bt HB2.out hb5)
  clear hb5 H1 H2
  go_wp2_with fail
  go_loopw [10] (fun v wr => v = .int .i64 0 ∧ Hid (Below w.heap.size w wr)) (fun _ _ => 0)
  case atStart => exact ⟨rfl, HB5⟩
  case round =>
    obtain ⟨rfl, HB⟩ := hrel
    by_cases h0 : 0 < xs.length
    · have h0i : (0 : Int) < (xs.length : Int) := by omega
      go_wp2_with fail
      go_ret
      exact ⟨rfl, HB.out⟩
    · have h0i : (xs.length : Int) = 0 := by omega
      go_wp2_with fail
      go_ret
      exact ⟨rfl, HB.out⟩
set_option maxRecDepth 100000 in
set_option maxHeartbeats 4000000 in
theorem diskDoes_many (room : Int) (A0 : Option Addr) (c0 M : Nat) (v2 : Value) (w : World) (hl : 100 < M) (hm : M ≤ 9223372036854775807) :
    Calls Try.prog 3 #[.int .i64 room, .slice A0 M c0, v2] w fun e w' => e = .returned (.bool true) ∧ Below w.heap.size w w' := by
  go_enter Try.func3, Try.ntmps3
  go_wp2_with fail
  refine (lives5_yes w).mono ?_
  rintro e w5 ⟨rfl, hb5⟩
  have HB5 := Lib.hid hb5
  clear hb5
  go_wp2_with fail
  go_ret
  exact ⟨rfl, HB5.out⟩
set_option maxRecDepth 100000 in
set_option maxHeartbeats 8000000 in
theorem diskDoes_in (room : Int) (A0 : Option Addr) (c0 : Nat) (fa : List Int) (A2 : Option Addr) (c2 : Nat) (xs : List O5) (w : World) (h : 0 ≤ room ∧ room ≤ 16384) (hA : NumsAt w A0 fa) (hc : A0 = none → c0 = 0) (hwf : ∀ n ∈ fa, (Lit.int .i64 n).wf = true) (hl : fa.length ≤ 100) (hx : O5At w.heap.size w A2 xs) (hw : Wide5 xs) :
    Calls Try.prog 3 #[.int .i64 room, .slice A0 fa.length c0, .slice A2 xs.length c2] w fun e w' => e = .returned (.bool true) ∧ Below w.heap.size w w' := by
  have H1 := Lib.hid (nw_in room h A0 c0 fa w hA hwf (by unfold maxLen; omega))
  have H2 := Lib.hid (show ∀ w', Below w.heap.size w w' → _ from fun w' hb => rn_in room h A0 c0 fa w' (hA.kept hb) hc (by omega))
  have HX := Lib.hid (And.intro hx hw)
  obtain ⟨M, hM⟩ : ∃ M, M = fa.length := ⟨_, rfl⟩
  rw [← hM] at H1 H2 hl ⊢
  clear h hA hc hwf hM hx hw
  go_enter Try.func3, Try.ntmps3
  go_wp2_with fail
  refine H1.out.mono ?_
  rintro e w1 ⟨⟨l, rfl, hn⟩, hb1⟩
  have HB1 := Lib.hid hb1
  clear hb1
  go_wp2_with fail
  refine (H2.out w1 HB1.out).mono ?_
  rintro e w2 ⟨⟨x, rfl, hxd⟩, hb2⟩
  have HT2 := Lib.hid (show ∃ mf ms, Two w.heap.size w2 l mf ms x 0 by
    obtain ⟨mf, ms, hn'⟩ := hn.out
    obtain ⟨vF, hx'⟩ := hxd.out
    exact ⟨mf, ms, two_start hn' HB1.out hx' hb2⟩)
  have HB2 := Lib.hid (bt HB1.out hb2)
  clear hb2 hn hxd
  go_wp2_with fail
  refine (lives5_yes w2).mono ?_
  rintro e w5 ⟨rfl, hb5⟩
  obtain ⟨mf, ms, ht⟩ := HT2.out
  have HT5 := Lib.hid (ht.kept hb5)
  have HB5 := Lib.hid (bt HB2.out hb5)
  clear hb5 H1 H2 ht HT2 HB2 HB1
  go_wp2_with fail
  go_loopw [10] (fun v wr => ∃ j : Nat, v = .int .i64 j ∧ j ≤ xs.length ∧ j ≤ 80 ∧ Hid (Two w.heap.size wr l mf ms x (j : Int)) ∧ Hid (Below w.heap.size w wr)) (fun v _ => xs.length - (intOf v).toNat)
  case atStart => exact ⟨0, rfl, Nat.zero_le _, Nat.zero_le _, HT5, HB5⟩
  case round =>
    obtain ⟨j, rfl, hj, hj2, HT, HB⟩ := hrel
    clear HT5 HB5
    by_cases hlt : j < xs.length
    · by_cases h80 : j < 80
      · obtain ⟨b, off, hAb, hbl, hcs, hdat⟩ := HX.out.1.at HB.out hlt
        subst hAb
        have HWn := Lib.hid (HX.out.2 _ (List.getElem_mem hlt))
        generalize xs[j] = op at hcs hdat HWn
        obtain ⟨k, n, i, A, c, q⟩ := op
        simp only at hcs hdat HWn
        obtain ⟨e0, e1, e2, e3⟩ := hcs
        have HDt := Lib.hid hdat
        have HJ3 := Lib.hid (show (j : Int) < 1000000000000 by omega)
        have HBl := Lib.hid hbl
        obtain ⟨Q, hQ⟩ : ∃ Q, Q = q.length := ⟨_, rfl⟩
        rw [← hQ] at e3
        have h80i : (j : Int) < 80 := by omega
        have hlti : (j : Int) < (xs.length : Int) := by omega
        clear hdat hbl
        by_cases hq : 1000 < Q
        · have hqb : decide ((1000 : Int) < (Q : Int)) = true := decide_eq_true (by omega)
          clear hQ hq
          go_wp2_with fail
          go_roundw
          case rel =>
            obtain ⟨d, X, vF, vL, t1, t2, t3⟩ := HT.out.ex
            exact ⟨j + 1, by go_num, hlt, h80, Lib.hid ⟨d, X, vF, vL, t1, t2, t3.mono (by omega)⟩, HB⟩
          case measure => simp [intOf]; omega
        · have hqb : decide ((1000 : Int) < (Q : Int)) = false := decide_eq_false (by omega)
          have HDo := Lib.hid (do_any HT.out HJ3.out k n i A c HWn.out (by omega) HDt.out)
          rw [← hQ] at HDo
          clear hQ hq
          go_wp2_with fail
          refine HDo.out.mono ?_
          rintro e w6 ⟨rfl, ht6, hb6⟩
          have HT6 := Lib.hid ht6
          have HB6 := Lib.hid (HB.out.trans hb6)
          have f1 : w6.cell? ⟨b, off + j * 4 + 1, none⟩ = some (.int .i64 n) := by
            exact (hb6.cell (p := ⟨b, _, none⟩) HBl.out).trans e1
          clear ht6 hb6 HDo
          go_wp2_with fail
          refine (alike_any HT6.out (by have := HJ3.out; omega) n HWn.out).mono ?_
          rintro e w7 ⟨rfl, hb7⟩
          have HT7 := Lib.hid (HT6.out.kept hb7)
          have HB7 := Lib.hid (bt HB6.out hb7)
          clear hb7 HT6 HB6
          go_wp2_with fail
          go_roundw
          case rel => exact ⟨j + 1, by go_num, hlt, h80, HT7, HB7⟩
          case measure => simp [intOf]; omega
      · go_wp2_with fail
        go_ret
        exact ⟨rfl, HB.out⟩
    · go_wp2_with fail
      go_ret
      exact ⟨rfl, HB.out⟩
theorem diskDoes_walk (room : Int) (A0 : Option Addr) (c0 : Nat) (fa : List Int) (A2 : Option Addr) (c2 : Nat) (xs : List O5) (w : World) (hA : NumsAt w A0 fa) (hc : A0 = none → c0 = 0) (hwf : ∀ n ∈ fa, (Lit.int .i64 n).wf = true) (hl : fa.length ≤ 9223372036854775807) (hx : O5At w.heap.size w A2 xs) (hw : Wide5 xs) (hxl : xs.length ≤ 9223372036854775807) :
    Calls Try.prog 3 #[.int .i64 room, .slice A0 fa.length c0, .slice A2 xs.length c2] w fun e w' => e = .returned (.bool true) ∧ Below w.heap.size w w' := by
  by_cases hm : 100 < fa.length
  · exact diskDoes_many room A0 c0 fa.length _ w hm hl
  · by_cases h : 0 ≤ room ∧ room ≤ 16384
    · exact diskDoes_in room A0 c0 fa A2 c2 xs w h hA hc hwf (by omega) hx hw
    · exact diskDoes_out room A0 c0 fa A2 c2 xs w h hA hc hwf (by omega) hxl
end Go.Proofs.Ythimgldohhaimab
