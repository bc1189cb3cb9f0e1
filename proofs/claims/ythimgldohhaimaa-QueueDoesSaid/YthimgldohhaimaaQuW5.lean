/-
  The walk of QueueDoes.
-/
import Derived.Test.YthimgldohhaimaaQv6
import Derived.Test.YthimgldohhaimaaQuW2
namespace Go.Proofs.Ythimgldohhaimaa
open Go.RowKit Go.Conc

theorem nr_new (n : Int) (h0 : 1 ≤ n) (h1 : n ≤ 1024) (w : World) : Calls Try.prog 13 #[.int .i64 n] w fun e w' => (∃ x, e = .returned (.pointer (some ⟨x, 0, none⟩)) ∧ RefAt w.heap.size w' x (.slice none 0 0) n.toNat [] false) ∧ Below w.heap.size w w' := by
  refine (newR_any n w).mono ?_
  rintro e w' ⟨hb, h⟩
  rw [if_pos ⟨h0, h1⟩] at h
  exact ⟨h, hb⟩
theorem nr_no (n : Int) (h : ¬ (1 ≤ n ∧ n ≤ 1024)) (w : World) : Calls Try.prog 13 #[.int .i64 n] w fun e w' => e = .returned (.pointer none) ∧ Below w.heap.size w w' := by
  refine (newR_any n w).mono ?_
  rintro e w' ⟨hb, h1⟩
  rw [if_neg h] at h1
  exact ⟨h1, hb⟩
theorem ds_start {w w1 w2 w3 w4 : World} {q c p d x y n m : Nat} (hq : QatI w.heap.size w1 q c ⟨n, [], false⟩) (h1 : Below w.heap.size w w1) (hp : QatI w1.heap.size w2 p d ⟨m, [], false⟩) (h2 : Below w1.heap.size w1 w2) (hx : RefAt w2.heap.size w3 x (.slice none 0 0) n [] false) (h3 : Below w2.heap.size w2 w3) (hy : RefAt w3.heap.size w4 y (.slice none 0 0) m [] false) (h4 : Below w3.heap.size w3 w4) :
    DS w.heap.size w4 ⟨q, c, p, d, x, y, n, m⟩ (SS [] false [] false) := by
  have s1 := h1.size
  have s2 := h2.size
  have s3 := h3.size
  have q1 := block_ltQ hq.box
  have q2 := hq.clt
  have l2 := hp.lo
  have l3 := hx.lo
  have l4 := hy.lo
  have x1 := block_ltQ hx.box
  have hqa : QatI w.heap.size w4 q c ⟨n, [], false⟩ := ((hq.kept h2).kept h3).kept h4
  have hpa : QatI w1.heap.size w4 p d ⟨m, [], false⟩ := (hp.kept h3).kept h4
  exact ⟨.slice none 0 0, .slice none 0 0, hqa, ⟨hpa.box, hpa.chan, ⟨by have := hpa.lo; show _ ≤ p; omega, by have := hpa.lo; show _ ≤ d; omega⟩, hpa.room, hpa.most⟩, ⟨(h4.block x x1).trans hx.box, World.ownsRow_nil _ _ _ _, by show _ ≤ x; omega, hx.room⟩, ⟨hy.box, World.ownsRow_nil _ _ _ _, by show _ ≤ y; omega, hy.room⟩, ⟨by show q ≠ p; omega, by show c ≠ d; omega, by show x ≠ y; omega⟩, (fun k hk => by cases hk), (fun k hk => by cases hk), (fun k hk => by cases hk)⟩
set_option maxRecDepth 100000 in
set_option maxHeartbeats 4000000 in
theorem queueDoes_out (n m : Int) (A : Option Addr) (cc : Nat) (xs : List O2) (w : World) (hl : xs.length ≤ 9223372036854775807) (h : ¬ (1 ≤ n ∧ n ≤ 1024) ∨ ¬ (1 ≤ m ∧ m ≤ 1024)) :
    Calls Try.prog 3 #[.int .i64 n, .int .i64 m, .slice A xs.length cc] w fun e w' => e = .returned (.bool true) ∧ Below w.heap.size w w' := by
  by_cases hn : 1 ≤ n ∧ n ≤ 1024
  · have hm : ¬ (1 ≤ m ∧ m ≤ 1024) := by rcases h with h | h; exact absurd hn h; exact h
    have H1 := Lib.hid (qo_new n hn.1 hn.2)
    have H2 := Lib.hid (qo_no m hm)
    have H3 := Lib.hid (nr_new n hn.1 hn.2)
    have H4 := Lib.hid (nr_no m hm)
    clear hn hm h
    go_enter Try.func3, Try.ntmps3
    go_wp2_with fail
    refine (H1.out w).mono ?_
    rintro e w1 ⟨⟨q, c, rfl, _⟩, hb1⟩
    have HB1 := Lib.hid hb1
    clear hb1
    go_wp2_with fail
    refine (H2.out w1).mono ?_
    rintro e w2 ⟨rfl, hb2⟩
    have HB2 := Lib.hid (bt HB1.out hb2)
    clear hb2
    go_wp2_with fail
    refine (H3.out w2).mono ?_
    rintro e w3 ⟨⟨x, rfl, _⟩, hb3⟩
    have HB3 := Lib.hid (bt HB2.out hb3)
    clear hb3
    go_wp2_with fail
    refine (H4.out w3).mono ?_
    rintro e w4 ⟨rfl, hb4⟩
    have HB4 := Lib.hid (bt HB3.out hb4)
    clear hb4
    go_wp2_with fail
    refine (lives7_yes w4).mono ?_
    rintro e w5 ⟨rfl, hb5⟩
    have HB5 := Lib.hid (bt HB4.out hb5)
    clear hb5
    go_wp2_with fail
    go_loopw [11, 12, 13] (fun xx yy v wr => xx = .pointer (some ⟨x, 0, none⟩) ∧ yy = .pointer none ∧ v = .int .i64 0 ∧ Hid (Below w.heap.size w wr)) (fun _ _ _ _ => 0)
    case atStart => exact ⟨rfl, rfl, rfl, HB5⟩
    case round =>
      obtain ⟨rfl, rfl, rfl, HB⟩ := hrel
      by_cases h0 : 0 < xs.length
      · have h0i : (0 : Int) < (xs.length : Int) := by omega
        go_wp2_with fail
        go_ret
        exact ⟨rfl, HB.out⟩
      · have h0i : (xs.length : Int) = 0 := by omega
        go_wp2_with fail
        go_ret
        exact ⟨rfl, HB.out⟩
  · by_cases hm : 1 ≤ m ∧ m ≤ 1024
    · have H1 := Lib.hid (qo_no n hn)
      have H2 := Lib.hid (qo_new m hm.1 hm.2)
      have H3 := Lib.hid (nr_no n hn)
      have H4 := Lib.hid (nr_new m hm.1 hm.2)
      clear hn hm h
      go_enter Try.func3, Try.ntmps3
      go_wp2_with fail
      refine (H1.out w).mono ?_
      rintro e w1 ⟨rfl, hb1⟩
      have HB1 := Lib.hid hb1
      clear hb1
      go_wp2_with fail
      refine (H2.out w1).mono ?_
      rintro e w2 ⟨⟨p, d, rfl, _⟩, hb2⟩
      have HB2 := Lib.hid (bt HB1.out hb2)
      clear hb2
      go_wp2_with fail
      refine (H3.out w2).mono ?_
      rintro e w3 ⟨rfl, hb3⟩
      have HB3 := Lib.hid (bt HB2.out hb3)
      clear hb3
      go_wp2_with fail
      refine (H4.out w3).mono ?_
      rintro e w4 ⟨⟨y, rfl, _⟩, hb4⟩
      have HB4 := Lib.hid (bt HB3.out hb4)
      clear hb4
      go_wp2_with fail
      refine (lives7_yes w4).mono ?_
      rintro e w5 ⟨rfl, hb5⟩
      have HB5 := Lib.hid (bt HB4.out hb5)
      clear hb5
      go_wp2_with fail
      go_loopw [11, 12, 13] (fun xx yy v wr => xx = .pointer none ∧ yy = .pointer (some ⟨y, 0, none⟩) ∧ v = .int .i64 0 ∧ Hid (Below w.heap.size w wr)) (fun _ _ _ _ => 0)
      case atStart => exact ⟨rfl, rfl, rfl, HB5⟩
      case round =>
        obtain ⟨rfl, rfl, rfl, HB⟩ := hrel
        by_cases h0 : 0 < xs.length
        · have h0i : (0 : Int) < (xs.length : Int) := by omega
          go_wp2_with fail
          go_ret
          exact ⟨rfl, HB.out⟩
        · have h0i : (xs.length : Int) = 0 := by omega
          go_wp2_with fail
          go_ret
          exact ⟨rfl, HB.out⟩
    · have H1 := Lib.hid (qo_no n hn)
      have H2 := Lib.hid (qo_no m hm)
      have H3 := Lib.hid (nr_no n hn)
      have H4 := Lib.hid (nr_no m hm)
      clear hn hm h
      go_enter Try.func3, Try.ntmps3
      go_wp2_with fail
      refine (H1.out w).mono ?_
      rintro e w1 ⟨rfl, hb1⟩
      have HB1 := Lib.hid hb1
      clear hb1
      go_wp2_with fail
      refine (H2.out w1).mono ?_
      rintro e w2 ⟨rfl, hb2⟩
      have HB2 := Lib.hid (bt HB1.out hb2)
      clear hb2
      go_wp2_with fail
      refine (H3.out w2).mono ?_
      rintro e w3 ⟨rfl, hb3⟩
      have HB3 := Lib.hid (bt HB2.out hb3)
      clear hb3
      go_wp2_with fail
      refine (H4.out w3).mono ?_
      rintro e w4 ⟨rfl, hb4⟩
      have HB4 := Lib.hid (bt HB3.out hb4)
      clear hb4
      go_wp2_with fail
      refine (lives7_yes w4).mono ?_
      rintro e w5 ⟨rfl, hb5⟩
      have HB5 := Lib.hid (bt HB4.out hb5)
      clear hb5
      go_wp2_with fail
      go_loopw [11, 12, 13] (fun xx yy v wr => xx = .pointer none ∧ yy = .pointer none ∧ v = .int .i64 0 ∧ Hid (Below w.heap.size w wr)) (fun _ _ _ _ => 0)
      case atStart => exact ⟨rfl, rfl, rfl, HB5⟩
      case round =>
        obtain ⟨rfl, rfl, rfl, HB⟩ := hrel
        by_cases h0 : 0 < xs.length
        · have h0i : (0 : Int) < (xs.length : Int) := by omega
          go_wp2_with fail
          go_ret
          exact ⟨rfl, HB.out⟩
        · have h0i : (xs.length : Int) = 0 := by omega
          go_wp2_with fail
          go_ret
          exact ⟨rfl, HB.out⟩
set_option maxRecDepth 100000 in
set_option maxHeartbeats 8000000 in
theorem queueDoes_in (n m : Int) (A : Option Addr) (cc : Nat) (xs : List O2) (w : World) (hx : O2At w A xs) (hn : 1 ≤ n ∧ n ≤ 1024) (hm : 1 ≤ m ∧ m ≤ 1024) :
    Calls Try.prog 3 #[.int .i64 n, .int .i64 m, .slice A xs.length cc] w fun e w' => e = .returned (.bool true) ∧ Below w.heap.size w w' := by
  have H1 := Lib.hid (qo_new n hn.1 hn.2)
  have H2 := Lib.hid (qo_new m hm.1 hm.2)
  have H3 := Lib.hid (nr_new n hn.1 hn.2)
  have H4 := Lib.hid (nr_new m hm.1 hm.2)
  have HX := Lib.hid hx
  clear hn hm hx
  go_enter Try.func3, Try.ntmps3
  go_wp2_with fail
  refine (H1.out w).mono ?_
  rintro e w1 ⟨⟨q, c, rfl, hq⟩, hb1⟩
  have HQ1 := Lib.hid hq
  have HB1 := Lib.hid hb1
  clear hb1 hq H1
  go_wp2_with fail
  refine (H2.out w1).mono ?_
  rintro e w2 ⟨⟨p, d, rfl, hp⟩, hb2⟩
  have HQ2 := Lib.hid hp
  have HB2 := Lib.hid hb2
  clear hb2 hp H2
  go_wp2_with fail
  refine (H3.out w2).mono ?_
  rintro e w3 ⟨⟨x, rfl, hx⟩, hb3⟩
  have HX3 := Lib.hid hx
  have HB3 := Lib.hid hb3
  clear hb3 hx H3
  go_wp2_with fail
  refine (H4.out w3).mono ?_
  rintro e w4 ⟨⟨y, rfl, hy⟩, hb4⟩
  have HS4 := Lib.hid (ds_start HQ1.out HB1.out HQ2.out HB2.out HX3.out HB3.out hy hb4)
  have HB4 := Lib.hid (bt (bt (bt HB1.out HB2.out) HB3.out) hb4)
  clear hb4 hy H4 HQ1 HQ2 HX3 HB1 HB2 HB3
  go_wp2_with fail
  refine (lives7_yes w4).mono ?_
  rintro e w5 ⟨rfl, hb5⟩
  have HS5 := Lib.hid (HS4.out.kept hb5)
  have HB5 := Lib.hid (bt HB4.out hb5)
  clear hb5 HS4 HB4
  go_wp2_with fail
  go_loopw [7, 9, 11, 12, 13] (fun q o x y v wr => ∃ (j : Nat) (i : Ids) (X : List Int) (cx : Bool) (Y : List Int) (cy : Bool), q = .pointer (some ⟨i.q, 0, none⟩) ∧ o = .pointer (some ⟨i.p, 0, none⟩) ∧ x = .pointer (some ⟨i.x, 0, none⟩) ∧ y = .pointer (some ⟨i.y, 0, none⟩) ∧ v = .int .i64 j ∧ j ≤ xs.length ∧ j ≤ 100 ∧ Hid (DS w.heap.size wr i (SS X cx Y cy)) ∧ Hid (Below w.heap.size w wr)) (fun _ _ _ _ v _ => xs.length - (intOf v).toNat)
  case atStart => exact ⟨0, _, _, _, _, _, rfl, rfl, rfl, rfl, rfl, Nat.zero_le _, Nat.zero_le _, HS5, HB5⟩
  case round =>
    obtain ⟨j, i, X, cx, Y, cy, rfl, rfl, rfl, rfl, rfl, hj, hj2, HS, HB⟩ := hrel
    clear HS5 HB5
    by_cases hlt : j < xs.length
    · by_cases h100 : j < 100
      · obtain ⟨b, off, hA, hb, c0, c1⟩ := (HX.out.kept HB.out).at hlt
        subst hA
        generalize xs[j] = op at c0 c1
        obtain ⟨k, z⟩ := op
        simp only at c0 c1
        have HXr := Lib.hid (HX.out.kept HB.out)
        clear hb
        go_upto_if 89 with fail
        go_cut [7, 9, 11, 12] (fun q o x y wx => ∃ (i : Ids) (X : List Int) (cx : Bool) (Y : List Int) (cy : Bool), q = .pointer (some ⟨i.q, 0, none⟩) ∧ o = .pointer (some ⟨i.p, 0, none⟩) ∧ x = .pointer (some ⟨i.x, 0, none⟩) ∧ y = .pointer (some ⟨i.y, 0, none⟩) ∧ Hid (DS w.heap.size wr i (SS X cx Y cy)) ∧ wr = wx)
        case first =>
          by_cases h6 : k = 6
          · subst h6
            go_wp2_with fail
            go_meet
            case rel => exact ⟨i.swap, Y, cy, X, cx, rfl, rfl, rfl, rfl, Lib.hid HS.out.swap, rfl⟩
          · have h6b : (k == 6) = false := by simp [h6]
            go_wp2_with fail
            go_meet
            case rel => exact ⟨i, X, cx, Y, cy, rfl, rfl, rfl, rfl, HS, rfl⟩
        case rest =>
          obtain ⟨i2, X2, cx2, Y2, cy2, rfl, rfl, rfl, rfl, HS2, rfl⟩ := hcut
          clear HS
          go_wp2_with fail
          refine (do_any HS2.out k z).mono ?_
          rintro e w6 ⟨rfl, ⟨X3, cx3, Y3, cy3, hs3⟩, hq3⟩
          have HS3 := Lib.hid hs3
          have HB3 := Lib.hid (HB.out.trans (hq3.below))
          clear hs3 hq3 HS2 HB c0 c1
          go_wp2_with fail
          refine (alike_any HS3.out).mono ?_
          rintro e w7 ⟨rfl, hb7⟩
          have HS7 := Lib.hid (HS3.out.kept hb7)
          have HB7 := Lib.hid (bt HB3.out hb7)
          clear hb7 HS3 HB3
          go_wp2_with fail
          refine (alike_any (show DS w.heap.size w7 i2.swap (SS Y3 cy3 X3 cx3) from HS7.out.swap)).mono ?_
          rintro e w8 ⟨rfl, hb8⟩
          have HS8 := Lib.hid (HS7.out.kept hb8)
          have HB8 := Lib.hid (bt HB7.out hb8)
          clear hb8 HS7 HB7
          go_wp2_with fail
          go_roundw
          case rel => exact ⟨j + 1, i2, X3, cx3, Y3, cy3, rfl, rfl, rfl, rfl, by go_num, hlt, h100, HS8, HB8⟩
          case measure => simp [intOf]; omega
      · go_wp2_with fail
        go_ret
        exact ⟨rfl, HB.out⟩
    · go_wp2_with fail
      go_ret
      exact ⟨rfl, HB.out⟩
theorem queueDoes_walk (n m : Int) (A : Option Addr) (cc : Nat) (xs : List O2) (w : World) (hx : O2At w A xs) (hl : xs.length ≤ 9223372036854775807) :
    Calls Try.prog 3 #[.int .i64 n, .int .i64 m, .slice A xs.length cc] w fun e w' => e = .returned (.bool true) ∧ Below w.heap.size w w' := by
  by_cases h : (1 ≤ n ∧ n ≤ 1024) ∧ 1 ≤ m ∧ m ≤ 1024
  · exact queueDoes_in n m A cc xs w hx h.1 h.2
  · exact queueDoes_out n m A cc xs w hl (by omega)
end Go.Proofs.Ythimgldohhaimaa
