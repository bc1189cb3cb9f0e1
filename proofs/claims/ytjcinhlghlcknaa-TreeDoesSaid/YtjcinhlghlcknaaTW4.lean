/-
  The walk of TreeDoes.
-/
import Derived.Test.YtjcinhlghlcknaaTrk
import Derived.Test.YtjcinhlghlcknaaTO
namespace Go.Proofs.Ytjcinhlghlcknaa
open Go.RowKit

theorem info_leafT : (Try.prog.info? 36).map (fun i => (i.zero, i.size, i.bytes)) = some (some (.agg #[.int .i64 0, .int .i64 0, .bool false]), 3, 24) := by kernel_rfl
theorem lfC_len (L : List Lf) : (lfC L).length = L.length * 3 := by
  induction L with
  | nil => rfl
  | cons l L ih => simp only [lfC, List.flatMap_cons, List.length_append] at ih ⊢; simp [ih]; omega
theorem made_leaves (n : Nat) : madeCells #[.int .i64 0, .int .i64 0, .bool false] (n * 3) = (lfC (List.replicate n noLf)).toArray := by
  apply Array.ext'
  apply List.ext_getElem?
  intro o
  by_cases ho : o < n * 3
  · have hq : (List.replicate n noLf).getD (o / 3) noLf = noLf := by
      simp only [List.getD_eq_getElem?_getD, List.getElem?_replicate]
      split <;> rfl
    have hg := lfC_get (List.replicate n noLf) (o / 3) (by simp; omega)
    rw [hq] at hg
    obtain ⟨a, b, c⟩ := hg
    have e1 : (madeCells #[.int .i64 0, .int .i64 0, .bool false] (n * 3)).toList[o]? = some (#[Value.int .i64 0, .int .i64 0, .bool false][o % 3]!) := by
      simp [madeCells, ho]
    rw [e1]
    show _ = (lfC _)[o]?
    have hm : o % 3 = 0 ∨ o % 3 = 1 ∨ o % 3 = 2 := by omega
    rcases hm with hm | hm | hm
    · rw [hm, show o = o / 3 * 3 by omega, a]; rfl
    · rw [hm, show o = o / 3 * 3 + 1 by omega, b]; rfl
    · rw [hm, show o = o / 3 * 3 + 2 by omega, c]; rfl
  · rw [List.getElem?_eq_none (by simp [size_madeCells]; omega), List.getElem?_eq_none]
    show (lfC _).length ≤ o
    rw [lfC_len]; simp; omega
theorem make_leaves (n : Nat) (hn : n ≤ 64) (w : World) : (Instr.makeSlice 31 (.int .i64 n) (.int .i64 n)).run Try.prog w =
    .ok (.slice (some ⟨w.heap.size, 0, none⟩) n n) (w.alloc (.cells (lfC (List.replicate n noLf)).toArray 36)) := by
  obtain ⟨i0, hi, hz0, hz1, hz2⟩ := info_parts info_leafT
  have h := run_make (P := Try.prog) w 31 36 i0 _ Try.underlying31 hi hz0 .i64 .i64 n n (by omega) (Int.le_refl _) (by rw [hz2]; omega) (by omega)
  rw [hz1] at h
  simp only [Int.toNat_natCast] at h
  have e : madeCells (Value.agg #[.int .i64 0, .int .i64 0, .bool false]).cells (n * 3) = (lfC (List.replicate n noLf)).toArray := made_leaves n
  rw [e] at h
  exact h
/-- Both in memory: the tree, and the document's own leaves. -/
structure DoS (B : Nat) (w0 w : World) (t a b X N M s : Nat) (L : List Lf) : Prop where
  tr : T8 plainO B w t a b L M s 0
  x : XlAt w X L
  below : Below B w0 w
  lo : B ≤ X
  len : L.length = N
def OpBx (w : World) (Y : Nat) (k l p q : Int) : Prop := w.heap[Y]? = some (.cells #[.int .i64 k, .int .i64 l, .int .i64 p, .int .i64 q] 33 (0, 0))
section
variable {B : Nat} {w0 w w1 : World} {t a b X N M s : Nat} {L : List Lf}
theorem DoS.kept (h : DoS B w0 w t a b X N M s L) (hb : Below w.heap.size w w1) : DoS B w0 w1 t a b X N M s L :=
  ⟨h.tr.kept plainO_ok hb, h.x.kept hb, h.below.trans (hb.mono h.tr.lt), h.lo, h.len⟩
theorem OpBx.c {Y : Nat} {k l p q : Int} (h : OpBx w Y k l p q) : w.cell? ⟨Y, 0, none⟩ = some (.int .i64 k) ∧ w.cell? ⟨Y, 1, none⟩ = some (.int .i64 l) ∧ w.cell? ⟨Y, 2, none⟩ = some (.int .i64 p) ∧ w.cell? ⟨Y, 3, none⟩ = some (.int .i64 q) := by
  unfold OpBx at h
  exact ⟨by simp only [World.cell?, h]; rfl, by simp only [World.cell?, h]; rfl, by simp only [World.cell?, h]; rfl, by simp only [World.cell?, h]; rfl⟩
/-- A call of the tree has turned its own blocks alone. -/
theorem DoS.turn (h : DoS B w0 w t a b X N M s L) (ho : Ofs (TS plainO a b) w w1) {Y : Nat} {k l p q : Int} (hY : OpBx w Y k l p q) : XlAt w1 X L ∧ Below B w0 w1 ∧ OpBx w1 Y k l p q := by
  obtain ⟨W, hT, _⟩ := h.tr.at'
  have hlo := h.tr.lo
  have hx := h.x
  have hy := hY
  unfold XlAt at hx
  unfold OpBx at hy
  refine ⟨(ho.block X (block_ltT hx) (fun hk => ?_)).trans hx, h.below.trans (ho.belowT hlo.2.1 hlo.2.2 h.tr.lt), (ho.block Y (block_ltT hy) (fun hk => ?_)).trans hy⟩
  · rcases hk with rfl | rfl | hk
    · rw [hT.things] at hx; simp at hx
    · rw [hT.wins] at hx; simp at hx
    · exact hk
  · rcases hk with rfl | rfl | hk
    · rw [hT.things] at hy; simp at hy
    · rw [hT.wins] at hy; simp at hy
    · exact hk
theorem DoS.put {L' : List Lf} (ht : T8 plainO B w t a b L' M s 0) (hx : XlAt w X L) (hb : Below B w0 w) (hlo : B ≤ X) (hl : L.length = N) (i : Nat) (l : Lf) (he : L' = L.set i l) {Y : Nat} {k u p q : Int} (hY : OpBx w Y k u p q) :
    DoS B w0 (((w.setCell ⟨X, i * 3, none⟩ (.int .i64 l.k)).setCell ⟨X, i * 3 + 1, none⟩ (.int .i64 l.t)).setCell ⟨X, i * 3 + 2, none⟩ (.bool l.b)) t a b X N M s L' ∧
    OpBx (((w.setCell ⟨X, i * 3, none⟩ (.int .i64 l.k)).setCell ⟨X, i * 3 + 1, none⟩ (.int .i64 l.t)).setCell ⟨X, i * 3 + 2, none⟩ (.bool l.b)) Y k u p q := by
  subst he
  obtain ⟨W, hT, hw⟩ := ht.at'
  have hx0 := hx
  unfold XlAt at hx0
  unfold OpBx at hY ⊢
  have hso : ∀ q, X ≠ q → (((w.setCell ⟨X, i * 3, none⟩ (.int .i64 l.k)).setCell ⟨X, i * 3 + 1, none⟩ (.int .i64 l.t)).setCell ⟨X, i * 3 + 2, none⟩ (.bool l.b)).heap[q]? = w.heap[q]? := fun q hq => by
    simp [World.setCell, Array.getElem?_modify, hq]
  have n1 : X ≠ t := fun e => by rw [e, hT.box] at hx0; simp at hx0
  have n2 : X ≠ a := fun e => by rw [e, hT.things] at hx0; simp at hx0
  have n3 : X ≠ b := fun e => by rw [e, hT.wins] at hx0; simp at hx0
  have n4 : X ≠ Y := fun e => by rw [e, hY] at hx0; simp at hx0
  exact ⟨⟨⟨⟨W, hT.same (hso t n1) (hso a n2) (hso b n3), hw⟩, Int.le_refl _, ht.z, ht.m, ht.s6⟩, hx.put i l, ((hb.setCell hlo _).setCell hlo _).setCell hlo _, hlo, by rw [List.length_set]; exact hl⟩, (hso Y n4).trans hY⟩
end
set_option maxRecDepth 100000 in
set_option maxHeartbeats 4000000 in
theorem treeDoes_out (n : Int) (hn : n < 1 ∨ 64 < n) (A : Option Addr) (cc N : Nat) (w : World) :
    Calls Try.prog 3 #[.int .i64 n, .slice A N cc] w fun e w' => e = .returned (.bool true) ∧ Below w.heap.size w w' := by
  have HNew := Lib.hid (new_out (w := w) (ov := ovP) hn)
  rcases hn with hn | hn
  · have hn2 : ¬ 1 ≤ n := by omega
    go_enter Try.func3, Try.ntmps3
    go_wp2_with fail
    refine HNew.out.mono ?_
    rintro e wx ⟨rfl, rfl⟩
    go_wp2_with fail
    refine (lives8_yes w).mono ?_
    rintro e w1 ⟨rfl, hb⟩
    have HB := Lib.hid hb
    clear hb
    go_wp2_with fail
    go_ret
    exact ⟨rfl, HB.out⟩
  · have hn2 : 1 ≤ n := by omega
    have hn3 : decide (n ≤ 64) = false := by simp; omega
    go_enter Try.func3, Try.ntmps3
    go_wp2_with fail
    refine HNew.out.mono ?_
    rintro e wx ⟨rfl, rfl⟩
    go_wp2_with fail
    refine (lives8_yes w).mono ?_
    rintro e w1 ⟨rfl, hb⟩
    have HB := Lib.hid hb
    clear hb
    go_wp2_with fail
    go_ret
    exact ⟨rfl, HB.out⟩
set_option maxRecDepth 100000 in
set_option maxHeartbeats 16000000 in
theorem treeDoes_in (n : Nat) (h1 : 1 ≤ n) (h2 : n ≤ 64) (A : Option Addr) (cc : Nat) (xs : List O8) (w : World) (hx : O8At w A xs) (hl0 : xs.length ≤ 9223372036854775807) :
    Calls Try.prog 3 #[.int .i64 n, .slice A xs.length cc] w fun e w' => e = .returned (.bool true) ∧ Below w.heap.size w w' := by
  have hl := hl0
  have HNew := Lib.hid (new_in plainO_ok (c := 0) (w := w) (Int.le_refl _) (show plainO.ov = .func (.func 9) #[] #[] from rfl) h1 h2)
  have hmk := make_leaves n h2
  have HX := Lib.hid hx
  obtain ⟨N, hN⟩ : ∃ N, N = xs.length := ⟨_, rfl⟩
  rw [← hN] at hl ⊢
  have HN := Lib.hid hN
  have n1 : (1 : Int) ≤ (n : Int) := by omega
  have n2 : (n : Int) ≤ 64 := by omega
  clear hx hN
  go_enter Try.func3, Try.ntmps3
  go_wp2_with fail
  refine HNew.out.mono ?_
  rintro e w1 ⟨t, a, b, rfl, ht, hb1⟩
  have HT1 := Lib.hid ht
  have HB1 := Lib.hid hb1
  clear ht hb1 HNew
  go_wp2_with fail
  refine (lives8_yes w1).mono ?_
  rintro e w2 ⟨rfl, hb2⟩
  have hb3 := bt hb2 (ba w2 (.cells (lfC (List.replicate n noLf)).toArray 36))
  have HD := Lib.hid (show DoS w.heap.size w (w2.alloc (.cells (lfC (List.replicate n noLf)).toArray 36)) t a b w2.heap.size n (2 ^ stpT n) (stpT n) (List.replicate n noLf) from
    ⟨HT1.out.kept plainO_ok hb3, (MapKept.heap_alloc w2 _).1, bt HB1.out hb3, by have := HB1.out.size; have := hb2.size; omega, by simp⟩)
  clear hb2 hb3 HT1 HB1
  generalize 2 ^ stpT n = M at HD
  generalize stpT n = s at HD
  go_wp2_with fail
  generalize w2.alloc (.cells (lfC (List.replicate n noLf)).toArray 36) = w3 at HD ⊢
  generalize w2.heap.size = X at HD ⊢
  clear hmk
  go_loopw [9] (fun jj wr => ∃ (j : Nat) (L : List Lf), jj = .int .i64 j ∧ j ≤ N ∧ j ≤ 120 ∧ Hid (DoS w.heap.size w wr t a b X n M s L)) (fun jj _ => N - (intOf jj).toNat)
  case atStart => exact ⟨0, _, rfl, Nat.zero_le _, Nat.zero_le _, HD⟩
  case round =>
    clear HD
    obtain ⟨j, L, rfl, hj, hj2, HD⟩ := hrel
    by_cases hlt : j < N
    · by_cases h120 : j < 120
      · have hjx : j < xs.length := by have := HN.out; omega
        have hjI : (j : Int) < 120 := by omega
        obtain ⟨bb, off, rfl, _, c0, c1, c2, c3⟩ := (HX.out.kept HD.out.below).at hjx
        have HLen := Lib.hid HD.out.len
        generalize xs[j] = op at c0 c1 c2 c3
        obtain ⟨k, l, p, q⟩ := op
        simp only at c0 c1 c2 c3
        have hb4 := ba wr (.cells #[.int .i64 k, .int .i64 l, .int .i64 p, .int .i64 q] 33)
        have HD4 := Lib.hid (HD.out.kept hb4)
        have HY4 := Lib.hid (show OpBx (wr.alloc (.cells #[.int .i64 k, .int .i64 l, .int .i64 p, .int .i64 q] 33)) wr.heap.size k l p q from (MapKept.heap_alloc wr _).1)
        clear hb4 hjx
        go_upto_region 12 with fail
        generalize wr.alloc (.cells #[.int .i64 k, .int .i64 l, .int .i64 p, .int .i64 q] 33) = w4 at HD4 HY4 ⊢
        generalize wr.heap.size = Y at HY4 ⊢
        obtain ⟨d0, d1, d2, d3⟩ := HY4.out.c
        clear c0 c1 c2 c3 HD
        by_cases hrg : l < 0 ∨ (n : Int) ≤ l
        · by_cases hk1 : k = 1
          · subst hk1
            have HSe := Lib.hid (set_out HD4.out.tr (i := l) (by rw [HLen.out]; exact hrg) p q)
            rcases hrg with hrg | hrg
            all_goals
              go_wp2_with fail
              refine HSe.out.mono ?_
              rintro e w5 ⟨rfl, hb5⟩
              have HD5 := Lib.hid (HD4.out.kept hb5)
              have hy5 := (hb5.block Y (block_ltT HY4.out)).trans HY4.out
              obtain ⟨e0, e1, e2, e3⟩ := OpBx.c hy5
              clear hb5 hy5 d0 d1 d2 d3
              have HA := Lib.hid (alike_any HD5.out.tr HD5.out.x (cp := n) l)
              rw [HD5.out.len] at HA
              go_wp2_with fail
              refine HA.out.mono ?_
              rintro e w7 ⟨rfl, hb7⟩
              have HD7 := Lib.hid (HD5.out.kept hb7)
              clear hb7 HA
              go_wp2_with fail
              go_roundw
              case rel => exact ⟨j + 1, _, by go_num, hlt, h120, HD7⟩
              case measure => simp [intOf]; omega
          · by_cases hk2 : k = 2
            · subst hk2
              have HSe := Lib.hid (clear_out HD4.out.tr (i := l) (by rw [HLen.out]; exact hrg))
              rcases hrg with hrg | hrg
              all_goals
                go_wp2_with fail
                refine HSe.out.mono ?_
                rintro e w5 ⟨rfl, rfl⟩
                have HA := Lib.hid (alike_any HD4.out.tr HD4.out.x (cp := n) l)
                rw [HD4.out.len] at HA
                go_wp2_with fail
                refine HA.out.mono ?_
                rintro e w7 ⟨rfl, hb7⟩
                have HD7 := Lib.hid (HD4.out.kept hb7)
                clear hb7 HA
                go_wp2_with fail
                go_roundw
                case rel => exact ⟨j + 1, _, by go_num, hlt, h120, HD7⟩
                case measure => simp [intOf]; omega
            · have hk1b : (k == 1) = false := by simp [hk1]
              have hk2b : (k == 2) = false := by simp [hk2]
              rcases hrg with hrg | hrg
              all_goals
                have HA := Lib.hid (alike_any HD4.out.tr HD4.out.x (cp := n) l)
                rw [HD4.out.len] at HA
                go_wp2_with fail
                refine HA.out.mono ?_
                rintro e w7 ⟨rfl, hb7⟩
                have HD7 := Lib.hid (HD4.out.kept hb7)
                clear hb7 HA
                go_wp2_with fail
                go_roundw
                case rel => exact ⟨j + 1, _, by go_num, hlt, h120, HD7⟩
                case measure => simp [intOf]; omega
        · obtain ⟨i, rfl⟩ : ∃ i : Nat, l = i := ⟨_, (Int.toNat_of_nonneg (by omega)).symm⟩
          have hin : i < n := by omega
          have hinI : (i : Int) < (n : Int) := by omega
          have hr1 : ¬ (i : Int) < 0 := by omega
          have hr2 : ¬ (n : Int) ≤ (i : Int) := by omega
          clear hrg
          by_cases hk1 : k = 1
          · subst hk1
            have HSe := Lib.hid (set_in plainO_ok HD4.out.tr (by omega) (i := i) (by have := HLen.out; omega) p q)
            go_wp2_with fail
            refine HSe.out.mono ?_
            rintro e w5 ⟨rfl, ho5, c5, ht5, _, _⟩
            obtain ⟨hx5, hb5, hy5⟩ := HD4.out.turn ho5 HY4.out
            have HP := Lib.hid (DoS.put ht5.zero hx5 hb5 HD4.out.lo HD4.out.len i ⟨p, q, true⟩ rfl hy5)
            obtain ⟨e0, e1, e2, e3⟩ := hy5.c
            obtain ⟨z0, z1, z2⟩ := hx5.at (i := i) (by have := HLen.out; omega)
            have zf0 := hx5.fz (i * 3)
            have zf1 := hx5.fz (i * 3 + 1)
            have zf2 := hx5.fz (i * 3 + 2)
            clear ho5 ht5 hx5 hb5 hy5 HSe HD4 HY4 d0 d1 d2 d3
            go_upto_region 25 with fail
            generalize ((w5.setCell ⟨X, i * 3, none⟩ (.int .i64 p)).setCell ⟨X, i * 3 + 1, none⟩ (.int .i64 q)).setCell ⟨X, i * 3 + 2, none⟩ (.bool true) = w6 at HP ⊢
            obtain ⟨g0, g1, g2, g3⟩ := HP.out.2.c
            have HD6 := Lib.hid HP.out.1
            clear HP e0 e1 e2 e3 z0 z1 z2 zf0 zf1 zf2
            have HA := Lib.hid (alike_any HD6.out.tr HD6.out.x (cp := n) i)
            rw [HD6.out.len] at HA
            go_wp2_with fail
            refine HA.out.mono ?_
            rintro e w7 ⟨rfl, hb7⟩
            have HD7 := Lib.hid (HD6.out.kept hb7)
            clear hb7 HA
            go_wp2_with fail
            go_roundw
            case rel => exact ⟨j + 1, _, by go_num, hlt, h120, HD7⟩
            case measure => simp [intOf]; omega
          · by_cases hk2 : k = 2
            · subst hk2
              have HSe := Lib.hid (clear_in plainO_ok HD4.out.tr (by omega) (i := i) (by have := HLen.out; omega))
              go_wp2_with fail
              refine HSe.out.mono ?_
              rintro e w5 ⟨rfl, ho5, c5, ht5, _, _⟩
              obtain ⟨hx5, hb5, hy5⟩ := HD4.out.turn ho5 HY4.out
              have HP := Lib.hid (DoS.put ht5.zero hx5 hb5 HD4.out.lo HD4.out.len i noLf rfl hy5)
              unfold noLf at HP
              simp only at HP
              obtain ⟨e0, e1, e2, e3⟩ := hy5.c
              obtain ⟨z0, z1, z2⟩ := hx5.at (i := i) (by have := HLen.out; omega)
              have zf0 := hx5.fz (i * 3)
              have zf1 := hx5.fz (i * 3 + 1)
              have zf2 := hx5.fz (i * 3 + 2)
              clear ho5 ht5 hx5 hb5 hy5 HSe HD4 HY4 d0 d1 d2 d3
              go_upto_region 25 with fail
              generalize ((w5.setCell ⟨X, i * 3, none⟩ (.int .i64 0)).setCell ⟨X, i * 3 + 1, none⟩ (.int .i64 0)).setCell ⟨X, i * 3 + 2, none⟩ (.bool false) = w6 at HP ⊢
              obtain ⟨g0, g1, g2, g3⟩ := HP.out.2.c
              have HD6 := Lib.hid HP.out.1
              clear HP e0 e1 e2 e3 z0 z1 z2 zf0 zf1 zf2
              have HA := Lib.hid (alike_any HD6.out.tr HD6.out.x (cp := n) i)
              rw [HD6.out.len] at HA
              go_wp2_with fail
              refine HA.out.mono ?_
              rintro e w7 ⟨rfl, hb7⟩
              have HD7 := Lib.hid (HD6.out.kept hb7)
              clear hb7 HA
              go_wp2_with fail
              go_roundw
              case rel => exact ⟨j + 1, _, by go_num, hlt, h120, HD7⟩
              case measure => simp [intOf]; omega
            · have hk1b : (k == 1) = false := by simp [hk1]
              have hk2b : (k == 2) = false := by simp [hk2]
              have HA := Lib.hid (alike_any HD4.out.tr HD4.out.x (cp := n) i)
              rw [HD4.out.len] at HA
              go_wp2_with fail
              refine HA.out.mono ?_
              rintro e w7 ⟨rfl, hb7⟩
              have HD7 := Lib.hid (HD4.out.kept hb7)
              clear hb7 HA
              go_wp2_with fail
              go_roundw
              case rel => exact ⟨j + 1, _, by go_num, hlt, h120, HD7⟩
              case measure => simp [intOf]; omega
      · have h120I : ¬ (j : Int) < 120 := by omega
        go_wp2_with fail
        go_ret
        exact ⟨rfl, HD.out.below⟩
    · go_wp2_with fail
      go_ret
      exact ⟨rfl, HD.out.below⟩
theorem treeDoes_walk (A : Option Addr) (cc : Nat) (xs : List O8) (n : Int) (w : World) (hx : O8At w A xs) (hl : xs.length ≤ 9223372036854775807) :
    Calls Try.prog 3 #[.int .i64 n, .slice A xs.length cc] w fun e w' => e = .returned (.bool true) ∧ Below w.heap.size w w' := by
  by_cases h : n < 1 ∨ 64 < n
  · exact treeDoes_out n h A cc xs.length w
  · obtain ⟨m, rfl⟩ : ∃ m : Nat, n = m := ⟨_, (Int.toNat_of_nonneg (by omega)).symm⟩
    exact treeDoes_in m (by omega) (by omega) A cc xs w hx hl
end Go.Proofs.Ytjcinhlghlcknaa
