/-
  The walk of LedgerHolds.
-/
import Derived.Test.YthfopabefknlkabLdn
import Derived.Deep.CutRange
import Derived.Deep.DeepCutAuto
import Derived.Deep.CutBlock
import Derived.Deep.RegionHeld3
namespace Go.Proofs.Ythfopabefknlkab
open Go.RowKit Go.Maps Go.Sort

/-- A list of numbers of the call's own, as it is read. -/
def IntsL (w : World) (A : Option Addr) (l : List Int) : Prop :=
  l = [] ∨ ∃ b off : Nat, A = some ⟨b, off, none⟩ ∧ b < w.heap.size ∧ ∀ (i : Nat) (v : Int), l[i]? = some v → w.cell? ⟨b, off + i, none⟩ = some (.int .i64 v)
theorem IntsL.kept {w w' : World} {A : Option Addr} {xs : List Int} (h : IntsL w A xs) (hb : Below w.heap.size w w') : IntsL w' A xs := by
  rcases h with h | ⟨b, off, hA, hlt, hc⟩
  · exact .inl h
  · exact .inr ⟨b, off, hA, Nat.lt_of_lt_of_le hlt hb.size, fun i v hv => (hb.cell (p := ⟨b, _, none⟩) hlt).trans (hc i v hv)⟩
theorem IntsL.at {w : World} {A : Option Addr} {xs : List Int} (h : IntsL w A xs) {i : Nat} (hi : i < xs.length) :
    ∃ b off : Nat, A = some ⟨b, off, none⟩ ∧ b < w.heap.size ∧ w.cell? ⟨b, off + i, none⟩ = some (.int .i64 xs[i]) := by
  rcases h with h | ⟨b, off, hA, hlt, hc⟩
  · subst h; simp at hi
  · exact ⟨b, off, hA, hlt, hc i _ (List.getElem?_eq_getElem hi)⟩
theorem ints_of_own {w : World} {base n : Nat} {e : TypeId} {v : Value} {l : List Int} (h : w.ownsRow base e 1 v n (l.map (Value.int .i64))) : ∃ A c, v = .slice A l.length c ∧ IntsL w A l := by
  have hl := h.1
  rw [List.length_map, Nat.mul_one] at hl
  rcases h.2 with ⟨hv, hn⟩ | ⟨g, cap, cur, hv, hb, hg, _, _, _, ht⟩
  · have : l = [] := List.eq_nil_of_length_eq_zero (by omega)
    subst this
    exact ⟨none, 0, hv, .inl rfl⟩
  · refine ⟨some ⟨g, 0, none⟩, cap, by rw [hl]; exact hv, .inr ⟨g, 0, rfl, block_lt hg, fun i v hi => ?_⟩⟩
    have hil : i < l.length := (List.getElem?_eq_some_iff.1 hi).1
    have hu : (l.map (Value.int .i64))[i]? = some (.int .i64 v) := by rw [List.getElem?_map, hi]; rfl
    rw [← ht, List.getElem?_take_of_lt (by omega), Array.getElem?_toList] at hu
    rw [Nat.zero_add]
    simp [World.cell?, hg, hu]

/-- What the first accounts of a list hold. -/
def part (L : List Ac) (ys : List Int) (k : Nat) : Int := ((ys.take k).map fun y => fieldOf Ac.h (acOf L y)).sum
theorem part_zero (L : List Ac) (ys : List Int) : part L ys 0 = 0 := by simp [part]
theorem part_succ (L : List Ac) (ys : List Int) (k : Nat) (hk : k < ys.length) : part L ys (k + 1) = part L ys k + fieldOf Ac.h (acOf L ys[k]) := by
  unfold part
  rw [List.take_succ_eq_append_getElem hk, List.map_append, List.sum_append]
  simp
theorem part_all (L : List Ac) (ys : List Int) (k : Nat) (hk : ys.length ≤ k) : part L ys k = (ys.map fun y => fieldOf Ac.h (acOf L y)).sum := by
  unfold part; rw [List.take_of_length_le hk]

set_option maxRecDepth 100000 in
set_option maxHeartbeats 1000000 in
theorem ledgerHolds_out (A : Option Addr) (c : Nat) (xs : List O3) (G : Int) (w : World) (h : G < 0 ∨ 16384 < G) :
    Calls Try.prog 3 #[.int .i64 G, .slice A xs.length c] w fun e w' => e = .returned (.bool true) ∧ Below w.heap.size w w' := by
  have HN := Lib.hid (st_nonew G h w)
  clear h
  go_enter Try.func3, Try.ntmps3
  go_wp2_with fail
  refine HN.out.mono ?_
  rintro e w1 ⟨rfl, hb1⟩
  have HB1 := Lib.hid hb1
  clear hb1
  go_wp2_with fail
  refine (lives6_yes w1).mono ?_
  rintro e w2 ⟨rfl, hb2⟩
  have HB2 := Lib.hid (bt HB1.out hb2)
  clear hb2
  go_wp2_with fail
  refine (lives6_yes w2).mono ?_
  rintro e w3 ⟨rfl, hb3⟩
  have HB3 := Lib.hid (bt HB2.out hb3)
  clear hb3
  go_wp2_with fail
  go_ret
  exact ⟨rfl, HB3.out⟩

set_option maxRecDepth 100000 in
set_option maxHeartbeats 8000000 in
theorem ledgerHolds_in (A : Option Addr) (c : Nat) (xs : List O3) (G : Int) (w : World) (hx : O3At w A xs) (hw : Wide xs) (hl : xs.length ≤ 9223372036854775807) (g0 : 0 ≤ G) (g1 : G ≤ 16384) :
    Calls Try.prog 3 #[.int .i64 G, .slice A xs.length c] w fun e w' => e = .returned (.bool true) ∧ Below w.heap.size w w' := by
  have HN := Lib.hid (st_new G g0 g1 w)
  have HX := Lib.hid hx
  have HW := Lib.hid hw
  clear hx hw
  go_enter Try.func3, Try.ntmps3
  go_wp2_with fail
  refine HN.out.mono ?_
  rintro e w1 ⟨⟨l, m, rfl, h1⟩, hb1⟩
  have HS1 := Lib.hid h1
  have HB1 := Lib.hid hb1
  clear h1 hb1 HN
  go_wp2_with fail
  refine (lives6_yes w1).mono ?_
  rintro e w2 ⟨rfl, hb2⟩
  have HS2 := Lib.hid (HS1.out.kept hb2)
  have HB2 := Lib.hid (bt HB1.out hb2)
  clear hb2 HS1 HB1
  go_wp2_with fail
  go_loopw [7] (fun v wr => ∃ i : Nat, v = .int .i64 i ∧ i ≤ xs.length ∧ i ≤ 100 ∧ Hid (St w.heap.size wr l m G i) ∧ Hid (Below w.heap.size w wr)) (fun v _ => xs.length - (intOf v).toNat)
  case atStart => exact ⟨0, rfl, Nat.zero_le _, by omega, HS2, HB2⟩
  case round =>
    obtain ⟨i, rfl, hi, hi2, HS, HB⟩ := hrel
    clear HS2 HB2
    by_cases hlt : i < xs.length
    · by_cases h100 : i < 100
      · have HXr := HX.out.kept HB.out
        obtain ⟨b, off, hA, hb, c0, c1, c2⟩ := HXr.at hlt
        have HWi := Lib.hid (HW.out _ (List.getElem_mem hlt))
        subst hA
        generalize xs[i] = o at c0 c1 c2 HWi
        obtain ⟨k, n, p⟩ := o
        go_upto_block 2 with fail
        generalize hR : wr.heap.size = R
        have HR := Lib.hid hR
        clear hR
        go_cut [] (fun wx => Hid (St w.heap.size wx l m G (i + 1)) ∧ Hid (Below w.heap.size w wx))
        case first =>
          have HB1 := Lib.hid (bt HB.out (ba wr (.cells #[.int .i64 k, .int .i64 n, .int .i64 p] 29)))
          have HS1 := Lib.hid (HS.out.kept (ba wr (.cells #[.int .i64 k, .int .i64 n, .int .i64 p] 29)))
          have hbx : (wr.alloc (.cells #[.int .i64 k, .int .i64 n, .int .i64 p] 29)).heap[wr.heap.size]? = some (.cells #[.int .i64 k, .int .i64 n, .int .i64 p] 29 (0, 0)) := (MapKept.heap_alloc wr _).1
          simp only at HWi
          have HWn := Lib.hid HWi.out.2.1
          clear HWi HXr c0 c1 c2 HS HB hb
          generalize wr.alloc (.cells #[.int .i64 k, .int .i64 n, .int .i64 p] 29) = W at HB1 HS1 hbx ⊢
          rw [HR.out] at hbx
          have x1 : W.cell? ⟨R, 1, none⟩ = some (.int .i64 n) := by simp only [World.cell?, hbx]; rfl
          have x2 : W.cell? ⟨R, 2, none⟩ = some (.int .i64 p) := by simp only [World.cell?, hbx]; rfl
          clear hbx
          by_cases k1 : k = 1
          · subst k1
            go_wp2_with fail
            refine (st_open HS1.out (by omega) HWn.out).mono ?_
            rintro e w3 ⟨⟨x, y, rfl⟩, h3, hb3⟩
            have HS3 := Lib.hid h3
            have HB3 := Lib.hid (HB1.out.trans hb3)
            clear h3 hb3 x1 x2
            go_wp2_with fail
            go_meet
            case rel => exact ⟨HS3, HB3⟩
          by_cases k2 : k = 2
          · subst k2
            go_wp2_with fail
            refine (st_close HS1.out HWn.out).mono ?_
            rintro e w3 ⟨⟨x, rfl⟩, h3, hb3⟩
            have HS3 := Lib.hid h3
            have HB3 := Lib.hid (HB1.out.trans hb3)
            clear h3 hb3 x1 x2
            go_wp2_with fail
            go_meet
            case rel => exact ⟨HS3, HB3⟩
          by_cases k3 : k = 3
          · subst k3
            go_wp2_with fail
            refine (st_take HS1.out HWn.out).mono ?_
            rintro e w3 ⟨⟨x, rfl⟩, h3, hb3⟩
            have HS3 := Lib.hid h3
            have HB3 := Lib.hid (HB1.out.trans hb3)
            clear h3 hb3 x1 x2
            go_wp2_with fail
            go_meet
            case rel => exact ⟨HS3, HB3⟩
          by_cases k4 : k = 4
          · subst k4
            go_wp2_with fail
            refine (st_give HS1.out HWn.out).mono ?_
            rintro e w3 ⟨⟨x, rfl⟩, h3, hb3⟩
            have HS3 := Lib.hid h3
            have HB3 := Lib.hid (HB1.out.trans hb3)
            clear h3 hb3 x1 x2
            go_wp2_with fail
            go_meet
            case rel => exact ⟨HS3, HB3⟩
          have HS3 := Lib.hid HS1.out.next
          go_wp2_with fail
          go_meet
          case rel => exact ⟨HS3, HB1⟩
        case rest =>
          obtain ⟨HS3, HB3⟩ := hcut
          clear HXr c0 c1 c2 HWi HS HB hb
          obtain ⟨L, last, most, hL, hG, hl0, hl1⟩ := HS3.out
          have HL3 := Lib.hid hL
          have HG := Lib.hid hG
          have HLa := Lib.hid (And.intro hl0 hl1)
          clear hL hG hl0 hl1 HS3
          go_wp2_with fail
          refine (accounts_any l m L last most _ HL3.out.at_ HL3.out.sane).mono ?_
          rintro e w4 ⟨⟨v, ys, rfl, hp, _, ho⟩, hb4⟩
          have HL4 := Lib.hid (HL3.out.kept hb4)
          have HB4 := Lib.hid (bt HB3.out hb4)
          obtain ⟨Av, cv, rfl, hys⟩ := ints_of_own ho
          have HY := Lib.hid hys
          have HP := Lib.hid hp
          have hyl : ys.length ≤ 1000 := by rw [hp.length_eq, List.length_map]; exact HL3.out.sane.len
          clear hp ho hb4 hys
          go_wp2_with fail
          go_loopw [10, 11] (fun s k wx => ∃ (j : Nat) (q : Int), s = .int .i64 q ∧ k = .int .i64 j ∧ j ≤ ys.length ∧ 0 ≤ q ∧ q ≤ 16384 * j ∧ Hid (q = part L ys j) ∧ Hid (Led w.heap.size wx l m L last most) ∧ Hid (Below w.heap.size w wx) ∧ Hid (IntsL wx Av ys)) (fun _ k _ => ys.length - (intOf k).toNat)
          case atStart => exact ⟨0, 0, rfl, rfl, Nat.zero_le _, by omega, by omega, Lib.hid (part_zero L ys).symm, HL4, HB4, HY⟩
          case round =>
            obtain ⟨j, q, rfl, rfl, hj, q0, q1, HQ, HLx, HBx, HYx⟩ := hrel
            clear HL4 HB4 HY HL3 HB3
            by_cases hjl : j < ys.length
            · obtain ⟨b', off', hA', hbb, dx⟩ := HYx.out.at hjl
              have HPs := Lib.hid (part_succ L ys j hjl)
              obtain ⟨vh, vg, vp, hT⟩ := told_of HLx.out HG.out (HP.out.mem_iff.1 (List.getElem_mem hjl))
              have HT := Lib.hid hT
              have hj1000 : (j : Int) < 1000 := by omega
              have t1 := hT.1.h0
              have t2 := hT.1.hg
              have t3 := hT.1.pg
              have t4 := hT.1.left
              have t5 := hT.1.small
              have HTl := Lib.hid (show ∃ x, x = leftOf L ys[j] from ⟨_, rfl⟩)
              obtain ⟨lf, hlf⟩ := HTl.out
              rw [← hlf] at t4
              have HLft := Lib.hid hlf
              subst hA'
              generalize ys[j] = y at dx HPs HT HLft
              clear hT hlf HTl
              go_wp2_with fail
              refine (held_any l m L last most y _ HLx.out.at_ HT.out.2).mono ?_
              rintro e wz ⟨rfl, hbz⟩
              have HLz := Lib.hid (HLx.out.kept hbz)
              have HBz := Lib.hid (bt HBx.out hbz)
              have HYz := Lib.hid (HYx.out.kept hbz)
              have dz := (hbz.cell (p := ⟨b', _, none⟩) (hbb)).trans dx
              have ez := Nat.lt_of_lt_of_le hbb hbz.size
              rw [← HT.out.1.held]
              clear hbz dx HLx HBx HYx
              have HZh := Lib.hid (fun (W : World) (hW : Below wz.heap.size wz W) => (held_any l m L last most y W (HLz.out.kept hW).at_ HT.out.2).mono (fun e w' (hq : _ ∧ _) => (show e = .returned (.int .i64 vh) ∧ Below wz.heap.size wz w' from ⟨by rw [hq.1, ← HT.out.1.held], bt hW hq.2⟩)))
              have HZg := Lib.hid (fun (W : World) (hW : Below wz.heap.size wz W) => (grant_any l m L last most y W (HLz.out.kept hW).at_ HT.out.2).mono (fun e w' (hq : _ ∧ _) => (show e = .returned (.int .i64 vg) ∧ Below wz.heap.size wz w' from ⟨by rw [hq.1, ← HT.out.1.grant], bt hW hq.2⟩)))
              have HZp := Lib.hid (fun (W : World) (hW : Below wz.heap.size wz W) => (peak_any l m L last most y W (HLz.out.kept hW).at_ HT.out.2).mono (fun e w' (hq : _ ∧ _) => (show e = .returned (.int .i64 vp) ∧ Below wz.heap.size wz w' from ⟨by rw [hq.1, ← HT.out.1.peak], bt hW hq.2⟩)))
              have HZl := Lib.hid (fun (W : World) (hW : Below wz.heap.size wz W) => (left_any l m L last most y W (HLz.out.kept hW).at_ HLz.out.sane HT.out.2).mono (fun e w' (hq : _ ∧ _) => (show e = .returned (.int .i64 lf) ∧ Below wz.heap.size wz w' from ⟨by rw [hq.1, ← HLft.out], bt hW hq.2⟩)))
              have HKc := Lib.hid (fun (W : World) (hW : Below wz.heap.size wz W) => (show W.cell? ⟨b', off' + j, none⟩ = some (.int .i64 y) from (hW.cell (p := ⟨b', _, none⟩) ez).trans dz))
              have hB1 := Below.drew (Below.refl wz.heap.size wz)
              have n1 : decide (vh < 0) = false := decide_eq_false (by omega)
              have n2 : decide (vg < vh) = false := decide_eq_false (by omega)
              have n3 : decide (lf < 0) = false := decide_eq_false (by omega)
              have n4 : decide (vg < vp) = false := decide_eq_false (by omega)
              go_upto_region 23 with fail
              go_region_held3 (fun w' => Below wz.heap.size wz w' ∧ w'.cell? ⟨b', off' + j, none⟩ = some (.int .i64 y))
                (first
                  | exact ⟨hB1, dz⟩
                  | exact ⟨hbx, HKc.out _ hbx⟩
                  | exact ⟨Below.drew hbx, HKc.out _ hbx⟩)
                (first
                  | (go_at_call 15; refine (HZh.out _ (by first | exact hbx | exact hB1 | exact Below.drew hbx | assumption)).mono ?_; rintro e w' ⟨rfl, hbx⟩)
                  | (go_at_call 16; refine (HZg.out _ (by first | exact hbx | exact hB1 | exact Below.drew hbx | assumption)).mono ?_; rintro e w' ⟨rfl, hbx⟩)
                  | (go_at_call 17; refine (HZl.out _ (by first | exact hbx | exact hB1 | exact Below.drew hbx | assumption)).mono ?_; rintro e w' ⟨rfl, hbx⟩)
                  | (go_at_call 18; refine (HZp.out _ (by first | exact hbx | exact hB1 | exact Below.drew hbx | assumption)).mono ?_; rintro e w' ⟨rfl, hbx⟩))
              rename_i hold
              have HBg := Lib.hid (bt HBz.out hold.1)
              have HLg := Lib.hid (HLz.out.kept hold.1)
              have HYg := Lib.hid (HYz.out.kept hold.1)
              clear n1 n2 n3 n4 hold hB1 HZh HZg HZp HZl HKc dz HLz HBz HYz
              go_wp2_with fail
              go_roundw
              case rel => exact ⟨j + 1, q + vh, rfl, by go_num, by omega, by omega, by omega, Lib.hid (by rw [HPs.out, ← HQ.out, ← HT.out.1.held]), HLg, HBg, HYg⟩
              case measure => simp [intOf]; omega
            · have HQa := Lib.hid (show q = heldN L by rw [HQ.out, part_all L ys j (by omega), held_by HLx.out.at_.nums HP.out])
              have HHe := Lib.hid HG.out.held
              have HMo := Lib.hid HG.out.most_le
              have hm1 : q ≤ most := by rw [HQa.out]; exact HHe.out
              have hm2 : most ≤ G := HMo.out
              clear HQ HHe HMo
              go_wp2_with fail
              refine (total_any l m L last most _ HLx.out.at_ HLx.out.sane).mono ?_
              rintro e wz ⟨rfl, hbz⟩
              have HLz := Lib.hid (HLx.out.kept hbz)
              have HBz := Lib.hid (bt HBx.out hbz)
              rw [← HQa.out]
              clear hbz HLx HBx HYx
              go_wp2_with fail
              refine (most_any l m L last most _ HLz.out.at_).mono ?_
              rintro e wb ⟨rfl, rfl⟩
              go_wp2_with fail
              refine (most_any l m L last most _ HLz.out.at_).mono ?_
              rintro e wb ⟨rfl, rfl⟩
              have HSz := Lib.hid (show St w.heap.size wz l m G (i + 1) from ⟨L, last, most, HLz.out, HG.out, HLa.out.1, HLa.out.2⟩)
              go_wp2_with fail
              exact ⟨⟨i + 1, rfl, by omega, by omega, HSz, HBz⟩, by simp [intOf]; omega⟩
      · have h100 : i = 100 := by omega
        go_wp2_with fail
        go_ret
        exact ⟨rfl, HB.out⟩
    · have hlt : xs.length ≤ i := by omega
      go_wp2_with fail
      go_ret
      exact ⟨rfl, HB.out⟩
theorem ledgerHolds_walk (A : Option Addr) (c : Nat) (xs : List O3) (G : Int) (w : World) (hx : O3At w A xs) (hw : Wide xs) (hl : xs.length ≤ 9223372036854775807) :
    Calls Try.prog 3 #[.int .i64 G, .slice A xs.length c] w fun e w' => e = .returned (.bool true) ∧ Below w.heap.size w w' := by
  by_cases h : G < 0 ∨ 16384 < G
  · exact ledgerHolds_out A c xs G w h
  · exact ledgerHolds_in A c xs G w hx hw hl (by omega) (by omega)
end Go.Proofs.Ythfopabefknlkab
