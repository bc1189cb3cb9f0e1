/-
  The library's Grow and Concat over expressions; parts, Parts.
-/
import Derived.Test.YteckhaicodmakaaGreatDoorExp
import Derived.Test.YteckhaicodmakaaGreatDoorGrow
import Derived.Maps.AppendAt
import Derived.Deep.RegionHeld3
import Derived.BigRegion
namespace Go.Proofs.YteckhaicodmakaaGreatDoor
open Go.RowKit Go.Shelf

/-- A list that is told, in whatever memory. -/
def ListBack (w : World) (l : List Ex) (e : Ending) (w' : World) : Prop :=
  ∃ A cap, e = .returned (.slice A l.length cap) ∧ l.length ≤ cap ∧ XsAt w'.heap.size w' l A ∧ Below w.heap.size w w'
theorem XsB.rows {B : Nat → Prop} {w : World} : ∀ {l : List Ex} {g o : Nat}, XsB B w l (some ⟨g, o, none⟩) → ∃ q, XRs B w l q ∧ ∀ j u, (xcells q)[j]? = some u → w.cell? ⟨g, o + j, none⟩ = some u
  | [], g, o, _ => ⟨[], .nil, fun j u h => by simp [xcells] at h⟩
  | .mk h l :: r, g, o, H => by
    rw [XsB] at H
    obtain ⟨g', o', e, hg, ⟨A', cap, hc, hl, h1⟩, h2⟩ := H
    simp only [Option.some.injEq, Addr.mk.injEq] at e
    obtain ⟨rfl, rfl, _⟩ := e
    obtain ⟨q, hq, hn⟩ := XsB.rows h2
    refine ⟨(h, A', l.length, cap) :: q, .cons ⟨rfl, rfl, hl, h1⟩ hq, fun j u hj => ?_⟩
    have e : xcells ((h, A', l.length, cap) :: q) = xcell (h, A', l.length, cap) ++ xcells q := rfl
    have e8 : (xcell (h, A', l.length, cap)).length = 8 := rfl
    rw [e] at hj
    by_cases h8 : j < 8
    · rw [List.getElem?_append_left (by omega)] at hj
      obtain ⟨c0, c1, c2, c3, c4, c5, c6, c7⟩ := hc
      rcases (show j = 0 ∨ j = 1 ∨ j = 2 ∨ j = 3 ∨ j = 4 ∨ j = 5 ∨ j = 6 ∨ j = 7 by omega) with rfl | rfl | rfl | rfl | rfl | rfl | rfl | rfl
      all_goals
        simp only [xcell, List.getElem?_cons_zero, List.getElem?_cons_succ, Option.some.injEq] at hj
        subst hj
        assumption
    · rw [List.getElem?_append_right (by omega), e8] at hj
      have := hn (j - 8) u hj
      rwa [show o + 8 + (j - 8) = o + j by omega] at this
theorem rows_of {n : Nat} {w : World} {l : List Ex} {A : Option Addr} (h : XsAt n w l A) (hl : l ≠ []) :
    ∃ g o q, A = some ⟨g, o, none⟩ ∧ XRs (fun k => k < n) w l q ∧ ∀ j u, (xcells q)[j]? = some u → w.cell? ((⟨g, o, none⟩ : Addr).add j) = some u := by
  cases l with
  | nil => exact absurd rfl hl
  | cons x r =>
    obtain ⟨g, o, _, _, rfl, _⟩ := XsAt.one h
    obtain ⟨q, hq, hn⟩ := XsB.rows h
    refine ⟨g, o, q, rfl, hq, fun j u hj => ?_⟩
    rw [show (⟨g, o, none⟩ : Addr).add j = ⟨g, o + j, none⟩ by simp only [Addr.add]; split <;> simp_all]
    exact hn j u hj
theorem one_row (h : Hd) (l : List Ex) (A3 : Option Addr) (cap3 : Nat) (w1 : World) (b : Nat) (hle : l.length ≤ cap3) (hx : XsB (Bn b w1) w1 l A3) :
    XsAt (w1.alloc (.cells (xcell (h, A3, l.length, cap3)).toArray 26)).heap.size (w1.alloc (.cells (xcell (h, A3, l.length, cap3)).toArray 26)) [.mk h l] (some ⟨w1.heap.size, 0, none⟩) := by
  have hq : XRs (fun k => k < (w1.alloc (.cells (xcell (h, A3, l.length, cap3)).toArray 26)).heap.size) (w1.alloc (.cells (xcell (h, A3, l.length, cap3)).toArray 26)) [.mk h l] [(h, A3, l.length, cap3)] :=
    .cons ⟨rfl, rfl, hle, XsB.go (fun k hk => (ba w1 _).block k hk.2) (fun k hk => by rw [World.size_alloc]; have := hk.2; omega) _ _ hx⟩ .nil
  refine XRs.xsB (B := fun k => k < (w1.alloc (.cells (xcell (h, A3, l.length, cap3)).toArray 26)).heap.size) (by simp) hq fun j u hj => ?_
  rw [Nat.zero_add]
  have := xnews w1 _ 26 j u (by simpa [xcells] using hj)
  rwa [show (⟨w1.heap.size, 0, none⟩ : Addr).add j = ⟨w1.heap.size, j, none⟩ by simp only [Addr.add]; split <;> simp_all] at this
theorem grow_nil (n : Nat) (w : World) (hn : n ≤ 65536) :
    Calls Tryz.prog 73 #[.slice none 0 0, .int .i64 n] w fun e w' => ∃ v, e = .returned v ∧ w'.ownsRow w.heap.size 26 8 v 0 [] ∧ Below w.heap.size w w' := by
  rcases Nat.eq_zero_or_pos n with h0 | h0
  · subst h0
    have h := Any8.slices_Grow_room Tryz.grow none 0 0 0 w (by omega) (by omega) (by omega) (by omega)
    refine Calls.mono h ?_
    rintro e w' ⟨rfl, rfl⟩
    exact ⟨_, rfl, World.ownsRow_nil _ _ _ _, Below.refl _ _⟩
  · obtain ⟨i0, hi, hz0, hz1, hz2⟩ := infoE_parts info_expr
    have h := Any8.slices_Grow_grow Tryz.grow i0 _ hi hz0 (by rw [hz1]; decide) none 0 0 n [] w (by omega) (by omega) (by rw [hz2]; omega) (by omega) (by simp) (fun _ => rfl) (fun a ha => by cases ha)
    refine Calls.mono h ?_
    rintro e w' ⟨rfl, rfl⟩
    have hge := grownCap_ge w (0 + n) 0 (Tryz.grow_ren.t 25)
    have hle := grownCap_le_maxLen w (0 + n) 0 (Tryz.grow_ren.t 25) (by unfold maxLen; omega)
    refine ⟨_, rfl, ?_, ?_⟩
    · refine World.ownsRow_made w.drew _ _ (Nat.le_refl _) hle ?_
      rw [Nat.zero_add] at hge ⊢
      simp [size_zeroCells, Value.cells]
      omega
    · exact ((Below.refl _ w).drew).alloc (Nat.le_refl _) _
theorem cell_keptA {w w' : World} (hb : Below w.heap.size w w') {p : Addr} {v : Value} (h : w.cell? p = some v) : w'.cell? p = some v := cell_kept hb h
def sumTo (n n' j : Nat) : Nat := if j = 0 then 0 else if j = 1 then n else n + n'
def catQ (r r' : List XQ) (j : Nat) : List XQ := if j = 0 then [] else if j = 1 then r else r ++ r'
set_option maxRecDepth 100000 in
set_option maxHeartbeats 4000000 in
theorem concat_any (g : Nat) (A A' : Option Addr) (c c' : Nat) (r r' : List Ex) (w : World) (hg0 : w.cell? ⟨g, 0, none⟩ = some (.slice A r.length c)) (hg1 : w.cell? ⟨g, 1, none⟩ = some (.slice A' r'.length c'))
    (h : XsAt w.heap.size w r A) (h' : XsAt w.heap.size w r' A') (hr : r ≠ []) (hr' : r' ≠ []) (hl : r.length + r'.length ≤ 1024) :
    Calls Tryz.prog 63 #[.slice (some ⟨g, 0, none⟩) 2 2] w (ListBack w (r ++ r')) := by
  obtain ⟨i0, hi, hz0, hz1, hz2⟩ := infoE_parts info_expr
  obtain ⟨ga, oa, qa, rfl, hqa, hna⟩ := rows_of h hr
  obtain ⟨gb, ob, qb, rfl, hqb, hnb⟩ := rows_of h' hr'
  have hla := hqa.len
  have hlb := hqb.len
  have hgl := lt_of_cell hg0
  have HQ := Lib.hid (hqa.app hqb)
  have HNa := Lib.hid hna
  have HNb := Lib.hid hnb
  obtain ⟨n1, hn1⟩ : ∃ n, r.length = n := ⟨_, rfl⟩
  obtain ⟨n2, hn2⟩ : ∃ n, r'.length = n := ⟨_, rfl⟩
  have HL := Lib.hid (show (r ++ r').length = n1 + n2 by rw [List.length_append, hn1, hn2])
  have HP := Lib.hid (show r ++ r' ≠ [] by simp [hr])
  rw [hn1] at hg0 hla hl
  rw [hn2] at hg1 hlb hl
  clear hn1 hn2 h h' hqa hqb hna hnb hr hr'
  go_enter Tryz.func63, Tryz.ntmps63
  go_wp2_with fail
  go_loop [3, 11] (fun s i => ∃ j S : Nat, j ≤ 2 ∧ i = .int .i64 j ∧ s = .int .i64 S ∧ Hid (S = sumTo n1 n2 j) ∧ S ≤ 1024) (fun _ i => 2 - (intOf i).toNat)
  case atStart => exact ⟨0, 0, by omega, rfl, rfl, Lib.hid rfl, by omega⟩
  case round =>
    obtain ⟨j, S, hj, rfl, rfl, HS, hS⟩ := hrel
    have hj3 : j = 0 ∨ j = 1 ∨ j = 2 := by omega
    rcases hj3 with rfl | rfl | rfl
    · obtain rfl : S = 0 := HS.out
      go_wp2_with fail
      go_round
      case rel => exact ⟨1, 0 + n1, by omega, by go_num, by go_num, Lib.hid (by simp [sumTo]), by omega⟩
      case measure => simp [intOf]
    · obtain rfl : S = n1 := HS.out
      go_wp2_with fail
      go_round
      case rel => exact ⟨2, S + n2, by omega, by go_num, by go_num, Lib.hid (by simp [sumTo]), by omega⟩
      case measure => simp [intOf]
    · clear HS
      go_wp2_with fail
      refine (grow_nil S _ (by omega)).mono ?_
      rintro e w1 ⟨v, rfl, hown0, hB0⟩
      have HG0 := Lib.hid hg0
      have HG1 := Lib.hid hg1
      clear hg0 hg1
      go_wp2_with fail
      go_loopw [6, 27] (fun v i wr => ∃ j : Nat, j ≤ 2 ∧ i = .int .i64 j ∧ wr.ownsRow w.heap.size 26 8 v (sumTo n1 n2 j) (xcells (catQ qa qb j)) ∧ Below w.heap.size w wr) (fun _ i _ => 2 - (intOf i).toNat)
      case atStart => exact ⟨0, by omega, rfl, hown0, hB0⟩
      case round =>
        clear hown0 hB0
        obtain ⟨j, hj, rfl, hown, hB⟩ := hrel
        have k0 := cell_kept hB HG0.out
        have k1 := cell_kept hB HG1.out
        have hj3 : j = 0 ∨ j = 1 ∨ j = 2 := by omega
        rcases hj3 with rfl | rfl | rfl
        · have hown' : wr.ownsRow w.heap.size 26 8 u6 0 [] := hown
          have hnews := Lib.hid (fun j u hu => cell_keptA hB (HNa.out j u hu))
          have HB := Lib.hid hB
          clear hB hown
          go_wp2_with (at_builtin; refine wpList_append_own _ rfl _ _ 24 rfl w.heap.size 26 i0 _ 8 104 Tryz.underlying24 hi hz0 hz1 hz2 rfl (by decide) _ _ _ rfl hown' ⟨ga, oa, none⟩ n1 c (xcells qa) rfl (by rw [xcells_len, hla]) hnews.out (xcells_one _) ?c3 ?c4 ?c5 ?_)
          case c3 => unfold maxLen; omega
          case c4 => omega
          case c5 => exact HB.out.size
          intro v' w2 hown1 hgrow _
          have hB1 := HB.out.grown hgrow HB.out.size (fun k hk => (hown'.lt k hk).1)
          have HO := Lib.hid hown1
          clear hown1 hgrow hown'
          go_wp2_with fail
          go_roundw
          case rel => exact ⟨1, by omega, by go_num, by simpa [sumTo, catQ] using HO.out, hB1⟩
          case measure => simp [intOf]
        · have hown' : wr.ownsRow w.heap.size 26 8 u6 n1 (xcells qa) := hown
          have hnews := Lib.hid (fun j u hu => cell_keptA hB (HNb.out j u hu))
          have HB := Lib.hid hB
          clear hB hown
          go_wp2_with (at_builtin; refine wpList_append_own _ rfl _ _ 24 rfl w.heap.size 26 i0 _ 8 104 Tryz.underlying24 hi hz0 hz1 hz2 rfl (by decide) _ _ _ rfl hown' ⟨gb, ob, none⟩ n2 c' (xcells qb) rfl (by rw [xcells_len, hlb]) hnews.out (xcells_one _) ?c3 ?c4 ?c5 ?_)
          case c3 => unfold maxLen; omega
          case c4 => omega
          case c5 => exact HB.out.size
          intro v' w2 hown1 hgrow _
          have hB1 := HB.out.grown hgrow HB.out.size (fun k hk => (hown'.lt k hk).1)
          have HO := Lib.hid hown1
          clear hown1 hgrow hown'
          go_wp2_with fail
          go_roundw
          case rel => exact ⟨2, by omega, by go_num, by have := HO.out; rw [← xcells_app] at this; simpa [sumTo, catQ] using this, hB1⟩
          case measure => simp [intOf]
        · have hown' : wr.ownsRow w.heap.size 26 8 u6 (n1 + n2) (xcells (qa ++ qb)) := hown
          have hB2 := hB
          rcases hown'.2 with ⟨_, hbad⟩ | ⟨gv, cap, cur, hv, hb1, hgv, hc, _⟩
          · exact absurd (List.eq_nil_of_length_eq_zero (by rw [HL.out, hbad])) HP.out
          subst hv
          have hgl2 : gv < wr.heap.size := by
            rcases Nat.lt_or_ge gv wr.heap.size with h | h
            · exact h
            · rw [Array.getElem?_eq_none h] at hgv; cases hgv
          have HX := Lib.hid (show XsAt wr.heap.size wr (r ++ r') (some ⟨gv, 0, none⟩) from XRs.xsB (B := fun k => k < wr.heap.size) hgl2 (HQ.out.go (fun k hk => hB2.block k hk) (fun k hk => Nat.lt_of_lt_of_le hk hB2.size)) fun j u hj => by
            have := hown'.cells (g := gv) rfl j u hj
            rw [show (⟨gv, 0, none⟩ : Addr).add j = ⟨gv, j, none⟩ by simp only [Addr.add]; split <;> simp_all] at this
            rwa [Nat.zero_add])
          have HBo := Lib.hid hB2
          clear hown hown' hB hB2 hgv
          go_wp2_with fail
          go_ret
          exact ⟨some ⟨gv, 0, none⟩, cap, by rw [HL.out]; rfl, by rw [HL.out]; exact hc, HX.out, HBo.out⟩
theorem prtX_and {x y : Ex} {h : Hd} (hk : h.k = 3) (hn : h.n = 2) : prtX (.mk h [x, y]) = prtX x ++ prtX y := by
  rw [prtX, if_pos ⟨hk, hn⟩]; simp [prtXs]
theorem prtX_one {h : Hd} {l : List Ex} (hk : ¬ (h.k = 3 ∧ h.n = 2)) : prtX (.mk h l) = [.mk h l] := by rw [prtX, if_neg hk]
theorem prt_len : ∀ (N : Nat) (x : Ex), cnt x ≤ N → FitX x → prtX x ≠ [] ∧ (prtX x).length ≤ cnt x := by
  intro N
  induction N with
  | zero => intro x hc; have := cnt_pos x; omega
  | succ N ih =>
    intro x hc hf
    obtain ⟨h, l⟩ := x
    by_cases hk : h.k = 3 ∧ h.n = 2
    · rw [FitX] at hf
      have hfb := hf.1
      unfold fitsB at hfb
      rw [if_neg (by omega), if_neg (by omega), if_pos hk.1] at hfb
      simp only [Bool.and_eq_true, decide_eq_true_eq, beq_iff_eq] at hfb
      have hla := hfb.1.1.2
      rw [hk.2] at hla
      obtain ⟨x, y, rfl⟩ := len2 (show l.length = 2 by simp [arI] at hla; omega)
      have hf2 := hf.2
      rw [FitXs, FitXs] at hf2
      simp only [cnt_mk, cntL] at hc ⊢
      obtain ⟨a1, a2⟩ := ih x (by omega) hf2.1
      obtain ⟨b1, b2⟩ := ih y (by omega) hf2.2.1
      rw [prtX_and hk.1 hk.2, List.length_append]
      exact ⟨by simp [a1], by omega⟩
    · rw [prtX_one hk]
      exact ⟨by simp, by have := cnt_pos (.mk h l); simp; omega⟩
set_option maxRecDepth 100000 in
set_option maxHeartbeats 8000000 in
theorem parts_n : ∀ (N : Nat) (h : Hd) (l : List Ex), cnt (.mk h l) ≤ N → N ≤ 512 → FitX (.mk h l) → ∀ (w : World) (A : Option Addr) (cap : Nat), XsAt w.heap.size w l A → l.length ≤ cap →
    Calls Tryz.prog 50 #[XV h A l.length cap] w (ListBack w (prtX (.mk h l))) := by
  intro N
  induction N with
  | zero => intro h l hc; have := cnt_pos (.mk h l); omega
  | succ N ih =>
    intro h l hc hN hf w A cap hX hcap
    by_cases hk : h.k = 3 ∧ h.n = 2
    · rw [FitX] at hf
      have hfb := hf.1
      unfold fitsB at hfb
      rw [if_neg (by omega), if_neg (by omega), if_pos hk.1] at hfb
      simp only [Bool.and_eq_true, decide_eq_true_eq, beq_iff_eq] at hfb
      have hla := hfb.1.1.2
      rw [hk.2] at hla
      obtain ⟨X, Y, rfl⟩ := len2 (show l.length = 2 by simp [arI] at hla; omega)
      clear hla hfb
      have hf2 := hf.2
      rw [FitXs, FitXs] at hf2
      simp only [cnt_mk, cntL] at hc
      have hpx := prt_len _ X (Nat.le_refl _) hf2.1
      have hpy := prt_len _ Y (Nat.le_refl _) hf2.2.1
      have hcx := cnt_pos X
      have hcy := cnt_pos Y
      obtain ⟨g, o, A', cap', rfl, hg, hc', hl', hx'⟩ := XsAt.one hX
      obtain ⟨B', cap2, hc2, hl2, hx2⟩ := XsAt.two hX
      rw [show ∀ (a b : Ex), [a, b].length = 2 from fun _ _ => rfl]
      rw [prtX_and hk.1 hk.2]
      obtain ⟨k, n, vk, vn, vs, tab, col⟩ := h
      obtain ⟨h1, h2⟩ := hk
      simp only at h1 h2
      subst h1 h2
      have hba := ba w (xbox ⟨3, 2, vk, vn, vs, tab, col⟩ (some ⟨g, o, none⟩) 2 cap)
      have HBx := Lib.hid hba
      obtain ⟨⟨c0, c1, _, _, _, _, _, c7⟩, _⟩ := cell8 (MapKept.heap_alloc w (xbox ⟨3, 2, vk, vn, vs, tab, col⟩ (some ⟨g, o, none⟩) 2 cap)).1
      have HN7 := Lib.hid c7
      have HI := Lib.hid (show ∀ w1, Below w.heap.size w w1 → Calls Tryz.prog 50 #[XV X.hd A' X.kids.length cap'] w1 (ListBack w1 (prtX X)) from fun w1 hb1 => by
        obtain ⟨hx, lx⟩ := X
        exact ih hx lx (by omega) (by omega) hf2.1 w1 A' cap' (XsAt.next hx' hb1) hl')
      have HJ := Lib.hid (show ∀ w1, Below w.heap.size w w1 → Calls Tryz.prog 50 #[XV Y.hd B' Y.kids.length cap2] w1 (ListBack w1 (prtX Y)) from fun w1 hb1 => by
        obtain ⟨hy, ly⟩ := Y
        exact ih hy ly (by omega) (by omega) hf2.2.1 w1 B' cap2 (XsAt.next hx2 hb1) hl2)
      obtain ⟨a0, a1, a2, a3, a4, a5, a6, a7⟩ := hc'.of (hba.block g hg)
      obtain ⟨y0, y1, y2, y3, y4, y5, y6, y7⟩ := hc2.of (hba.block g hg)
      clear hX ih hf hf2 hc' hc2 hx' hx2 hba
      go_enter Tryz.func50, Tryz.ntmps50
      go_wp2_with fail
      go_upto_region 3 with fail
      refine wp_region_noPanic ?_
      refine wp_region_held_drew (S := fun Wd => Below (w.alloc (xbox ⟨3, 2, vk, vn, vs, tab, col⟩ (some ⟨g, o, none⟩) 2 cap)).heap.size (w.alloc (xbox ⟨3, 2, vk, vn, vs, tab, col⟩ (some ⟨g, o, none⟩) 2 cap)) Wd) (by kernel_rfl) (Below.drew (Below.refl _ _)) (fun hHeld => ?_)
      refine wpAnyH_take (i := 0) (oi := { dst := some 14, op := Go.Op.fieldAddr 26 (Go.Operand.tmp 1) 5, type := 0, pos := "parts.go:63", after := #[], guard := none }) (v := ?_) rfl (by kernel_rfl) (by kernel_rfl) (by kernel_rfl) (fun _ _ _ h => h) (Or.inl ⟨by rfl, ?_⟩) hHeld ?_
      rotate_left 1
      · (intro w0 hSw); (try dsimp only at hSw); go_simp <;> with_reducible rfl
      (try simp only [Act.put, List.setIfInBounds_toArray, List.set_cons_zero, List.set_cons_succ])
      refine wpAnyH_take (i := 1) (oi := { dst := some 15, op := Go.Op.load 24 (Go.Operand.tmp 14), type := 24, pos := "parts.go:63", after := #[{ on := 0, ground := Go.Ground.data }], guard := none }) (v := ?_) rfl (by kernel_rfl) (by kernel_rfl) (by kernel_rfl) (fun _ _ _ h => h) (Or.inl ⟨by rfl, ?_⟩) hHeld ?_
      rotate_left 1
      · (intro w0 hSw); (try dsimp only at hSw); have u7 := cell_kept hSw HN7.out; go_simp <;> with_reducible rfl
      (try simp only [Act.put, List.setIfInBounds_toArray, List.set_cons_zero, List.set_cons_succ])
      refine wpAnyH_take (i := 2) (oi := { dst := some 16, op := Go.Op.indexAddr 24 (Go.Operand.tmp 15) (Go.Operand.const (Go.Value.int Go.IntKind.i64 0)), type := 0, pos := "parts.go:63", after := #[{ on := 1, ground := Go.Ground.data }], guard := none }) (v := ?_) rfl (by kernel_rfl) (by kernel_rfl) (by kernel_rfl) (fun _ _ _ h => h) (Or.inl ⟨by rfl, ?_⟩) hHeld ?_
      rotate_left 1
      · (intro w0 hSw); (try dsimp only at hSw); go_simp <;> with_reducible rfl
      (try simp only [Act.put, List.setIfInBounds_toArray, List.set_cons_zero, List.set_cons_succ])
      refine wpAnyH_take (i := 3) (oi := { dst := some 17, op := Go.Op.load 26 (Go.Operand.tmp 16), type := 26, pos := "parts.go:63", after := #[{ on := 2, ground := Go.Ground.data }], guard := none }) (v := ?_) rfl (by kernel_rfl) (by kernel_rfl) (by kernel_rfl) (fun _ _ _ h => h) (Or.inl ⟨by rfl, ?_⟩) hHeld ?_
      rotate_left 1
      · (intro w0 hSw); (try dsimp only at hSw); have t0 := cell_kept hSw a0; have t1 := cell_kept hSw a1; have t2 := cell_kept hSw a2; have t3 := cell_kept hSw a3; have t4 := cell_kept hSw a4; have t5 := cell_kept hSw a5; have t6 := cell_kept hSw a6; have t7 := cell_kept hSw a7; go_simp <;> with_reducible rfl
      (try simp only [Act.put, List.setIfInBounds_toArray, List.set_cons_zero, List.set_cons_succ])
      refine wpAnyH_take (i := 5) (oi := { dst := some 19, op := Go.Op.fieldAddr 26 (Go.Operand.tmp 1) 5, type := 0, pos := "parts.go:63", after := #[], guard := none }) (v := ?_) rfl (by kernel_rfl) (by kernel_rfl) (by kernel_rfl) (fun _ _ _ h => h) (Or.inl ⟨by rfl, ?_⟩) hHeld ?_
      rotate_left 1
      · (intro w0 hSw); (try dsimp only at hSw); go_simp <;> with_reducible rfl
      (try simp only [Act.put, List.setIfInBounds_toArray, List.set_cons_zero, List.set_cons_succ])
      refine wpAnyH_take (i := 6) (oi := { dst := some 20, op := Go.Op.load 24 (Go.Operand.tmp 19), type := 24, pos := "parts.go:63", after := #[{ on := 5, ground := Go.Ground.data }], guard := none }) (v := ?_) rfl (by kernel_rfl) (by kernel_rfl) (by kernel_rfl) (fun _ _ _ h => h) (Or.inl ⟨by rfl, ?_⟩) hHeld ?_
      rotate_left 1
      · (intro w0 hSw); (try dsimp only at hSw); have u7 := cell_kept hSw HN7.out; go_simp <;> with_reducible rfl
      (try simp only [Act.put, List.setIfInBounds_toArray, List.set_cons_zero, List.set_cons_succ])
      refine wpAnyH_take (i := 7) (oi := { dst := some 21, op := Go.Op.indexAddr 24 (Go.Operand.tmp 20) (Go.Operand.const (Go.Value.int Go.IntKind.i64 1)), type := 0, pos := "parts.go:63", after := #[{ on := 6, ground := Go.Ground.data }], guard := none }) (v := ?_) rfl (by kernel_rfl) (by kernel_rfl) (by kernel_rfl) (fun _ _ _ h => h) (Or.inl ⟨by rfl, ?_⟩) hHeld ?_
      rotate_left 1
      · (intro w0 hSw); (try dsimp only at hSw); go_simp <;> with_reducible rfl
      (try simp only [Act.put, List.setIfInBounds_toArray, List.set_cons_zero, List.set_cons_succ])
      refine wpAnyH_take (i := 8) (oi := { dst := some 22, op := Go.Op.load 26 (Go.Operand.tmp 21), type := 26, pos := "parts.go:63", after := #[{ on := 7, ground := Go.Ground.data }], guard := none }) (v := ?_) rfl (by kernel_rfl) (by kernel_rfl) (by kernel_rfl) (fun _ _ _ h => h) (Or.inl ⟨by rfl, ?_⟩) hHeld ?_
      rotate_left 1
      · (intro w0 hSw); (try dsimp only at hSw); have t0 := cell_kept hSw y0; have t1 := cell_kept hSw y1; have t2 := cell_kept hSw y2; have t3 := cell_kept hSw y3; have t4 := cell_kept hSw y4; have t5 := cell_kept hSw y5; have t6 := cell_kept hSw y6; have t7 := cell_kept hSw y7; go_simp <;> with_reducible rfl
      (try simp only [Act.put, List.setIfInBounds_toArray, List.set_cons_zero, List.set_cons_succ])
      refine wpAnyH_ready (rs := [4]) (by kernel_rfl) (by simp) ?_
      refine (AllReadyH.cons (o := { dst := some 18, op := Go.Op.call { callee := Go.Callee.value (Go.Operand.func 50), args := #[Go.Operand.tmp 17], argTypes := #[26] }, type := 24, pos := "parts.go:63", after := #[{ on := 3, ground := Go.Ground.data }], guard := none }) rfl (fun K hK => ?_) AllReadyH.nil)
      rw [if_pos (by rfl)]
      go_simp
      refine (HI.out _ (bt HBx.out (Below.drew (Below.refl _ _)))).mono ?_
      rintro e w1 ⟨A1, c1', rfl, hle1, hx1, hb⟩
      have HH1 := Lib.hid (bt (Below.drew (Below.refl _ _)) hb)
      have HX1 := Lib.hid hx1
      clear hb hHeld hx1
      go_wp2_with fail
      refine hK.out _ _ HH1.out (fun hHeld => ?_)
      clear hK K
      (try simp only [Act.put, List.setIfInBounds_toArray, List.set_cons_zero, List.set_cons_succ])
      refine wpAnyH_ready (rs := [9]) (by kernel_rfl) (by simp) ?_
      refine (AllReadyH.cons (o := { dst := some 23, op := Go.Op.call { callee := Go.Callee.value (Go.Operand.func 50), args := #[Go.Operand.tmp 22], argTypes := #[26] }, type := 24, pos := "parts.go:63", after := #[{ on := 8, ground := Go.Ground.data }, { on := 4, ground := Go.Ground.chain }], guard := none }) rfl (fun K hK => ?_) AllReadyH.nil)
      rw [if_pos (by rfl)]
      go_simp
      refine (HJ.out _ (bt HBx.out HH1.out)).mono ?_
      rintro e w2 ⟨A2, c2', rfl, hle2, hx2, hb⟩
      have HH2 := Lib.hid (bt HH1.out hb)
      have HX1' := Lib.hid (XsAt.next HX1.out hb)
      have HX2 := Lib.hid hx2
      clear hb hHeld hx2
      go_wp2_with fail
      refine hK.out _ _ HH2.out (fun hHeld => ?_)
      clear hK K
      (try simp only [Act.put, List.setIfInBounds_toArray, List.set_cons_zero, List.set_cons_succ])
      refine wpAnyH_ready (rs := [10]) (by kernel_rfl) (by simp) ?_
      refine (AllReadyH.cons (o := { dst := some 24, op := Go.Op.buildSlice 74 2 #[(0, Go.Operand.tmp 18), (1, Go.Operand.tmp 23)], type := 74, pos := "parts.go:63", after := #[{ on := 4, ground := Go.Ground.data }, { on := 9, ground := Go.Ground.data }], guard := none }) rfl (fun K hK => ?_) AllReadyH.nil)
      rw [if_pos (by rfl)]
      go_simp
      have HH3 := Lib.hid (bt HH2.out (ba w2 (.cells #[.slice A1 (prtX X).length c1', .slice A2 (prtX Y).length c2'] 24)))
      refine hK.out _ _ HH3.out (fun hHeld => ?_)
      clear hK K hHeld
      (try simp only [Act.put, List.setIfInBounds_toArray, List.set_cons_zero, List.set_cons_succ])
      refine wpAnyH_ready (rs := [11]) (by kernel_rfl) (by simp) ?_
      refine (AllReadyH.cons (o := { dst := some 25, op := Go.Op.call { callee := Go.Callee.value (Go.Operand.func 63), args := #[Go.Operand.tmp 24], argTypes := #[74] }, type := 24, pos := "parts.go:63", after := #[{ on := 10, ground := Go.Ground.data }, { on := 9, ground := Go.Ground.chain }], guard := none }) rfl (fun K hK => ?_) AllReadyH.nil)
      rw [if_pos (by rfl)]
      go_simp
      refine (concat_any w2.heap.size A1 A2 c1' c2' (prtX X) (prtX Y) (w2.alloc (.cells #[.slice A1 (prtX X).length c1', .slice A2 (prtX Y).length c2'] 24)) (by simp) (by simp) (XsAt.next HX1'.out (ba _ _)) (XsAt.next HX2.out (ba _ _)) hpx.1 hpy.1 (by omega)).mono ?_
      rintro e w4 ⟨A4, c4', rfl, hle4, hx4, hb⟩
      have HH4 := Lib.hid (bt HH3.out hb)
      have HX4 := Lib.hid hx4
      clear hb hx4
      go_wp2_with fail
      refine hK.out _ _ HH4.out (fun hHeld => ?_)
      clear hK K
      (try simp only [Act.put, List.setIfInBounds_toArray, List.set_cons_zero, List.set_cons_succ])
      refine wpAnyH_take (i := 12) (oi := { dst := some 2, op := Go.Op.assign (Go.Operand.tmp 25), type := 24, pos := "parts.go:63", after := #[{ on := 11, ground := Go.Ground.data }, { on := 11, ground := Go.Ground.chain }, { on := 0, ground := Go.Ground.phase }, { on := 1, ground := Go.Ground.phase }, { on := 2, ground := Go.Ground.phase }, { on := 3, ground := Go.Ground.phase }, { on := 4, ground := Go.Ground.phase }, { on := 5, ground := Go.Ground.phase }, { on := 6, ground := Go.Ground.phase }, { on := 7, ground := Go.Ground.phase }, { on := 8, ground := Go.Ground.phase }, { on := 9, ground := Go.Ground.phase }, { on := 10, ground := Go.Ground.phase }, { on := 11, ground := Go.Ground.phase }], guard := none }) (v := ?_) rfl (by kernel_rfl) (by kernel_rfl) (by kernel_rfl) (fun _ _ _ h => h) (Or.inl ⟨by rfl, ?_⟩) hHeld ?_
      rotate_left 1
      · (intro w0 hSw); (try dsimp only at hSw); go_simp <;> with_reducible rfl
      (try simp only [Act.put, List.setIfInBounds_toArray, List.set_cons_zero, List.set_cons_succ])
      refine wpAnyH_done (by kernel_rfl) ?_ _
      refine NoPanic.normal ?_
      clear hHeld
      go_wp2_with fail
      go_ret
      exact ⟨A4, c4', by simp, hle4, HX4.out, bt HBx.out HH4.out⟩
    · rw [prtX_one hk]
      have hba := ba w (xbox h A l.length cap)
      have HBx := Lib.hid hba
      obtain ⟨⟨c0, c1, c2, c3, c4, c5, c6, c7⟩, _⟩ := cell8 (MapKept.heap_alloc w (xbox h A l.length cap)).1
      have HC := Lib.hid (copyOf_any h l (w.alloc (xbox h A l.length cap)) A cap (by rw [cnt_mk] at hc; omega) (XsAt.next hX hba))
      clear hX ih hf hba
      obtain ⟨k, n, vk, vn, vs, tab, col⟩ := h
      simp only at hk c0 c1 c2 c3 c4 c5 c6 c7
      rcases (show ¬ k = 3 ∨ (k = 3 ∧ ¬ n = 2) by omega) with h3 | ⟨rfl, h2⟩
      all_goals
        go_enter Tryz.func50, Tryz.ntmps50
        go_wp2_with fail
        refine HC.out.mono ?_
        rintro e w1 ⟨A3, cap3, rfl, hle3, hx3, hb⟩
        have HB1 := Lib.hid (bt HBx.out hb)
        have HX3 := Lib.hid hx3
        clear hb hx3
        go_wp2_with fail
        go_ret
        exact ⟨_, 1, rfl, Nat.le_refl _, one_row _ l A3 cap3 w1 _ hle3 HX3.out, bt HB1.out (ba w1 _)⟩
theorem xparts_any (h : Hd) (lk : List Ex) (A : Option Addr) (cap : Nat) (w : World) (hX : XsAt w.heap.size w lk A) (hcap : lk.length ≤ cap) (hsm : AllSm (.mk h lk)) (hc : cnt (.mk h lk) ≤ 999999) (hT : Tabs w) :
    Calls Tryz.prog 30 #[XV h A lk.length cap] w (ListBack w (if okX (.mk h lk) = true then prtX (.mk h lk) else [])) := by
  have hb0 := ba w (xbox h A lk.length cap)
  have HC := Lib.hid (xcheck_any h lk A cap _ (XsAt.next hX hb0) hcap hsm hc (hT.kept hb0))
  have HX1 := Lib.hid (MapKept.heap_alloc w (xbox h A lk.length cap)).1
  obtain ⟨⟨y0, y1, y2, y3, y4, y5, y6, y7⟩, _⟩ := cell8 HX1.out
  have HB0 := Lib.hid hb0
  have HXs := Lib.hid hX
  rw [show chkI (.mk h lk) = if okX (.mk h lk) = true then 0 else 100 by rw [chkI, meas_some]] at HC
  clear hX hT hb0 hsm
  cases ho : okX (.mk h lk)
  · rw [ho] at HC
    simp only [Bool.false_eq_true, if_false] at HC ⊢
    clear ho
    go_enter Tryz.func30, Tryz.ntmps30
    go_wp2_with fail
    refine HC.out.mono ?_
    rintro e w1 ⟨rfl, hb⟩
    have HB := Lib.hid (bt HB0.out hb)
    clear hb
    go_wp2_with fail
    go_ret
    exact ⟨none, 0, rfl, Nat.le_refl _, by rw [XsAt, XsB]; trivial, HB.out⟩
  · obtain ⟨hft, hcn⟩ := ok_fit ho
    have HSh := Lib.hid (fun w1 (hb : Below w.heap.size w w1) => parts_n _ h lk (Nat.le_refl _) hcn hft w1 A cap (XsAt.next HXs.out hb) hcap)
    rw [ho] at HC
    simp only [if_true] at HC ⊢
    clear ho hft hcn
    go_enter Tryz.func30, Tryz.ntmps30
    go_wp2_with fail
    refine HC.out.mono ?_
    rintro e w1 ⟨rfl, hb⟩
    have HB := Lib.hid (bt HB0.out hb)
    obtain ⟨⟨c0, c1, c2, c3, c4, c5, c6, c7⟩, _⟩ := cell8 ((hb.block w.heap.size (by rw [World.size_alloc]; omega)).trans HX1.out)
    clear hb
    go_wp2_with fail
    refine (HSh.out _ HB.out).mono ?_
    rintro e w2 ⟨A2, c2', rfl, hle2, hx2, hb⟩
    have HB2 := Lib.hid (bt HB.out hb)
    have HX2 := Lib.hid hx2
    clear hb hx2
    go_wp2_with fail
    go_ret
    exact ⟨A2, c2', rfl, hle2, HX2.out, HB2.out⟩
end Go.Proofs.YteckhaicodmakaaGreatDoor
