/-
  Same, of two expressions; the document's Same.
-/
import Derived.Test.YteckhaicodmakaaGreatDoorEx5
import Derived.Deep.RegionHeld3
namespace Go.Proofs.YteckhaicodmakaaGreatDoor
open Go.RowKit Go.Shelf

theorem run_neV (k n : Int) (s : ByteArray) (k' n' : Int) (s' : ByteArray) (w : World) :
    (binOp .neq 23 (VV k n s) (VV k' n' s')).run Tryz.prog w = .ok (.bool (!eqV k n s k' n' s')) w := by
  have u3 := Tryz.underlying3
  have a3 := Tryz.isAgg3
  have z3 := Tryz.sizeOf3
  have u9 := Tryz.underlying9
  have a9 := Tryz.isAgg9
  have z9 := Tryz.sizeOf9
  have hS : Tryz.prog.underlying 23 = some (.struct (Tryz.prog.fieldsOf 23)) := by kernel_rfl
  have hp : Tryz.prog.stoodInHeld 23 = false := by kernel_rfl
  rw [run_neq_struct, show (10000 : Nat) = 9999 + 1 from rfl, run_equalIn_agg w 9999 23 _ _ hS hp]
  simp only [Program.fieldsOf, Tryz.underlying23]
  go_simp
  unfold eqV
  by_cases h1 : k = k' <;> by_cases h2 : n = n' <;> by_cases h3 : s.toList = s'.toList <;> simp [h1, h2, h3]
/-- Are two heads the same? -/
def hdEq (h h' : Hd) : Bool := h.k == h'.k && h.n == h'.n && eqV h.vk h.vn h.vs h'.vk h'.vn h'.vs && h.tab.toList == h'.tab.toList && h.col.toList == h'.col.toList
mutual
def sameX : Ex → Ex → Bool
  | .mk h l, .mk h' l' => hdEq h h' && sameXs l l'
def sameXs : List Ex → List Ex → Bool
  | [], [] => true
  | x :: r, y :: r' => sameX x y && sameXs r r'
  | [], _ :: _ => false
  | _ :: _, [] => false
end
theorem sameX_mk (h h' : Hd) (l l' : List Ex) : sameX (.mk h l) (.mk h' l') = (hdEq h h' && sameXs l l') := by rw [sameX]
theorem sameXs_len : ∀ (l l' : List Ex), l.length ≠ l'.length → sameXs l l' = false
  | [], [], h => absurd rfl h
  | [], _ :: _, _ => by rw [sameXs]
  | _ :: _, [], _ => by rw [sameXs]
  | x :: r, y :: r', h => by
    rw [sameXs, sameXs_len r r' (by simpa using h)]
    simp
theorem sameXs_take : ∀ (l l' : List Ex) (k : Nat) (x y : Ex), l[k]? = some x → l'[k]? = some y → sameXs (l.take (k + 1)) (l'.take (k + 1)) = (sameXs (l.take k) (l'.take k) && sameX x y)
  | [], _, k, x, y, h, _ => by simp at h
  | _ :: _, [], k, x, y, _, h => by simp at h
  | a :: r, b :: r', 0, x, y, h, h' => by
    obtain rfl : a = x := by simpa using h
    obtain rfl : b = y := by simpa using h'
    simp [sameXs]
  | a :: r, b :: r', k + 1, x, y, h, h' => by
    have := sameXs_take r r' k x y (by simpa using h) (by simpa using h')
    rw [List.take_succ_cons, List.take_succ_cons, List.take_succ_cons, List.take_succ_cons, sameXs, sameXs, this, Bool.and_assoc]
theorem sameXs_no : ∀ (l l' : List Ex) (k : Nat), sameXs (l.take k) (l'.take k) = false → l.length = l'.length → sameXs l l' = false
  | [], [], k, h, _ => by simp [sameXs] at h
  | [], _ :: _, _, _, h => by simp at h
  | _ :: _, [], _, _, h => by simp at h
  | a :: r, b :: r', 0, h, _ => by simp [sameXs] at h
  | a :: r, b :: r', k + 1, h, hl => by
    rw [List.take_succ_cons, List.take_succ_cons, sameXs] at h
    rw [sameXs]
    cases hs : sameX a b with
    | false => rfl
    | true =>
      rw [hs, Bool.true_and] at h
      rw [Bool.true_and]
      exact sameXs_no r r' k h (by simpa using hl)
/-- Two parts held against each other. -/
def SamesAt (f : FuncId) (w : World) (x y : Ex) : Prop :=
  ∀ (w1 : World) (A : Option Addr) (cap : Nat) (B : Option Addr) (cap' : Nat), Below w.heap.size w w1 → XsAt w1.heap.size w1 x.kids A → x.kids.length ≤ cap → XsAt w1.heap.size w1 y.kids B → y.kids.length ≤ cap' →
    Calls Tryz.prog f #[XV x.hd A x.kids.length cap, XV y.hd B y.kids.length cap'] w1 fun e w' => e = .returned (.bool (sameX x y)) ∧ Below w1.heap.size w1 w'
set_option maxHeartbeats 4000000 in
theorem equalFunc_of (l l' : List Ex) (A : Option Addr) (cap : Nat) (B : Option Addr) (cap' : Nat) (w : World) (hX : XsAt w.heap.size w l A) (hY : XsAt w.heap.size w l' B) (hl : l.length ≤ 1000000)
    (ih : ∀ (i : Nat) x y, l[i]? = some x → l'[i]? = some y → SamesAt 25 w x y) :
    Calls Tryz.prog 46 #[.slice A l.length cap, .slice B l'.length cap', .func (.func 25) #[] #[]] w fun e w' => e = .returned (.bool (sameXs l l')) ∧ Below w.heap.size w w' := by
  have HX := Lib.hid hX
  have HY := Lib.hid hY
  have HI := Lib.hid ih
  clear hX hY ih
  by_cases hll : l.length = l'.length
  · have HL := Lib.hid hll
    rw [← hll]
    clear hll
    go_enter Tryz.func46, Tryz.ntmps46
    go_wp2_with fail
    go_loopw [17, 7] (fun i _ W => ∃ k : Nat, k ≤ l.length ∧ i = .int .i64 k ∧ Hid (sameXs (l.take k) (l'.take k) = true) ∧ Hid (Below w.heap.size w W)) (fun i _ _ => l.length - (intOf i).toNat)
    case atStart => exact ⟨0, Nat.zero_le _, rfl, Lib.hid (by simp [sameXs]), Lib.hid (Below.refl _ _)⟩
    case round =>
      obtain ⟨k, hk, rfl, HS, HW⟩ := hrel
      by_cases hkl : k < l.length
      · obtain ⟨x, hx⟩ : ∃ x, l[k]? = some x := ⟨_, List.getElem?_eq_getElem hkl⟩
        obtain ⟨y, hy⟩ : ∃ y, l'[k]? = some y := ⟨_, List.getElem?_eq_getElem (by have := HL.out; omega)⟩
        obtain ⟨hx1, lx⟩ := x
        obtain ⟨hy1, ly⟩ := y
        obtain ⟨g, o, A1, c1', rfl, hg, hXc, hlx, hx2⟩ := HX.out.at hx
        obtain ⟨g', o', B1, c2', rfl, hg', hYc, hly, hy2⟩ := HY.out.at hy
        have HT := Lib.hid (sameXs_take l l' k _ _ hx hy)
        have HNo := Lib.hid (fun hf => sameXs_no l l' (k + 1) hf HL.out)
        obtain ⟨a0, a1, a2, a3, a4, a5, a6, a7⟩ := hXc.of (HW.out.block g hg)
        obtain ⟨b0, b1, b2, b3, b4, b5, b6, b7⟩ := hYc.of (HW.out.block g' hg')
        have hgr : g < wr.heap.size := Nat.lt_of_lt_of_le hg HW.out.size
        have hgr' : g' < wr.heap.size := Nat.lt_of_lt_of_le hg' HW.out.size
        have hba := bt HW.out (ba2 wr (xbox hx1 A1 lx.length c1') (xbox hy1 B1 ly.length c2'))
        have HC := Lib.hid (HI.out k _ _ hx hy _ A1 c1' B1 c2' hba (XsAt.next hx2 hba) hlx (XsAt.next hy2 hba) hly)
        have HBa := Lib.hid hba
        obtain ⟨bs, hbs⟩ : ∃ b, sameX (.mk hx1 lx) (.mk hy1 ly) = b := ⟨_, rfl⟩
        rw [hbs] at HC HT
        clear hXc hYc hx hy hx2 hy2 hba hbs
        cases bs
        · go_wp2_with fail
          refine HC.out.mono ?_
          rintro e w3 ⟨rfl, hb⟩
          go_wp2_with fail
          go_ret
          exact ⟨ret_bool (HNo.out (by rw [HT.out, Bool.and_false])).symm, bt HBa.out hb⟩
        · go_wp2_with fail
          refine HC.out.mono ?_
          rintro e w3 ⟨rfl, hb⟩
          have HB3 := Lib.hid (bt HBa.out hb)
          clear hb
          go_wp2_with fail
          go_roundw
          case rel =>
            first
              | exact ⟨k + 1, by omega, by go_num, Lib.hid (by rw [HT.out, HS.out]; rfl), HB3⟩
              | ((repeat apply Exists.intro); exact ⟨⟨k + 1, by omega, by go_num, Lib.hid (by rw [HT.out, HS.out]; rfl), HB3⟩, rfl⟩)
          case measure => simp [intOf]; omega
      · have hkk : k = l.length := by omega
        have HE := Lib.hid (show sameXs l l' = true by have := HS.out; rwa [hkk, List.take_length, HL.out, List.take_length] at this)
        go_wp2_with fail
        go_ret
        exact ⟨ret_bool HE.out.symm, HW.out⟩
  · have HL := Lib.hid (sameXs_len l l' hll)
    have hne : ¬ (l.length : Int) = (l'.length : Int) := by omega
    go_enter Tryz.func46, Tryz.ntmps46
    go_wp2_with fail
    go_ret
    exact ⟨ret_bool HL.out.symm, Below.refl _ _⟩
set_option maxRecDepth 100000 in
set_option maxHeartbeats 8000000 in
theorem same_n : ∀ (N : Nat) (h h' : Hd) (l l' : List Ex), cnt (.mk h l) ≤ N → N ≤ 1000000 → cnt (.mk h' l') ≤ 1000000 → ∀ (w : World) (A : Option Addr) (cap : Nat) (B : Option Addr) (cap' : Nat), XsAt w.heap.size w l A → l.length ≤ cap → XsAt w.heap.size w l' B → l'.length ≤ cap' →
    Calls Tryz.prog 25 #[XV h A l.length cap, XV h' B l'.length cap'] w fun e w' => e = .returned (.bool (sameX (.mk h l) (.mk h' l'))) ∧ Below w.heap.size w w' := by
  intro N
  induction N with
  | zero => intro h h' l l' hc; have := cnt_pos (.mk h l); omega
  | succ N ih =>
    intro h h' l l' hc hN hc' w A cap B cap' hX hcap hY hcap'
    have hba := ba2 w (xbox h A l.length cap) (xbox h' B l'.length cap')
    have hlen := cntL_len l
    have hlen' := cntL_len l'
    rw [cnt_mk] at hc hc'
    have HE := Lib.hid (equalFunc_of l l' A cap B cap' ((w.alloc (xbox h A l.length cap)).alloc (xbox h' B l'.length cap')) (hX.next hba) (hY.next hba) (by omega) (fun i x y hx hy => by
      obtain ⟨hx1, lx⟩ := x
      obtain ⟨hy1, ly⟩ := y
      have h1 := cntL_mem hx
      have h2 := cntL_mem hy
      exact fun w1 A1 c1 B1 c2 _ hx2 hlx hy2 hly => ih hx1 hy1 lx ly (by omega) (by omega) (by omega) w1 A1 c1 B1 c2 hx2 hlx hy2 hly))
    have HBa := Lib.hid hba
    have HS := Lib.hid (sameX_mk h h' l l')
    obtain ⟨bb, hbb⟩ : ∃ b, sameXs l l' = b := ⟨_, rfl⟩
    rw [hbb] at HE HS
    clear hX hY ih hba hbb
    obtain ⟨k, n, vk, vn, vs, tab, col⟩ := h
    obtain ⟨k', n', vk', vn', vs', tab', col'⟩ := h'
    have hq := fun w1 => run_eqV vk vn vs vk' vn' vs' w1
    obtain ⟨b3, hb3⟩ : ∃ b, eqV vk vn vs vk' vn' vs' = b := ⟨_, rfl⟩
    obtain ⟨b1, hb1⟩ : ∃ b, (k == k') = b := ⟨_, rfl⟩
    obtain ⟨b2, hb2⟩ : ∃ b, (n == n') = b := ⟨_, rfl⟩
    obtain ⟨b4, hb4⟩ : ∃ b, (tab.toList == tab'.toList) = b := ⟨_, rfl⟩
    obtain ⟨b5, hb5⟩ : ∃ b, (col.toList == col'.toList) = b := ⟨_, rfl⟩
    rw [hb3] at hq
    have HS2 := Lib.hid (show sameX (.mk ⟨k, n, vk, vn, vs, tab, col⟩ l) (.mk ⟨k', n', vk', vn', vs', tab', col'⟩ l') = (b1 && b2 && b3 && b4 && b5 && bb) by rw [HS.out, hdEq]; simp only [hb1, hb2, hb3, hb4, hb5])
    clear HS hb3
    rcases (show b1 = false ∨ (b1 = true ∧ b2 = false) ∨ (b1 = true ∧ b2 = true ∧ b3 = false) ∨ (b1 = true ∧ b2 = true ∧ b3 = true ∧ b4 = false) ∨ (b1 = true ∧ b2 = true ∧ b3 = true ∧ b4 = true ∧ b5 = false) ∨ (b1 = true ∧ b2 = true ∧ b3 = true ∧ b4 = true ∧ b5 = true) by cases b1 <;> cases b2 <;> cases b3 <;> cases b4 <;> cases b5 <;> simp) with hz | ⟨hz, hz2⟩ | ⟨hz, hz2, hz3⟩ | ⟨hz, hz2, hz3, hz4⟩ | ⟨hz, hz2, hz3, hz4, hz5⟩ | ⟨hz, hz2, hz3, hz4, hz5⟩
    all_goals
      subst hz
      try subst hz2
      try subst hz3
      try subst hz4
      try subst hz5
      go_enter Tryz.func25, Tryz.ntmps25
      go_wp2_with (go_at_call 46; refine HE.out.mono ?_; rintro e w1 ⟨rfl, hb⟩)
      go_ret
      first
        | exact ⟨ret_bool (by rw [HS2.out]; simp), HBa.out⟩
        | exact ⟨ret_bool (by rw [HS2.out]; simp), bt HBa.out hb⟩
theorem xsame_any (h h' : Hd) (l l' : List Ex) (w : World) (A : Option Addr) (cap : Nat) (B : Option Addr) (cap' : Nat) (hX : XsAt w.heap.size w l A) (hcap : l.length ≤ cap) (hY : XsAt w.heap.size w l' B) (hcap' : l'.length ≤ cap') (hc : cnt (.mk h l) ≤ 1000000) (hc' : cnt (.mk h' l') ≤ 1000000) :
    Calls Tryz.prog 25 #[XV h A l.length cap, XV h' B l'.length cap'] w fun e w' => e = .returned (.bool (sameX (.mk h l) (.mk h' l'))) ∧ Below w.heap.size w w' :=
  same_n _ h h' l l' hc (Nat.le_refl _) hc' w A cap B cap' hX hcap hY hcap'
set_option maxRecDepth 100000 in
set_option maxHeartbeats 16000000 in
theorem refSame_n : ∀ (N : Nat) (h h' : Hd) (l l' : List Ex), cnt (.mk h l) ≤ N → N ≤ 1000000 → cnt (.mk h' l') ≤ 1000000 → ∀ (w : World) (A : Option Addr) (cap : Nat) (B : Option Addr) (cap' : Nat), XsAt w.heap.size w l A → l.length ≤ cap → XsAt w.heap.size w l' B → l'.length ≤ cap' →
    Calls Tryz.prog 17 #[XV h A l.length cap, XV h' B l'.length cap'] w fun e w' => e = .returned (.bool (sameX (.mk h l) (.mk h' l'))) ∧ Below w.heap.size w w' := by
  intro N
  induction N with
  | zero => intro h h' l l' hc; have := cnt_pos (.mk h l); omega
  | succ N ih =>
    intro h h' l l' hc hN hc' w A cap B cap' hX hcap hY hcap'
    have hba := ba2 w (xbox h A l.length cap) (xbox h' B l'.length cap')
    have HX0 := Lib.hid (((ba (w.alloc (xbox h A l.length cap)) (xbox h' B l'.length cap')).block w.heap.size (by rw [World.size_alloc]; omega)).trans (MapKept.heap_alloc w (xbox h A l.length cap)).1)
    have HX1 := Lib.hid ((MapKept.heap_alloc (w.alloc (xbox h A l.length cap)) (xbox h' B l'.length cap')).1)
    rw [World.size_alloc] at HX1
    have hlen := cntL_len l
    have hlen' := cntL_len l'
    rw [cnt_mk] at hc hc'
    have HI := Lib.hid (show ∀ (i : Nat) x y, l[i]? = some x → l'[i]? = some y → SamesAt 17 w x y from fun i x y hx hy => by
      obtain ⟨hx1, lx⟩ := x
      obtain ⟨hy1, ly⟩ := y
      have h1 := cntL_mem hx
      have h2 := cntL_mem hy
      exact fun w1 A1 c1 B1 c2 _ hx2 hlx hy2 hly => ih hx1 hy1 lx ly (by omega) (by omega) (by omega) w1 A1 c1 B1 c2 hx2 hlx hy2 hly)
    have HBa := Lib.hid hba
    have HXl := Lib.hid hX
    have HYl := Lib.hid hY
    have HS := Lib.hid (sameX_mk h h' l l')
    have hl6 : l.length ≤ 1000000 := by omega
    have hl7 : l'.length ≤ 1000000 := by omega
    clear hX hY ih hba
    obtain ⟨k, n, vk, vn, vs, tab, col⟩ := h
    obtain ⟨k', n', vk', vn', vs', tab', col'⟩ := h'
    have hq := fun w1 => run_neV vk vn vs vk' vn' vs' w1
    obtain ⟨b3, hb3⟩ : ∃ b, eqV vk vn vs vk' vn' vs' = b := ⟨_, rfl⟩
    obtain ⟨b1, hb1⟩ : ∃ b, (k == k') = b := ⟨_, rfl⟩
    obtain ⟨b2, hb2⟩ : ∃ b, (n == n') = b := ⟨_, rfl⟩
    obtain ⟨b4, hb4⟩ : ∃ b, (tab.toList == tab'.toList) = b := ⟨_, rfl⟩
    obtain ⟨b5, hb5⟩ : ∃ b, (col.toList == col'.toList) = b := ⟨_, rfl⟩
    rw [hb3] at hq
    have HS2 := Lib.hid (show sameX (.mk ⟨k, n, vk, vn, vs, tab, col⟩ l) (.mk ⟨k', n', vk', vn', vs', tab', col'⟩ l') = (b1 && b2 && b3 && b4 && b5 && sameXs l l') by rw [HS.out, hdEq]; simp only [hb1, hb2, hb3, hb4, hb5])
    clear HS hb3
    have hk1 : (k != k') = !b1 := by rw [bne, hb1]
    have hk2 : (n != n') = !b2 := by rw [bne, hb2]
    have hk4 : (tab.toList != tab'.toList) = !b4 := by rw [bne, hb4]
    have hk5 : (col.toList != col'.toList) = !b5 := by rw [bne, hb5]
    by_cases hll : l.length = l'.length
    · have HL := Lib.hid hll
      rw [← hll] at HX0 HX1 HBa ⊢
      clear hll
      rcases (show b1 = false ∨ (b1 = true ∧ b2 = false) ∨ (b1 = true ∧ b2 = true ∧ b3 = false) ∨ (b1 = true ∧ b2 = true ∧ b3 = true ∧ b4 = false) ∨ (b1 = true ∧ b2 = true ∧ b3 = true ∧ b4 = true ∧ b5 = false) ∨ (b1 = true ∧ b2 = true ∧ b3 = true ∧ b4 = true ∧ b5 = true) by cases b1 <;> cases b2 <;> cases b3 <;> cases b4 <;> cases b5 <;> simp) with hz | ⟨hz, hz2⟩ | ⟨hz, hz2, hz3⟩ | ⟨hz, hz2, hz3, hz4⟩ | ⟨hz, hz2, hz3, hz4, hz5⟩ | ⟨hz, hz2, hz3, hz4, hz5⟩
      all_goals
        subst hz
        try subst hz2
        try subst hz3
        try subst hz4
        try subst hz5
        go_enter Tryz.func17, Tryz.ntmps17
        go_wp2_with fail
      iterate 5
        (go_ret
         exact ⟨ret_bool (by rw [HS2.out]; simp), HBa.out⟩)
      go_loopw [5] (fun i W => ∃ j : Nat, j ≤ l.length ∧ i = .int .i64 j ∧ Hid (sameXs (l.take j) (l'.take j) = true) ∧ Hid (Below ((w.alloc (xbox ⟨k, n, vk, vn, vs, tab, col⟩ A l.length cap)).alloc (xbox ⟨k', n', vk', vn', vs', tab', col'⟩ B l.length cap')).heap.size ((w.alloc (xbox ⟨k, n, vk, vn, vs, tab, col⟩ A l.length cap)).alloc (xbox ⟨k', n', vk', vn', vs', tab', col'⟩ B l.length cap')) W)) (fun i _ => l.length - (intOf i).toNat)
      case atStart => exact ⟨0, Nat.zero_le _, rfl, Lib.hid (by simp [sameXs]), Lib.hid (Below.refl _ _)⟩
      case round =>
        obtain ⟨j, hj, rfl, HSm, HW⟩ := hrel
        obtain ⟨⟨_, _, _, _, _, _, _, p7⟩, _⟩ := cell8 ((HW.out.block w.heap.size (by rw [World.size_alloc, World.size_alloc]; omega)).trans HX0.out)
        obtain ⟨⟨_, _, _, _, _, _, _, q7⟩, _⟩ := cell8 ((HW.out.block (w.heap.size + 1) (by rw [World.size_alloc, World.size_alloc]; omega)).trans HX1.out)
        have hbw := bt HBa.out HW.out
        by_cases hkl : j < l.length
        · obtain ⟨x, hx⟩ : ∃ x, l[j]? = some x := ⟨_, List.getElem?_eq_getElem hkl⟩
          obtain ⟨y, hy⟩ : ∃ y, l'[j]? = some y := ⟨_, List.getElem?_eq_getElem (by have := HL.out; omega)⟩
          obtain ⟨⟨k1, n1, vk1, vn1, vs1, tab1, col1⟩, lx⟩ := x
          obtain ⟨⟨k2, n2, vk2, vn2, vs2, tab2, col2⟩, ly⟩ := y
          obtain ⟨g, o, A1, c1', rfl, hg, hXc, hlx, hx2⟩ := HXl.out.at hx
          obtain ⟨g', o', B1, c2', rfl, hg', hYc, hly, hy2⟩ := HYl.out.at hy
          have HT := Lib.hid (sameXs_take l l' j _ _ hx hy)
          have HNo := Lib.hid (fun hf => sameXs_no l l' (j + 1) hf HL.out)
          obtain ⟨a0, a1, a2, a3, a4, a5, a6, a7⟩ := hXc.of (hbw.block g hg)
          obtain ⟨d0, d1, d2, d3, d4, d5, d6, d7⟩ := hYc.of (hbw.block g' hg')
          have hgr : g < wr.heap.size := Nat.lt_of_lt_of_le hg hbw.size
          have hgr' : g' < wr.heap.size := Nat.lt_of_lt_of_le hg' hbw.size
          have hs1 : w.heap.size < wr.heap.size := by have := HW.out.size; rw [World.size_alloc, World.size_alloc] at this; omega
          have hs2 : w.heap.size + 1 < wr.heap.size := by have := HW.out.size; rw [World.size_alloc, World.size_alloc] at this; omega
          obtain ⟨bs, hbs⟩ : ∃ b, sameX (.mk ⟨k1, n1, vk1, vn1, vs1, tab1, col1⟩ lx) (.mk ⟨k2, n2, vk2, vn2, vs2, tab2, col2⟩ ly) = b := ⟨_, rfl⟩
          have HC := Lib.hid (show ∀ w1, Below wr.heap.size wr w1 → Calls Tryz.prog 17 #[XV ⟨k1, n1, vk1, vn1, vs1, tab1, col1⟩ A1 lx.length c1', XV ⟨k2, n2, vk2, vn2, vs2, tab2, col2⟩ B1 ly.length c2'] w1 fun e w' => e = .returned (.bool bs) ∧ Below w1.heap.size w1 w' from fun w1 hb1 => by
            rw [← hbs]
            exact HI.out j _ _ hx hy w1 A1 c1' B1 c2' (bt hbw hb1) (XsAt.next hx2 (bt hbw hb1)) hlx (XsAt.next hy2 (bt hbw hb1)) hly)
          rw [hbs] at HT
          have HBw := Lib.hid hbw
          have hBd := Below.drew (Below.refl wr.heap.size wr)
          simp only at a0 a1 a2 a3 a4 a5 a6 a7 d0 d1 d2 d3 d4 d5 d6 d7
          clear hXc hYc hx hy hx2 hy2 hbw hbs
          cases bs
          all_goals
            go_wp2_with fail
            go_region_held3 (fun w' => Below wr.heap.size wr w' ∧ w'.cell? ⟨w.heap.size, 7, none⟩ = some (.slice (some ⟨g, o, none⟩) l.length cap) ∧ w'.cell? ⟨w.heap.size + 1, 7, none⟩ = some (.slice (some ⟨g', o', none⟩) l.length cap') ∧
                w'.cell? ⟨g, o + j * 8, none⟩ = some (.int .i64 k1) ∧ w'.cell? ⟨g, o + j * 8 + 1, none⟩ = some (.int .i64 n1) ∧ w'.cell? ⟨g, o + j * 8 + 2, none⟩ = some (.int .i64 vk1) ∧ w'.cell? ⟨g, o + j * 8 + 3, none⟩ = some (.int .i64 vn1) ∧
                w'.cell? ⟨g, o + j * 8 + 4, none⟩ = some (.string vs1) ∧ w'.cell? ⟨g, o + j * 8 + 5, none⟩ = some (.string tab1) ∧ w'.cell? ⟨g, o + j * 8 + 6, none⟩ = some (.string col1) ∧ w'.cell? ⟨g, o + j * 8 + 7, none⟩ = some (.slice A1 lx.length c1') ∧
                w'.cell? ⟨g', o' + j * 8, none⟩ = some (.int .i64 k2) ∧ w'.cell? ⟨g', o' + j * 8 + 1, none⟩ = some (.int .i64 n2) ∧ w'.cell? ⟨g', o' + j * 8 + 2, none⟩ = some (.int .i64 vk2) ∧ w'.cell? ⟨g', o' + j * 8 + 3, none⟩ = some (.int .i64 vn2) ∧
                w'.cell? ⟨g', o' + j * 8 + 4, none⟩ = some (.string vs2) ∧ w'.cell? ⟨g', o' + j * 8 + 5, none⟩ = some (.string tab2) ∧ w'.cell? ⟨g', o' + j * 8 + 6, none⟩ = some (.string col2) ∧ w'.cell? ⟨g', o' + j * 8 + 7, none⟩ = some (.slice B1 ly.length c2'))
              (first
                | exact ⟨hBd, p7, q7, a0, a1, a2, a3, a4, a5, a6, a7, d0, d1, d2, d3, d4, d5, d6, d7⟩
                | ((try go_split_ands)
                   refine ⟨?_, ?_, ?_, ?_, ?_, ?_, ?_, ?_, ?_, ?_, ?_, ?_, ?_, ?_, ?_, ?_, ?_, ?_, ?_⟩
                   all_goals first | assumption | (exact Below.drew (by assumption)) | (exact bt (by assumption) hb) | (exact cell_kept hb (by assumption)) | go_keep))
              (first
                | (go_at_call 17; refine (HC.out _ (by first | assumption | exact Below.drew (by assumption))).mono ?_; rintro e w' ⟨rfl, hb⟩))
            rename_i hold
            have HHo := Lib.hid hold.1
            clear hold
          · go_wp2_with fail
            go_ret
            exact ⟨ret_bool (by rw [HS2.out, HNo.out (by rw [HT.out, Bool.and_false])]; simp), bt HBw.out HHo.out⟩
          · go_wp2_with fail
            go_roundw
            case rel => exact ⟨j + 1, by omega, by go_num, Lib.hid (by rw [HT.out, HSm.out]; rfl), Lib.hid (HW.out.trans (HHo.out.mono HW.out.size))⟩
            case measure => simp [intOf]; omega
        · have hkk : j = l.length := by omega
          have HE := Lib.hid (show sameXs l l' = true by have := HSm.out; rwa [hkk, List.take_length, HL.out, List.take_length] at this)
          have HBw := Lib.hid hbw
          clear hbw
          go_wp2_with fail
          go_ret
          exact ⟨ret_bool (by rw [HS2.out, HE.out]; rfl), HBw.out⟩
    · have hle : ((l.length : Int) != (l'.length : Int)) = true := by simp; omega
      have HNo := Lib.hid (sameXs_len l l' hll)
      cases b1 <;> cases b2 <;> cases b3 <;> cases b4 <;> cases b5
      all_goals
        go_enter Tryz.func17, Tryz.ntmps17
        go_wp2_with fail
        go_ret
        exact ⟨ret_bool (by rw [HS2.out, HNo.out]; simp), HBa.out⟩
end Go.Proofs.YteckhaicodmakaaGreatDoor
