/-
  show.
-/
import Derived.Test.YteckhaicodmakaaGreatDoorEx7
import Derived.Test.YteckhaicodmakaaGreatDoorExv
import Derived.Deep.RegionHeld3
namespace Go.Proofs.YteckhaicodmakaaGreatDoor
open Go.RowKit Go.Shelf

def strU (s : String) : List UInt8 := s.toUTF8.data.toList
/-- What stands between two parts. -/
def btw : List (List UInt8) := [[], [79, 82], [65, 78, 68], [], [61], [60, 62], [60], [60, 61], [62], [62, 61], [43], [45], [42], [47], [37]]
structure TbX (w : World) : Prop where
  t : Tabs w
  p : Pows w
  b : ∀ (j : Nat) b, btw[j]? = some b → w.cell? ⟨0, j, none⟩ = some (.string ⟨b.toArray⟩)
theorem TbX.kept {w w' : World} (h : TbX w) (hb : Below w.heap.size w w') : TbX w' :=
  ⟨h.t.kept hb, h.p.kept hb, fun j b hj => cell_kept hb (h.b j b hj)⟩
def opX (n : Int) (f s : List UInt8) : List UInt8 :=
  if n = 3 then [78, 79, 84, 32] ++ f else if n = 15 then [45, 32] ++ f else if n = 16 then f ++ [32, 73, 83, 32, 78, 85, 76, 76] else if n = 17 then f ++ [32, 73, 83, 32, 78, 79, 84, 32, 78, 85, 76, 76]
  else f ++ [32] ++ btw.getD n.toNat [] ++ [32] ++ s
def aggX (n : Int) (f : List UInt8) : List UInt8 :=
  if n = 2 then [67, 79, 85, 78, 84, 40] ++ f ++ [41] else if n = 3 then [83, 85, 77, 40] ++ f ++ [41] else if n = 4 then [77, 73, 78, 40] ++ f ++ [41] else if n = 5 then [77, 65, 88, 40] ++ f ++ [41]
  else [67, 79, 85, 78, 84, 40, 42, 41]
def colX (t c : ByteArray) : List UInt8 := if t.toList.isEmpty then c.data.toList else t.data.toList ++ [46] ++ c.data.toList
mutual
/-- The text of an expression. -/
def shwX : Ex → List UInt8
  | .mk h l =>
    if h.k = 1 then showL h.vk h.vn h.vs
    else if h.k = 2 then colX h.tab h.col
    else if h.k = 4 then aggX h.n ((shwXs l).getD 0 [])
    else [40] ++ opX h.n ((shwXs l).getD 0 []) ((shwXs l).getD 1 []) ++ [41]
def shwXs : List Ex → List (List UInt8)
  | [] => []
  | x :: r => shwX x :: shwXs r
end
mutual
def FitX : Ex → Prop
  | .mk h l => fitsB h l.length = true ∧ FitXs l
def FitXs : List Ex → Prop
  | [] => True
  | x :: r => FitX x ∧ FitXs r
end
theorem FitXs.at : ∀ {l : List Ex}, FitXs l → ∀ {i : Nat} {x : Ex}, l[i]? = some x → FitX x
  | [], _, i, x, h => by simp at h
  | y :: r, H, 0, x, h => by
    obtain rfl : y = x := by simpa using h
    rw [FitXs] at H; exact H.1
  | y :: r, H, i + 1, x, h => by
    rw [FitXs] at H; exact FitXs.at H.2 (i := i) (by simpa using h)
theorem dec_lenE : ∀ u : Nat, (Lib.decDigits u).length ≤ u + 1 := by
  intro u
  induction u using Nat.strongRecOn with
  | _ u ih =>
    by_cases h : u < 10
    · rw [Lib.decDigits, dif_pos h]; simp
    · rw [Lib.decDigits, dif_neg h]
      have := ih (u / 10) (by omega)
      simp; omega
theorem itoa_lenE (n : Int) : (Lib.itoa n).length ≤ n.natAbs + 2 := by
  have h1 := dec_lenE n.toNat
  have h2 := dec_lenE n.natAbs
  unfold Lib.itoa
  split
  all_goals
    simp
    try omega
theorem showL_len (k n : Int) (s : ByteArray) : (showL k n s).length ≤ 9007199254741000 := by
  unfold showL
  split
  · rename_i ho
    split
    · split <;> simp
    · rename_i h1
      split
      · rename_i h2
        subst h2
        have hb : -9007199254740991 ≤ n ∧ n ≤ 9007199254740991 := by simp [okV] at ho; exact ho.1
        have := itoa_lenE n
        omega
      · rename_i h2
        split
        · rename_i h3
          subst h3
          have h64 : s.size ≤ 64 := by simp [okV] at ho; exact ho.2
          have hd := dbl_le s.data.toList
          have hsz : s.data.toList.length = s.size := by simp
          simp; omega
        · simp
  · simp
theorem btw_len (n : Nat) : (btw.getD n []).length ≤ 3 := by
  by_cases h : n < 15
  · have : ∀ k : Fin 15, (btw.getD k.1 []).length ≤ 3 := by decide +kernel
    exact this ⟨n, h⟩
  · rw [List.getD_eq_getElem?_getD, List.getElem?_eq_none (by simp [btw]; omega)]; simp
theorem opX_len (n : Int) (f s : List UInt8) : (opX n f s).length ≤ f.length + s.length + 13 := by
  have := btw_len n.toNat
  unfold opX
  repeat' split
  all_goals
    simp only [List.length_append, List.length_cons, List.length_nil]
    omega
theorem aggX_len (n : Int) (f : List UInt8) : (aggX n f).length ≤ f.length + 8 := by
  unfold aggX
  repeat' split
  all_goals simp
mutual
theorem shwX_len : ∀ x : Ex, AllSm x → (shwX x).length ≤ 9007199254742000 * cnt x
  | .mk h l, H => by
    rw [AllSm] at H
    obtain ⟨h1, h2⟩ := shwXs_len l H.2
    have hl := showL_len h.vk h.vn h.vs
    have ht := H.1.t
    have hc := H.1.c
    have ho := opX_len h.n ((shwXs l).getD 0 []) ((shwXs l).getD 1 [])
    have ha := aggX_len h.n ((shwXs l).getD 0 [])
    have hcx : (colX h.tab h.col).length ≤ 401 := by
      unfold colX; split
      · simp; omega
      · simp; omega
    rw [shwX, cnt_mk]
    repeat' split
    · omega
    · omega
    · omega
    · simp only [List.length_append, List.length_singleton]; omega
theorem shwXs_len : ∀ l : List Ex, AllSmL l → ((shwXs l).getD 0 []).length + ((shwXs l).getD 1 []).length ≤ 9007199254742000 * cntL l ∧ ((shwXs l).getD 0 []).length ≤ 9007199254742000 * cntL l
  | [], _ => by simp [shwXs]
  | [x], H => by
    rw [AllSmL] at H
    have := shwX_len x H.1
    simp only [shwXs, cntL, List.getD_cons_zero, List.getD_cons_succ, List.getD_nil, List.length_nil]
    omega
  | x :: y :: r, H => by
    rw [AllSmL, AllSmL] at H
    have h1 := shwX_len x H.1
    have h2 := shwX_len y H.2.1
    simp only [shwXs, cntL, List.getD_cons_zero, List.getD_cons_succ]
    omega
end
theorem showColumn_any (t c : ByteArray) (w : World) (ht : t.size ≤ 200) (hc : c.size ≤ 200) :
    Calls Tryz.prog 58 #[.string t, .string c] w fun e w' => e = .returned (.string (bstr (colX t c))) ∧ w' = w := by
  cases hte : t.toList.isEmpty
  · have HT := Lib.hid hte
    go_enter Tryz.func58, Tryz.ntmps58
    go_wp2
    go_ret
    exact ⟨ret_str (by apply ByteArray.ext; simp [bstr, colX, HT.out]), rfl⟩
  · have HT := Lib.hid hte
    go_enter Tryz.func58, Tryz.ntmps58
    go_wp2
    go_ret
    exact ⟨ret_str (by apply ByteArray.ext; simp [bstr, colX, HT.out]), rfl⟩
/-- A part of an expression, shown. -/
def ShowsAt (w : World) (x : Ex) (A : Option Addr) (cap : Nat) : Prop :=
  ∀ w1, Below w.heap.size w w1 → Calls Tryz.prog 42 #[XV x.hd A x.kids.length cap] w1 fun e w' => e = .returned (.string (bstr (shwX x))) ∧ Below w1.heap.size w1 w'
set_option maxHeartbeats 2000000 in
theorem showAgg_of (n vk vn : Int) (vs tab col : ByteArray) (x : Ex) (g o cap : Nat) (A' : Option Addr) (cap' : Nat) (w : World) (hg : g < w.heap.size) (hX : XC w g o x.hd A' x.kids.length cap') (ih : ShowsAt w x A' cap') (hlen : (shwX x).length ≤ 4611686018427387904) (hn : 2 ≤ n ∧ n ≤ 5) :
    Calls Tryz.prog 59 #[XV ⟨4, n, vk, vn, vs, tab, col⟩ (some ⟨g, o, none⟩) 1 cap] w fun e w' => e = .returned (.string (bstr (aggX n (shwX x)))) ∧ Below w.heap.size w w' := by
  have HI := Lib.hid (ih _ (ba w (xbox ⟨4, n, vk, vn, vs, tab, col⟩ (some ⟨g, o, none⟩) 1 cap)))
  have HX1 := Lib.hid (MapKept.heap_alloc w (xbox ⟨4, n, vk, vn, vs, tab, col⟩ (some ⟨g, o, none⟩) 1 cap)).1
  obtain ⟨⟨k', n', vk', vn', vs', tab', col'⟩, l'⟩ := x
  obtain ⟨a0, a1, a2, a3, a4, a5, a6, a7⟩ := hX
  obtain ⟨T, hT⟩ : ∃ T, shwX (.mk ⟨k', n', vk', vn', vs', tab', col'⟩ l') = T := ⟨_, rfl⟩
  rw [hT] at HI hlen ⊢
  obtain ⟨TB, hTB⟩ : ∃ TB, bstr T = TB := ⟨_, rfl⟩
  have HTB := Lib.hid hTB.symm
  have hTs : TB.size ≤ 4611686018427387904 := by rw [← hTB]; show T.toArray.size ≤ _; simpa using hlen
  rw [hTB] at HI
  simp only [Ex.hd, Ex.kids] at HI a0 a1 a2 a3 a4 a5 a6 a7
  clear ih hT hTB hlen
  rcases (show n = 2 ∨ n = 3 ∨ n = 4 ∨ n = 5 by omega) with h2 | h3 | h4 | h5
  · subst h2
    go_enter Tryz.func59, Tryz.ntmps59
    go_wp2_with fail
    refine HI.out.mono ?_
    rintro e w1 ⟨rfl, hb⟩
    obtain ⟨⟨c0, c1, c2, c3, c4, c5, c6, c7⟩, _⟩ := cell8 ((hb.block w.heap.size (by rw [World.size_alloc]; omega)).trans HX1.out)
    have HB := Lib.hid (bt (ba w (xbox ⟨4, 2, vk, vn, vs, tab, col⟩ (some ⟨g, o, none⟩) 1 cap)) hb)
    clear hb a0 a1 a2 a3 a4 a5 a6 a7
    go_wp2_with fail
    go_ret
    exact ⟨ret_str (by rw [HTB.out]; apply ByteArray.ext; simp [bstr, aggX]), HB.out⟩
  · subst h3
    go_enter Tryz.func59, Tryz.ntmps59
    go_wp2_with fail
    refine HI.out.mono ?_
    rintro e w1 ⟨rfl, hb⟩
    obtain ⟨⟨c0, c1, c2, c3, c4, c5, c6, c7⟩, _⟩ := cell8 ((hb.block w.heap.size (by rw [World.size_alloc]; omega)).trans HX1.out)
    have HB := Lib.hid (bt (ba w (xbox ⟨4, 3, vk, vn, vs, tab, col⟩ (some ⟨g, o, none⟩) 1 cap)) hb)
    clear hb a0 a1 a2 a3 a4 a5 a6 a7
    go_wp2_with fail
    go_ret
    exact ⟨ret_str (by rw [HTB.out]; apply ByteArray.ext; simp [bstr, aggX]), HB.out⟩
  · subst h4
    go_enter Tryz.func59, Tryz.ntmps59
    go_wp2_with fail
    refine HI.out.mono ?_
    rintro e w1 ⟨rfl, hb⟩
    obtain ⟨⟨c0, c1, c2, c3, c4, c5, c6, c7⟩, _⟩ := cell8 ((hb.block w.heap.size (by rw [World.size_alloc]; omega)).trans HX1.out)
    have HB := Lib.hid (bt (ba w (xbox ⟨4, 4, vk, vn, vs, tab, col⟩ (some ⟨g, o, none⟩) 1 cap)) hb)
    clear hb a0 a1 a2 a3 a4 a5 a6 a7
    go_wp2_with fail
    go_ret
    exact ⟨ret_str (by rw [HTB.out]; apply ByteArray.ext; simp [bstr, aggX]), HB.out⟩
  · subst h5
    go_enter Tryz.func59, Tryz.ntmps59
    go_wp2_with fail
    refine HI.out.mono ?_
    rintro e w1 ⟨rfl, hb⟩
    obtain ⟨⟨c0, c1, c2, c3, c4, c5, c6, c7⟩, _⟩ := cell8 ((hb.block w.heap.size (by rw [World.size_alloc]; omega)).trans HX1.out)
    have HB := Lib.hid (bt (ba w (xbox ⟨4, 5, vk, vn, vs, tab, col⟩ (some ⟨g, o, none⟩) 1 cap)) hb)
    clear hb a0 a1 a2 a3 a4 a5 a6 a7
    go_wp2_with fail
    go_ret
    exact ⟨ret_str (by rw [HTB.out]; apply ByteArray.ext; simp [bstr, aggX]), HB.out⟩

set_option maxHeartbeats 2000000 in
theorem showOp1_of (n vk vn : Int) (vs tab col : ByteArray) (x : Ex) (g o cap : Nat) (A' : Option Addr) (cap' : Nat) (w : World) (hg : g < w.heap.size) (hX : XC w g o x.hd A' x.kids.length cap') (ih : ShowsAt w x A' cap') (hlen : (shwX x).length ≤ 4611686018427387904) (hn : n = 3 ∨ n = 15 ∨ n = 16 ∨ n = 17) (S : List UInt8) :
    Calls Tryz.prog 60 #[XV ⟨3, n, vk, vn, vs, tab, col⟩ (some ⟨g, o, none⟩) 1 cap] w fun e w' => e = .returned (.string (bstr (opX n (shwX x) S))) ∧ Below w.heap.size w w' := by
  have HI := Lib.hid (ih _ (ba w (xbox ⟨3, n, vk, vn, vs, tab, col⟩ (some ⟨g, o, none⟩) 1 cap)))
  have HX1 := Lib.hid (MapKept.heap_alloc w (xbox ⟨3, n, vk, vn, vs, tab, col⟩ (some ⟨g, o, none⟩) 1 cap)).1
  obtain ⟨⟨k', n', vk', vn', vs', tab', col'⟩, l'⟩ := x
  obtain ⟨a0, a1, a2, a3, a4, a5, a6, a7⟩ := hX
  obtain ⟨T, hT⟩ : ∃ T, shwX (.mk ⟨k', n', vk', vn', vs', tab', col'⟩ l') = T := ⟨_, rfl⟩
  rw [hT] at HI hlen ⊢
  obtain ⟨TB, hTB⟩ : ∃ TB, bstr T = TB := ⟨_, rfl⟩
  have HTB := Lib.hid hTB.symm
  have hTs : TB.size ≤ 4611686018427387904 := by rw [← hTB]; show T.toArray.size ≤ _; simpa using hlen
  rw [hTB] at HI
  simp only [Ex.hd, Ex.kids] at HI a0 a1 a2 a3 a4 a5 a6 a7
  clear ih hT hTB hlen
  rcases hn with h3 | h15 | h16 | h17
  · subst h3
    go_enter Tryz.func60, Tryz.ntmps60
    go_wp2_with fail
    refine HI.out.mono ?_
    rintro e w1 ⟨rfl, hb⟩
    obtain ⟨⟨c0, c1, c2, c3, c4, c5, c6, c7⟩, _⟩ := cell8 ((hb.block w.heap.size (by rw [World.size_alloc]; omega)).trans HX1.out)
    have HB := Lib.hid (bt (ba w (xbox ⟨3, 3, vk, vn, vs, tab, col⟩ (some ⟨g, o, none⟩) 1 cap)) hb)
    clear hb a0 a1 a2 a3 a4 a5 a6 a7
    go_wp2_with fail
    go_ret
    exact ⟨ret_str (by rw [HTB.out]; apply ByteArray.ext; simp [bstr, opX]), HB.out⟩
  · subst h15
    go_enter Tryz.func60, Tryz.ntmps60
    go_wp2_with fail
    refine HI.out.mono ?_
    rintro e w1 ⟨rfl, hb⟩
    obtain ⟨⟨c0, c1, c2, c3, c4, c5, c6, c7⟩, _⟩ := cell8 ((hb.block w.heap.size (by rw [World.size_alloc]; omega)).trans HX1.out)
    have HB := Lib.hid (bt (ba w (xbox ⟨3, 15, vk, vn, vs, tab, col⟩ (some ⟨g, o, none⟩) 1 cap)) hb)
    clear hb a0 a1 a2 a3 a4 a5 a6 a7
    go_wp2_with fail
    go_ret
    exact ⟨ret_str (by rw [HTB.out]; apply ByteArray.ext; simp [bstr, opX]), HB.out⟩
  · subst h16
    go_enter Tryz.func60, Tryz.ntmps60
    go_wp2_with fail
    refine HI.out.mono ?_
    rintro e w1 ⟨rfl, hb⟩
    obtain ⟨⟨c0, c1, c2, c3, c4, c5, c6, c7⟩, _⟩ := cell8 ((hb.block w.heap.size (by rw [World.size_alloc]; omega)).trans HX1.out)
    have HB := Lib.hid (bt (ba w (xbox ⟨3, 16, vk, vn, vs, tab, col⟩ (some ⟨g, o, none⟩) 1 cap)) hb)
    clear hb a0 a1 a2 a3 a4 a5 a6 a7
    go_wp2_with fail
    go_ret
    exact ⟨ret_str (by rw [HTB.out]; apply ByteArray.ext; simp [bstr, opX]), HB.out⟩
  · subst h17
    go_enter Tryz.func60, Tryz.ntmps60
    go_wp2_with fail
    refine HI.out.mono ?_
    rintro e w1 ⟨rfl, hb⟩
    obtain ⟨⟨c0, c1, c2, c3, c4, c5, c6, c7⟩, _⟩ := cell8 ((hb.block w.heap.size (by rw [World.size_alloc]; omega)).trans HX1.out)
    have HB := Lib.hid (bt (ba w (xbox ⟨3, 17, vk, vn, vs, tab, col⟩ (some ⟨g, o, none⟩) 1 cap)) hb)
    clear hb a0 a1 a2 a3 a4 a5 a6 a7
    go_wp2_with fail
    go_ret
    exact ⟨ret_str (by rw [HTB.out]; apply ByteArray.ext; simp [bstr, opX]), HB.out⟩

set_option maxHeartbeats 4000000 in
theorem showOp2_of (m : Nat) (vk vn : Int) (vs tab col : ByteArray) (x y : Ex) (g o cap : Nat) (A' B' : Option Addr) (cap' cap2 : Nat) (w : World) (hg : g < w.heap.size) (hX : XC w g o x.hd A' x.kids.length cap') (hY : XC w g (o + 8) y.hd B' y.kids.length cap2) (ih : ShowsAt w x A' cap') (ih2 : ShowsAt w y B' cap2) (hlen : (shwX x).length + (shwX y).length ≤ 4611686018427387904) (hn : 1 ≤ m ∧ m ≤ 14 ∧ m ≠ 3) (hT : TbX w) :
    Calls Tryz.prog 60 #[XV ⟨3, m, vk, vn, vs, tab, col⟩ (some ⟨g, o, none⟩) 2 cap] w fun e w' => e = .returned (.string (bstr (opX m (shwX x) (shwX y)))) ∧ Below w.heap.size w w' := by
  obtain ⟨b, hb⟩ : ∃ b, btw[m]? = some b := ⟨_, List.getElem?_eq_getElem (by simp [btw]; omega)⟩
  have HI := Lib.hid (ih _ (ba w (xbox ⟨3, m, vk, vn, vs, tab, col⟩ (some ⟨g, o, none⟩) 2 cap)))
  have HX1 := Lib.hid (MapKept.heap_alloc w (xbox ⟨3, m, vk, vn, vs, tab, col⟩ (some ⟨g, o, none⟩) 2 cap)).1
  have HY := Lib.hid hY
  have HI2 := Lib.hid ih2
  have HC := Lib.hid (hT.b m b hb)
  have HBt := Lib.hid (show btw.getD m [] = b by rw [List.getD_eq_getElem?_getD, hb]; rfl)
  obtain ⟨⟨k', n', vk', vn', vs', tab', col'⟩, l'⟩ := x
  obtain ⟨⟨k2, n2, vk2, vn2, vs2, tab2, col2⟩, l2⟩ := y
  obtain ⟨a0, a1, a2, a3, a4, a5, a6, a7⟩ := hX
  obtain ⟨T, hT⟩ : ∃ T, shwX (.mk ⟨k', n', vk', vn', vs', tab', col'⟩ l') = T := ⟨_, rfl⟩
  obtain ⟨T2, hT2⟩ : ∃ T, shwX (.mk ⟨k2, n2, vk2, vn2, vs2, tab2, col2⟩ l2) = T := ⟨_, rfl⟩
  rw [hT, hT2] at hlen ⊢
  rw [hT] at HI
  obtain ⟨TB, hTB⟩ : ∃ TB, bstr T = TB := ⟨_, rfl⟩
  have HTB := Lib.hid hTB.symm
  obtain ⟨TB2, hTB2⟩ : ∃ TB, bstr T2 = TB := ⟨_, rfl⟩
  have HTB2 := Lib.hid hTB2.symm
  have hTs : TB.size + TB2.size ≤ 4611686018427387904 := by rw [← hTB, ← hTB2]; show T.toArray.size + T2.toArray.size ≤ _; simpa using hlen
  have hbs : (⟨b.toArray⟩ : ByteArray).size ≤ 3 := by
    have := btw_len m
    rw [HBt.out] at this
    show b.toArray.size ≤ 3
    simpa using this
  obtain ⟨BB, hBB⟩ : ∃ BB : ByteArray, (⟨b.toArray⟩ : ByteArray) = BB := ⟨_, rfl⟩
  have HBB := Lib.hid hBB.symm
  rw [hBB] at HC hbs
  rw [hTB] at HI
  simp only [Ex.hd, Ex.kids] at HI a0 a1 a2 a3 a4 a5 a6 a7
  have HJ := Lib.hid (show ∀ w1, Below w.heap.size w w1 → Calls Tryz.prog 42 #[XV ⟨k2, n2, vk2, vn2, vs2, tab2, col2⟩ B' l2.length cap2] w1 fun e w' => e = .returned (.string TB2) ∧ Below w1.heap.size w1 w' by
    intro w1 hb1
    have := HI2.out w1 hb1
    rw [hT2, hTB2] at this
    exact this)
  have m3 : ¬ (m : Int) = 3 := by omega
  have m15 : ¬ (m : Int) = 15 := by omega
  have m16 : ¬ (m : Int) = 16 := by omega
  have m17 : ¬ (m : Int) = 17 := by omega
  have m0 : (0 : Int) ≤ (m : Int) := by omega
  have mm : (m : Int) < 15 := by omega
  have HG := Lib.hid hg
  clear ih ih2 hT hT2 hY hb hTB hTB2 HI2 hlen hBB
  go_enter Tryz.func60, Tryz.ntmps60
  go_wp2_with fail
  refine HI.out.mono ?_
  rintro e w1 ⟨rfl, hb⟩
  have hb2 := bt (ba w (xbox ⟨3, m, vk, vn, vs, tab, col⟩ (some ⟨g, o, none⟩) 2 cap)) hb
  obtain ⟨⟨c0, c1, c2, c3, c4, c5, c6, c7⟩, _⟩ := cell8 ((hb.block w.heap.size (by rw [World.size_alloc]; omega)).trans HX1.out)
  have d := cell_kept hb2 HC.out
  obtain ⟨y0, y1, y2, y3, y4, y5, y6, y7⟩ := HY.out.of (hb2.block g HG.out)
  have hg1 : g < w1.heap.size := Nat.lt_of_lt_of_le HG.out hb2.size
  simp only [Ex.hd, Ex.kids] at y0 y1 y2 y3 y4 y5 y6 y7
  have HB := Lib.hid hb2
  have hBd := Below.drew hb2
  have p1 : ¬ 9223372036854775807 < TB.size + 1 := by omega
  have p2 : ¬ 9223372036854775807 < TB.size + 1 + BB.size := by omega
  have p3 : ¬ 9223372036854775807 < TB.size + 1 + BB.size + 1 := by omega
  have p4 : ¬ 9223372036854775807 < TB.size + 1 + BB.size + 1 + TB2.size := by omega
  clear hb hb2 a0 a1 a2 a3 a4 a5 a6 a7
  go_wp2_with fail
  go_region_held3 (fun w' => Below w.heap.size w w' ∧ w'.cell? ⟨w.heap.size, 1, none⟩ = some (.int .i64 m) ∧ w'.cell? ⟨w.heap.size, 7, none⟩ = some (.slice (some ⟨g, o, none⟩) 2 cap) ∧ w'.cell? ⟨0, m, none⟩ = some (.string BB) ∧
      w'.cell? ⟨g, o + 8, none⟩ = some (.int .i64 k2) ∧ w'.cell? ⟨g, o + 8 + 1, none⟩ = some (.int .i64 n2) ∧ w'.cell? ⟨g, o + 8 + 2, none⟩ = some (.int .i64 vk2) ∧ w'.cell? ⟨g, o + 8 + 3, none⟩ = some (.int .i64 vn2) ∧
      w'.cell? ⟨g, o + 8 + 4, none⟩ = some (.string vs2) ∧ w'.cell? ⟨g, o + 8 + 5, none⟩ = some (.string tab2) ∧ w'.cell? ⟨g, o + 8 + 6, none⟩ = some (.string col2) ∧ w'.cell? ⟨g, o + 8 + 7, none⟩ = some (.slice B' l2.length cap2))
    (first
      | exact ⟨hBd, c1, c7, d, y0, y1, y2, y3, y4, y5, y6, y7⟩
      | ((try go_split_ands)
         refine ⟨?_, ?_, ?_, ?_, ?_, ?_, ?_, ?_, ?_, ?_, ?_, ?_⟩
         all_goals first | assumption | (exact Below.drew (by assumption)) | (exact bt (by assumption) hb) | (exact cell_kept hb (by assumption)) | go_keep))
    (first
      | (go_at_call 42; refine (HJ.out _ (by first | assumption | exact Below.drew (by assumption))).mono ?_; rintro e w' ⟨rfl, hb⟩))
  rename_i hold
  go_wp2_with fail
  go_ret
  exact ⟨ret_str (by
    unfold opX
    rw [if_neg m3, if_neg m15, if_neg m16, if_neg m17, Int.toNat_natCast, HBt.out, HTB.out, HTB2.out, HBB.out]
    apply ByteArray.ext; simp [bstr]), hold.1⟩
end Go.Proofs.YteckhaicodmakaaGreatDoor
