/-
  The document's Show.
  The document's Show, of whole expressions.
-/
import Derived.Test.YteckhaicodmakaaGreatDoorExd
import Derived.Test.YteckhaicodmakaaGreatDoorEx9
import Derived.Deep.RegionHeld3
import Derived.BigRegion
import Derived.Test.YteckhaicodmakaaGreatDoorExp
namespace Go.Proofs.YteckhaicodmakaaGreatDoor
section
open Go.RowKit Go.Shelf

/-- The signs, as the document lays them. -/
def sgnCells : Array Value := (btw.map fun b => Value.string ⟨b.toArray⟩).toArray
theorem refSigns_any (w : World) :
    Calls Tryz.prog 44 #[] w fun e w' => e = .returned (.slice (some ⟨w.heap.size, 0, none⟩) 15 15) ∧ w' = w.alloc (.cells sgnCells 9) := by
  go_enter Tryz.func44, Tryz.ntmps44
  go_wp2
  go_ret
  exact ⟨rfl, congrArg (fun c => w.alloc (.cells c 9)) (by kernel_rfl)⟩
theorem sgnCells_at (w : World) {j : Nat} {b : List UInt8} (h : btw[j]? = some b) : (w.alloc (.cells sgnCells 9)).cell? ⟨w.heap.size, j, none⟩ = some (.string ⟨b.toArray⟩) := by
  have hn := (MapKept.heap_alloc w (.cells sgnCells 9)).1
  unfold World.cell?
  rw [hn]
  simp [sgnCells, h]
/-- A part of an expression, shown by the document. -/
def RShowsAt (w : World) (x : Ex) (A : Option Addr) (cap : Nat) : Prop :=
  ∀ w1, Below w.heap.size w w1 → Calls Tryz.prog 16 #[XV x.hd A x.kids.length cap] w1 fun e w' => e = .returned (.string (bstr (shwX x))) ∧ Below w1.heap.size w1 w'
set_option maxHeartbeats 4000000 in
theorem rshowOp1_of (n vk vn : Int) (vs tab col : ByteArray) (x : Ex) (g o cap : Nat) (A' : Option Addr) (cap' : Nat) (w : World) (hg : g < w.heap.size) (hX : XC w g o x.hd A' x.kids.length cap') (ih : RShowsAt w x A' cap') (hlen : (shwX x).length ≤ 4611686018427387904) (hn : n = 3 ∨ n = 15 ∨ n = 16 ∨ n = 17) (S : List UInt8) :
    Calls Tryz.prog 16 #[XV ⟨3, n, vk, vn, vs, tab, col⟩ (some ⟨g, o, none⟩) 1 cap] w fun e w' => e = .returned (.string (bstr ([40] ++ opX n (shwX x) S ++ [41]))) ∧ Below w.heap.size w w' := by
  have HI := Lib.hid (ih _ (ba w (xbox ⟨3, n, vk, vn, vs, tab, col⟩ (some ⟨g, o, none⟩) 1 cap)))
  obtain ⟨⟨k', n', vk', vn', vs', tab', col'⟩, l'⟩ := x
  obtain ⟨T, hT⟩ : ∃ T, shwX (.mk ⟨k', n', vk', vn', vs', tab', col'⟩ l') = T := ⟨_, rfl⟩
  rw [hT] at hlen ⊢
  obtain ⟨TB, hTB⟩ : ∃ TB, bstr T = TB := ⟨_, rfl⟩
  have HTB := Lib.hid hTB.symm
  obtain ⟨a0, a1, a2, a3, a4, a5, a6, a7⟩ := hX
  have hTs : TB.size ≤ 4611686018427387904 := by rw [← hTB]; show T.toArray.size ≤ _; simpa using hlen
  rw [hT, hTB] at HI
  simp only [Ex.hd, Ex.kids] at HI a0 a1 a2 a3 a4 a5 a6 a7
  clear ih hT hTB hlen
  rcases hn with rfl | rfl | rfl | rfl
  all_goals
    go_enter Tryz.func16, Tryz.ntmps16
    go_wp2_with fail
    refine HI.out.mono ?_
    rintro e w1 ⟨rfl, hb⟩
    have HB := Lib.hid (bt (ba w _) hb)
    clear hb a0 a1 a2 a3 a4 a5 a6 a7
    go_wp2_with fail
    go_ret
    exact ⟨ret_str (by rw [HTB.out]; apply ByteArray.ext; simp [bstr, opX]), HB.out⟩
def wrd : List (List UInt8) := [[], [67, 79, 85, 78, 84], [67, 79, 85, 78, 84], [83, 85, 77], [77, 73, 78], [77, 65, 88]]
def wrdCells : Array Value := (wrd.map fun b => Value.string ⟨b.toArray⟩).toArray
theorem wrdCells_is : wrdCells = #[.string ⟨#[]⟩, .string ⟨#[67, 79, 85, 78, 84]⟩, .string ⟨#[67, 79, 85, 78, 84]⟩, .string ⟨#[83, 85, 77]⟩, .string ⟨#[77, 73, 78]⟩, .string ⟨#[77, 65, 88]⟩] := by rfl
theorem wrdCells_at (w : World) {j : Nat} {b : List UInt8} (h : wrd[j]? = some b) : (w.alloc (.cells wrdCells 9)).cell? ⟨w.heap.size, j, none⟩ = some (.string ⟨b.toArray⟩) := by
  have hn := (MapKept.heap_alloc w (.cells wrdCells 9)).1
  unfold World.cell?
  rw [hn]
  simp [wrdCells, h]
set_option maxRecDepth 100000 in
set_option maxHeartbeats 8000000 in
theorem rshowAgg_of (m : Nat) (vk vn : Int) (vs tab col : ByteArray) (x : Ex) (g o cap : Nat) (A' : Option Addr) (cap' : Nat) (w : World) (hg : g < w.heap.size) (hX : XC w g o x.hd A' x.kids.length cap') (ih : RShowsAt w x A' cap') (hlen : (shwX x).length ≤ 4611686018427387904) (hn : 2 ≤ m ∧ m ≤ 5) :
    Calls Tryz.prog 16 #[XV ⟨4, m, vk, vn, vs, tab, col⟩ (some ⟨g, o, none⟩) 1 cap] w fun e w' => e = .returned (.string (bstr (aggX m (shwX x)))) ∧ Below w.heap.size w w' := by
  obtain ⟨n, hnm⟩ : ∃ n : Int, (m : Int) = n := ⟨_, rfl⟩
  rw [hnm]
  obtain ⟨b, hb⟩ : ∃ b, wrd[m]? = some b := ⟨_, List.getElem?_eq_getElem (by simp [wrd]; omega)⟩
  have hba := ba2 w (xbox ⟨4, n, vk, vn, vs, tab, col⟩ (some ⟨g, o, none⟩) 1 cap) (.cells wrdCells 9)
  have HI := Lib.hid ih
  have HBx := Lib.hid hba
  have hx := ((ba (w.alloc (xbox ⟨4, n, vk, vn, vs, tab, col⟩ (some ⟨g, o, none⟩) 1 cap)) (.cells wrdCells 9)).block w.heap.size (by rw [World.size_alloc]; omega)).trans (MapKept.heap_alloc w (xbox ⟨4, n, vk, vn, vs, tab, col⟩ (some ⟨g, o, none⟩) 1 cap)).1
  obtain ⟨⟨_, c1, _, _, _, _, _, c7⟩, _⟩ := cell8 hx
  have HN1 := Lib.hid c1
  have HN7 := Lib.hid c7
  have cw := wrdCells_at (w.alloc (xbox ⟨4, n, vk, vn, vs, tab, col⟩ (some ⟨g, o, none⟩) 1 cap)) hb
  rw [World.size_alloc] at cw
  have HF := Lib.hid (show ∀ f, aggX n f = b ++ [40] ++ f ++ [41] by
    intro f
    rw [← hnm]
    rcases (show m = 2 ∨ m = 3 ∨ m = 4 ∨ m = 5 by omega) with rfl | rfl | rfl | rfl <;> simp [wrd] at hb <;> subst hb <;> simp [aggX])
  have hbs : b.length ≤ 5 := by rcases (show m = 2 ∨ m = 3 ∨ m = 4 ∨ m = 5 by omega) with rfl | rfl | rfl | rfl <;> simp [wrd] at hb <;> subst hb <;> simp
  obtain ⟨BB, hBB⟩ : ∃ BB : ByteArray, (⟨b.toArray⟩ : ByteArray) = BB := ⟨_, rfl⟩
  have HBB := Lib.hid hBB.symm
  have hbz : BB.size ≤ 5 := by rw [← hBB]; show b.toArray.size ≤ 5; simpa using hbs
  rw [hBB] at cw
  subst hnm
  have HNw := Lib.hid cw
  obtain ⟨⟨k', n', vk', vn', vs', tab', col'⟩, l'⟩ := x
  obtain ⟨T, hT⟩ : ∃ T, shwX (.mk ⟨k', n', vk', vn', vs', tab', col'⟩ l') = T := ⟨_, rfl⟩
  rw [hT] at hlen ⊢
  obtain ⟨TB, hTB⟩ : ∃ TB, bstr T = TB := ⟨_, rfl⟩
  have HTB := Lib.hid hTB.symm
  have hXW := hX.of (hba.block g hg)
  obtain ⟨a0, a1, a2, a3, a4, a5, a6, a7⟩ := hXW
  have hTs : TB.size ≤ 4611686018427387904 := by rw [← hTB]; show T.toArray.size ≤ _; simpa using hlen
  have HI := Lib.hid (show ∀ w1, Below w.heap.size w w1 → Calls Tryz.prog 16 #[XV ⟨k', n', vk', vn', vs', tab', col'⟩ A' l'.length cap'] w1 fun e w' => e = .returned (.string TB) ∧ Below w1.heap.size w1 w' by
    intro w1 hb1
    have := HI.out w1 hb1
    rw [hT, hTB] at this
    exact this)
  simp only [Ex.hd, Ex.kids] at a0 a1 a2 a3 a4 a5 a6 a7
  have m1 : ¬ (m : Int) = 1 := by omega
  have m0 : (0 : Int) ≤ (m : Int) := by omega
  have m6 : (m : Int) < 6 := by omega
  have mw : IntKind.i64.wrap (m : Int) = (m : Int) := by rw [IntKind.wrap_i64]; omega
  have p1 : ¬ 9223372036854775807 < BB.size + 1 := by omega
  have p2 : ¬ 9223372036854775807 < BB.size + 1 + TB.size := by omega
  have p3 : ¬ 9223372036854775807 < BB.size + 1 + TB.size + 1 := by omega
  have HW := Lib.hid wrdCells_is
  clear ih hT hTB hlen hBB hX c1 c7 cw hb hbs hx hba
  go_enter Tryz.func16, Tryz.ntmps16
  go_wp2_with fail
  go_upto_region 12 with fail
  rw [← HW.out]
  refine wp_region_noPanic ?_
  refine wp_region_held_drew (S := fun Wd => Below ((w.alloc (xbox ⟨4, m, vk, vn, vs, tab, col⟩ (some ⟨g, o, none⟩) 1 cap)).alloc (.cells wrdCells 9)).heap.size ((w.alloc (xbox ⟨4, m, vk, vn, vs, tab, col⟩ (some ⟨g, o, none⟩) 1 cap)).alloc (.cells wrdCells 9)) Wd) (by kernel_rfl) (Below.drew (Below.refl _ _)) (fun hHeld => ?_)
  refine wpAnyH_take (i := 0) (oi := { dst := some 30, op := Go.Op.move (Go.Operand.tmp 3), type := 53, pos := "ref.go:122", after := #[], guard := none }) (v := ?_) rfl (by kernel_rfl) (by kernel_rfl) (by kernel_rfl) (fun _ _ _ h => h) (Or.inl ⟨by rfl, ?_⟩) hHeld ?_
  rotate_left 1
  · (intro w0 hSw); (try dsimp only at hSw); go_simp <;> with_reducible rfl
  (try simp only [Act.put, List.setIfInBounds_toArray, List.set_cons_zero, List.set_cons_succ])
  refine wpAnyH_take (i := 1) (oi := { dst := some 31, op := Go.Op.fieldAddr 26 (Go.Operand.tmp 1) 1, type := 0, pos := "ref.go:122", after := #[], guard := none }) (v := ?_) rfl (by kernel_rfl) (by kernel_rfl) (by kernel_rfl) (fun _ _ _ h => h) (Or.inl ⟨by rfl, ?_⟩) hHeld ?_
  rotate_left 1
  · (intro w0 hSw); (try dsimp only at hSw); go_simp <;> with_reducible rfl
  (try simp only [Act.put, List.setIfInBounds_toArray, List.set_cons_zero, List.set_cons_succ])
  refine wpAnyH_take (i := 2) (oi := { dst := some 32, op := Go.Op.load 3 (Go.Operand.tmp 31), type := 3, pos := "ref.go:122", after := #[{ on := 1, ground := Go.Ground.data }], guard := none }) (v := ?_) rfl (by kernel_rfl) (by kernel_rfl) (by kernel_rfl) (fun _ _ _ h => h) (Or.inl ⟨by rfl, ?_⟩) hHeld ?_
  rotate_left 1
  · (intro w0 hSw); (try dsimp only at hSw); have u1 := cell_kept hSw HN1.out; have u7 := cell_kept hSw HN7.out; have uw := cell_kept hSw HNw.out; have t0 := cell_kept hSw a0; have t1 := cell_kept hSw a1; have t2 := cell_kept hSw a2; have t3 := cell_kept hSw a3; have t4 := cell_kept hSw a4; have t5 := cell_kept hSw a5; have t6 := cell_kept hSw a6; have t7 := cell_kept hSw a7; go_simp <;> with_reducible rfl
  (try simp only [Act.put, List.setIfInBounds_toArray, List.set_cons_zero, List.set_cons_succ])
  refine wpAnyH_take (i := 3) (oi := { dst := some 33, op := Go.Op.indexAddr 53 (Go.Operand.tmp 30) (Go.Operand.tmp 32), type := 0, pos := "ref.go:122", after := #[{ on := 0, ground := Go.Ground.data }, { on := 2, ground := Go.Ground.data }], guard := none }) (v := ?_) rfl (by kernel_rfl) (by kernel_rfl) (by kernel_rfl) (fun _ _ _ h => h) (Or.inl ⟨by rfl, ?_⟩) hHeld ?_
  rotate_left 1
  · (intro w0 hSw); (try dsimp only at hSw); go_simp <;> with_reducible rfl
  (try simp only [Act.put, List.setIfInBounds_toArray, List.set_cons_zero, List.set_cons_succ])
  refine wpAnyH_take (i := 4) (oi := { dst := some 34, op := Go.Op.load 9 (Go.Operand.tmp 33), type := 9, pos := "ref.go:122", after := #[{ on := 3, ground := Go.Ground.data }], guard := none }) (v := ?_) rfl (by kernel_rfl) (by kernel_rfl) (by kernel_rfl) (fun _ _ _ h => h) (Or.inl ⟨by rfl, ?_⟩) hHeld ?_
  rotate_left 1
  · (intro w0 hSw); (try dsimp only at hSw); have u1 := cell_kept hSw HN1.out; have u7 := cell_kept hSw HN7.out; have uw := cell_kept hSw HNw.out; have t0 := cell_kept hSw a0; have t1 := cell_kept hSw a1; have t2 := cell_kept hSw a2; have t3 := cell_kept hSw a3; have t4 := cell_kept hSw a4; have t5 := cell_kept hSw a5; have t6 := cell_kept hSw a6; have t7 := cell_kept hSw a7; go_simp <;> with_reducible rfl
  (try simp only [Act.put, List.setIfInBounds_toArray, List.set_cons_zero, List.set_cons_succ])
  refine wpAnyH_take (i := 5) (oi := { dst := some 35, op := Go.Op.binOp Go.BinOp.add 9 (Go.Operand.tmp 34) (Go.Operand.const (Go.Value.string { data := #[40] })) 9, type := 9, pos := "ref.go:122", after := #[{ on := 4, ground := Go.Ground.data }], guard := none }) (v := ?_) rfl (by kernel_rfl) (by kernel_rfl) (by kernel_rfl) (fun _ _ _ h => h) (Or.inl ⟨by rfl, ?_⟩) hHeld ?_
  rotate_left 1
  · (intro w0 hSw); (try dsimp only at hSw); go_simp <;> with_reducible rfl
  (try simp only [Act.put, List.setIfInBounds_toArray, List.set_cons_zero, List.set_cons_succ])
  refine wpAnyH_take (i := 6) (oi := { dst := some 36, op := Go.Op.fieldAddr 26 (Go.Operand.tmp 1) 5, type := 0, pos := "ref.go:122", after := #[], guard := none }) (v := ?_) rfl (by kernel_rfl) (by kernel_rfl) (by kernel_rfl) (fun _ _ _ h => h) (Or.inl ⟨by rfl, ?_⟩) hHeld ?_
  rotate_left 1
  · (intro w0 hSw); (try dsimp only at hSw); go_simp <;> with_reducible rfl
  (try simp only [Act.put, List.setIfInBounds_toArray, List.set_cons_zero, List.set_cons_succ])
  refine wpAnyH_take (i := 7) (oi := { dst := some 37, op := Go.Op.load 24 (Go.Operand.tmp 36), type := 24, pos := "ref.go:122", after := #[{ on := 6, ground := Go.Ground.data }], guard := none }) (v := ?_) rfl (by kernel_rfl) (by kernel_rfl) (by kernel_rfl) (fun _ _ _ h => h) (Or.inl ⟨by rfl, ?_⟩) hHeld ?_
  rotate_left 1
  · (intro w0 hSw); (try dsimp only at hSw); have u1 := cell_kept hSw HN1.out; have u7 := cell_kept hSw HN7.out; have uw := cell_kept hSw HNw.out; have t0 := cell_kept hSw a0; have t1 := cell_kept hSw a1; have t2 := cell_kept hSw a2; have t3 := cell_kept hSw a3; have t4 := cell_kept hSw a4; have t5 := cell_kept hSw a5; have t6 := cell_kept hSw a6; have t7 := cell_kept hSw a7; go_simp <;> with_reducible rfl
  (try simp only [Act.put, List.setIfInBounds_toArray, List.set_cons_zero, List.set_cons_succ])
  refine wpAnyH_take (i := 8) (oi := { dst := some 38, op := Go.Op.indexAddr 24 (Go.Operand.tmp 37) (Go.Operand.const (Go.Value.int Go.IntKind.i64 0)), type := 0, pos := "ref.go:122", after := #[{ on := 7, ground := Go.Ground.data }], guard := none }) (v := ?_) rfl (by kernel_rfl) (by kernel_rfl) (by kernel_rfl) (fun _ _ _ h => h) (Or.inl ⟨by rfl, ?_⟩) hHeld ?_
  rotate_left 1
  · (intro w0 hSw); (try dsimp only at hSw); go_simp <;> with_reducible rfl
  (try simp only [Act.put, List.setIfInBounds_toArray, List.set_cons_zero, List.set_cons_succ])
  refine wpAnyH_take (i := 9) (oi := { dst := some 39, op := Go.Op.load 26 (Go.Operand.tmp 38), type := 26, pos := "ref.go:122", after := #[{ on := 8, ground := Go.Ground.data }], guard := none }) (v := ?_) rfl (by kernel_rfl) (by kernel_rfl) (by kernel_rfl) (fun _ _ _ h => h) (Or.inl ⟨by rfl, ?_⟩) hHeld ?_
  rotate_left 1
  · (intro w0 hSw); (try dsimp only at hSw); have u1 := cell_kept hSw HN1.out; have u7 := cell_kept hSw HN7.out; have uw := cell_kept hSw HNw.out; have t0 := cell_kept hSw a0; have t1 := cell_kept hSw a1; have t2 := cell_kept hSw a2; have t3 := cell_kept hSw a3; have t4 := cell_kept hSw a4; have t5 := cell_kept hSw a5; have t6 := cell_kept hSw a6; have t7 := cell_kept hSw a7; go_simp <;> with_reducible rfl
  (try simp only [Act.put, List.setIfInBounds_toArray, List.set_cons_zero, List.set_cons_succ])
  refine wpAnyH_ready (rs := [10]) (by kernel_rfl) (by simp) ?_
  refine (AllReadyH.cons (o := { dst := some 40, op := Go.Op.call { callee := Go.Callee.value (Go.Operand.func 16), args := #[Go.Operand.tmp 39], argTypes := #[26] }, type := 9, pos := "ref.go:122", after := #[{ on := 9, ground := Go.Ground.data }], guard := none }) rfl (fun K hK => ?_) AllReadyH.nil)
  rw [if_pos (by rfl)]
  go_simp
  refine (HI.out _ (bt HBx.out (Below.drew (Below.refl _ _)))).mono ?_
  rintro e w' ⟨rfl, hb⟩
  have HHo := Lib.hid (bt (Below.drew (Below.refl _ _)) hb)
  clear hb hHeld
  go_wp2_with fail
  refine hK.out _ _ HHo.out (fun hHeld => ?_)
  clear hK K
  (try simp only [Act.put, List.setIfInBounds_toArray, List.set_cons_zero, List.set_cons_succ])
  refine wpAnyH_take (i := 11) (oi := { dst := some 41, op := Go.Op.binOp Go.BinOp.add 9 (Go.Operand.tmp 35) (Go.Operand.tmp 40) 9, type := 9, pos := "ref.go:122", after := #[{ on := 5, ground := Go.Ground.data }, { on := 10, ground := Go.Ground.data }], guard := none }) (v := ?_) rfl (by kernel_rfl) (by kernel_rfl) (by kernel_rfl) (fun _ _ _ h => h) (Or.inl ⟨by rfl, ?_⟩) hHeld ?_
  rotate_left 1
  · (intro w0 hSw); (try dsimp only at hSw); go_simp <;> with_reducible rfl
  (try simp only [Act.put, List.setIfInBounds_toArray, List.set_cons_zero, List.set_cons_succ])
  refine wpAnyH_take (i := 12) (oi := { dst := some 42, op := Go.Op.binOp Go.BinOp.add 9 (Go.Operand.tmp 41) (Go.Operand.const (Go.Value.string { data := #[41] })) 9, type := 9, pos := "ref.go:122", after := #[{ on := 11, ground := Go.Ground.data }], guard := none }) (v := ?_) rfl (by kernel_rfl) (by kernel_rfl) (by kernel_rfl) (fun _ _ _ h => h) (Or.inl ⟨by rfl, ?_⟩) hHeld ?_
  rotate_left 1
  · (intro w0 hSw); (try dsimp only at hSw); go_simp <;> with_reducible rfl
  (try simp only [Act.put, List.setIfInBounds_toArray, List.set_cons_zero, List.set_cons_succ])
  refine wpAnyH_take (i := 13) (oi := { dst := some 2, op := Go.Op.assign (Go.Operand.tmp 42), type := 9, pos := "ref.go:122", after := #[{ on := 12, ground := Go.Ground.data }, { on := 10, ground := Go.Ground.chain }, { on := 0, ground := Go.Ground.phase }, { on := 1, ground := Go.Ground.phase }, { on := 2, ground := Go.Ground.phase }, { on := 3, ground := Go.Ground.phase }, { on := 4, ground := Go.Ground.phase }, { on := 5, ground := Go.Ground.phase }, { on := 6, ground := Go.Ground.phase }, { on := 7, ground := Go.Ground.phase }, { on := 8, ground := Go.Ground.phase }, { on := 9, ground := Go.Ground.phase }, { on := 10, ground := Go.Ground.phase }, { on := 11, ground := Go.Ground.phase }, { on := 12, ground := Go.Ground.phase }], guard := none }) (v := ?_) rfl (by kernel_rfl) (by kernel_rfl) (by kernel_rfl) (fun _ _ _ h => h) (Or.inl ⟨by rfl, ?_⟩) hHeld ?_
  rotate_left 1
  · (intro w0 hSw); (try dsimp only at hSw); go_simp <;> with_reducible rfl
  (try simp only [Act.put, List.setIfInBounds_toArray, List.set_cons_zero, List.set_cons_succ])
  refine wpAnyH_done (by kernel_rfl) ?_ _
  refine NoPanic.normal ?_
  clear hHeld
  go_wp2_with fail
  go_ret
  exact ⟨ret_str (by rw [HF.out, HTB.out, HBB.out]; apply ByteArray.ext; simp [bstr]), bt HBx.out HHo.out⟩
theorem rshowAgg1_any (vk vn : Int) (vs tab col : ByteArray) (A : Option Addr) (len cap : Nat) (w : World) (f : List UInt8) :
    Calls Tryz.prog 16 #[XV ⟨4, 1, vk, vn, vs, tab, col⟩ A len cap] w fun e w' => e = .returned (.string (bstr (aggX 1 f))) ∧ Below w.heap.size w w' := by
  go_enter Tryz.func16, Tryz.ntmps16
  go_wp2
  go_ret
  exact ⟨rfl, ba2 w _ _⟩
set_option maxRecDepth 100000 in
set_option maxHeartbeats 8000000 in
theorem rshowOp2_of (m : Nat) (vk vn : Int) (vs tab col : ByteArray) (x y : Ex) (g o cap : Nat) (A' B' : Option Addr) (cap' cap2 : Nat) (w : World) (hg : g < w.heap.size) (hX : XC w g o x.hd A' x.kids.length cap') (hY : XC w g (o + 8) y.hd B' y.kids.length cap2) (ih : RShowsAt w x A' cap') (ih2 : RShowsAt w y B' cap2) (hlen : (shwX x).length + (shwX y).length ≤ 4611686018427387904) (hn : 1 ≤ m ∧ m ≤ 14 ∧ m ≠ 3) :
    Calls Tryz.prog 16 #[XV ⟨3, m, vk, vn, vs, tab, col⟩ (some ⟨g, o, none⟩) 2 cap] w fun e w' => e = .returned (.string (bstr ([40] ++ opX m (shwX x) (shwX y) ++ [41]))) ∧ Below w.heap.size w w' := by
  obtain ⟨b, hbm⟩ : ∃ b, btw[m]? = some b := ⟨_, List.getElem?_eq_getElem (by simp [btw]; omega)⟩
  have hba := ba w (xbox ⟨3, m, vk, vn, vs, tab, col⟩ (some ⟨g, o, none⟩) 2 cap)
  have HBx := Lib.hid hba
  obtain ⟨⟨_, c1, _, _, _, _, _, c7⟩, _⟩ := cell8 (MapKept.heap_alloc w (xbox ⟨3, m, vk, vn, vs, tab, col⟩ (some ⟨g, o, none⟩) 2 cap)).1
  have HN1 := Lib.hid c1
  have HN7 := Lib.hid c7
  have HBt := Lib.hid (show btw.getD m [] = b by rw [List.getD_eq_getElem?_getD, hbm]; rfl)
  have hbs : b.length ≤ 3 := by have := btw_len m; rw [HBt.out] at this; exact this
  obtain ⟨BB, hBB⟩ : ∃ BB : ByteArray, (⟨b.toArray⟩ : ByteArray) = BB := ⟨_, rfl⟩
  have HBB := Lib.hid hBB.symm
  have hbz : BB.size ≤ 3 := by rw [← hBB]; show b.toArray.size ≤ 3; simpa using hbs
  obtain ⟨⟨k2, n2, vk2, vn2, vs2, tab2, col2⟩, l2⟩ := y
  obtain ⟨T2, hT2⟩ : ∃ T, shwX (.mk ⟨k2, n2, vk2, vn2, vs2, tab2, col2⟩ l2) = T := ⟨_, rfl⟩
  rw [hT2] at hlen ⊢
  obtain ⟨TB2, hTB2⟩ : ∃ TB, bstr T2 = TB := ⟨_, rfl⟩
  have HTB2 := Lib.hid hTB2.symm
  obtain ⟨⟨k', n', vk', vn', vs', tab', col'⟩, l'⟩ := x
  obtain ⟨T, hT⟩ : ∃ T, shwX (.mk ⟨k', n', vk', vn', vs', tab', col'⟩ l') = T := ⟨_, rfl⟩
  rw [hT] at hlen ⊢
  obtain ⟨TB, hTB⟩ : ∃ TB, bstr T = TB := ⟨_, rfl⟩
  have HTB := Lib.hid hTB.symm
  obtain ⟨a0, a1, a2, a3, a4, a5, a6, a7⟩ := hX.of (hba.block g hg)
  obtain ⟨y0, y1, y2, y3, y4, y5, y6, y7⟩ := hY.of (hba.block g hg)
  have hTs : TB.size + TB2.size ≤ 4611686018427387904 := by rw [← hTB, ← hTB2]; show T.toArray.size + T2.toArray.size ≤ _; simpa using hlen
  have HI := Lib.hid (show ∀ w1, Below w.heap.size w w1 → Calls Tryz.prog 16 #[XV ⟨k', n', vk', vn', vs', tab', col'⟩ A' l'.length cap'] w1 fun e w' => e = .returned (.string TB) ∧ Below w1.heap.size w1 w' by
    intro w1 hb1
    have := ih w1 hb1
    rw [hT, hTB] at this
    exact this)
  have HJ := Lib.hid (show ∀ w1, Below w.heap.size w w1 → Calls Tryz.prog 16 #[XV ⟨k2, n2, vk2, vn2, vs2, tab2, col2⟩ B' l2.length cap2] w1 fun e w' => e = .returned (.string TB2) ∧ Below w1.heap.size w1 w' by
    intro w1 hb1
    have := ih2 w1 hb1
    rw [hT2, hTB2] at this
    exact this)
  simp only [Ex.hd, Ex.kids] at a0 a1 a2 a3 a4 a5 a6 a7 y0 y1 y2 y3 y4 y5 y6 y7
  have m3 : ¬ (m : Int) = 3 := by omega
  have m15 : ¬ (m : Int) = 15 := by omega
  have m16 : ¬ (m : Int) = 16 := by omega
  have m17 : ¬ (m : Int) = 17 := by omega
  have m0 : (0 : Int) ≤ (m : Int) := by omega
  have mm : (m : Int) < 15 := by omega
  have mw : IntKind.i64.wrap (m : Int) = (m : Int) := by rw [IntKind.wrap_i64]; omega
  have HOp := Lib.hid (show ∀ f s, opX m f s = f ++ [32] ++ b ++ [32] ++ s by
    intro f s
    unfold opX
    rw [if_neg m3, if_neg m15, if_neg m16, if_neg m17, Int.toNat_natCast, HBt.out])
  have p0 : ¬ 9223372036854775807 < 1 + TB.size := by omega
  have p1 : ¬ 9223372036854775807 < 1 + TB.size + 1 := by omega
  have p2 : ¬ 9223372036854775807 < 1 + TB.size + 1 + BB.size := by omega
  have p3 : ¬ 9223372036854775807 < 1 + TB.size + 1 + BB.size + 1 := by omega
  have p4 : ¬ 9223372036854775807 < 1 + TB.size + 1 + BB.size + 1 + TB2.size := by omega
  have p5 : ¬ 9223372036854775807 < 1 + TB.size + 1 + BB.size + 1 + TB2.size + 1 := by omega
  clear ih ih2 hT hTB hT2 hTB2 hlen hX hY hbs hba c1 c7
  go_enter Tryz.func16, Tryz.ntmps16
  go_wp2_with fail
  go_upto_region 22 with fail
  refine wp_region_noPanic ?_
  refine wp_region_held_drew (S := fun Wd => Below (w.alloc (xbox ⟨3, m, vk, vn, vs, tab, col⟩ (some ⟨g, o, none⟩) 2 cap)).heap.size (w.alloc (xbox ⟨3, m, vk, vn, vs, tab, col⟩ (some ⟨g, o, none⟩) 2 cap)) Wd) (by kernel_rfl) (Below.drew (Below.refl _ _)) (fun hHeld => ?_)
  refine wpAnyH_take (i := 0) (oi := { dst := some 81, op := Go.Op.fieldAddr 26 (Go.Operand.tmp 1) 5, type := 0, pos := "ref.go:134", after := #[], guard := none }) (v := ?_) rfl (by kernel_rfl) (by kernel_rfl) (by kernel_rfl) (fun _ _ _ h => h) (Or.inl ⟨by rfl, ?_⟩) hHeld ?_
  rotate_left 1
  · (intro w0 hSw); (try dsimp only at hSw); go_simp <;> with_reducible rfl
  (try simp only [Act.put, List.setIfInBounds_toArray, List.set_cons_zero, List.set_cons_succ])
  refine wpAnyH_take (i := 1) (oi := { dst := some 82, op := Go.Op.load 24 (Go.Operand.tmp 81), type := 24, pos := "ref.go:134", after := #[{ on := 0, ground := Go.Ground.data }], guard := none }) (v := ?_) rfl (by kernel_rfl) (by kernel_rfl) (by kernel_rfl) (fun _ _ _ h => h) (Or.inl ⟨by rfl, ?_⟩) hHeld ?_
  rotate_left 1
  · (intro w0 hSw); (try dsimp only at hSw); have u1 := cell_kept hSw HN1.out; have u7 := cell_kept hSw HN7.out; go_simp <;> with_reducible rfl
  (try simp only [Act.put, List.setIfInBounds_toArray, List.set_cons_zero, List.set_cons_succ])
  refine wpAnyH_take (i := 2) (oi := { dst := some 83, op := Go.Op.indexAddr 24 (Go.Operand.tmp 82) (Go.Operand.const (Go.Value.int Go.IntKind.i64 0)), type := 0, pos := "ref.go:134", after := #[{ on := 1, ground := Go.Ground.data }], guard := none }) (v := ?_) rfl (by kernel_rfl) (by kernel_rfl) (by kernel_rfl) (fun _ _ _ h => h) (Or.inl ⟨by rfl, ?_⟩) hHeld ?_
  rotate_left 1
  · (intro w0 hSw); (try dsimp only at hSw); go_simp <;> with_reducible rfl
  (try simp only [Act.put, List.setIfInBounds_toArray, List.set_cons_zero, List.set_cons_succ])
  refine wpAnyH_take (i := 3) (oi := { dst := some 84, op := Go.Op.load 26 (Go.Operand.tmp 83), type := 26, pos := "ref.go:134", after := #[{ on := 2, ground := Go.Ground.data }], guard := none }) (v := ?_) rfl (by kernel_rfl) (by kernel_rfl) (by kernel_rfl) (fun _ _ _ h => h) (Or.inl ⟨by rfl, ?_⟩) hHeld ?_
  rotate_left 1
  · (intro w0 hSw); (try dsimp only at hSw); have t0 := cell_kept hSw a0; have t1 := cell_kept hSw a1; have t2 := cell_kept hSw a2; have t3 := cell_kept hSw a3; have t4 := cell_kept hSw a4; have t5 := cell_kept hSw a5; have t6 := cell_kept hSw a6; have t7 := cell_kept hSw a7; go_simp <;> with_reducible rfl
  (try simp only [Act.put, List.setIfInBounds_toArray, List.set_cons_zero, List.set_cons_succ])
  refine wpAnyH_take (i := 8) (oi := { dst := some 89, op := Go.Op.fieldAddr 26 (Go.Operand.tmp 1) 1, type := 0, pos := "ref.go:134", after := #[], guard := none }) (v := ?_) rfl (by kernel_rfl) (by kernel_rfl) (by kernel_rfl) (fun _ _ _ h => h) (Or.inl ⟨by rfl, ?_⟩) hHeld ?_
  rotate_left 1
  · (intro w0 hSw); (try dsimp only at hSw); go_simp <;> with_reducible rfl
  (try simp only [Act.put, List.setIfInBounds_toArray, List.set_cons_zero, List.set_cons_succ])
  refine wpAnyH_take (i := 9) (oi := { dst := some 90, op := Go.Op.load 3 (Go.Operand.tmp 89), type := 3, pos := "ref.go:134", after := #[{ on := 8, ground := Go.Ground.data }], guard := none }) (v := ?_) rfl (by kernel_rfl) (by kernel_rfl) (by kernel_rfl) (fun _ _ _ h => h) (Or.inl ⟨by rfl, ?_⟩) hHeld ?_
  rotate_left 1
  · (intro w0 hSw); (try dsimp only at hSw); have u1 := cell_kept hSw HN1.out; have u7 := cell_kept hSw HN7.out; go_simp <;> with_reducible rfl
  (try simp only [Act.put, List.setIfInBounds_toArray, List.set_cons_zero, List.set_cons_succ])
  refine wpAnyH_take (i := 14) (oi := { dst := some 95, op := Go.Op.fieldAddr 26 (Go.Operand.tmp 1) 5, type := 0, pos := "ref.go:134", after := #[], guard := none }) (v := ?_) rfl (by kernel_rfl) (by kernel_rfl) (by kernel_rfl) (fun _ _ _ h => h) (Or.inl ⟨by rfl, ?_⟩) hHeld ?_
  rotate_left 1
  · (intro w0 hSw); (try dsimp only at hSw); go_simp <;> with_reducible rfl
  (try simp only [Act.put, List.setIfInBounds_toArray, List.set_cons_zero, List.set_cons_succ])
  refine wpAnyH_take (i := 15) (oi := { dst := some 96, op := Go.Op.load 24 (Go.Operand.tmp 95), type := 24, pos := "ref.go:134", after := #[{ on := 14, ground := Go.Ground.data }], guard := none }) (v := ?_) rfl (by kernel_rfl) (by kernel_rfl) (by kernel_rfl) (fun _ _ _ h => h) (Or.inl ⟨by rfl, ?_⟩) hHeld ?_
  rotate_left 1
  · (intro w0 hSw); (try dsimp only at hSw); have u1 := cell_kept hSw HN1.out; have u7 := cell_kept hSw HN7.out; go_simp <;> with_reducible rfl
  (try simp only [Act.put, List.setIfInBounds_toArray, List.set_cons_zero, List.set_cons_succ])
  refine wpAnyH_take (i := 16) (oi := { dst := some 97, op := Go.Op.indexAddr 24 (Go.Operand.tmp 96) (Go.Operand.const (Go.Value.int Go.IntKind.i64 1)), type := 0, pos := "ref.go:134", after := #[{ on := 15, ground := Go.Ground.data }], guard := none }) (v := ?_) rfl (by kernel_rfl) (by kernel_rfl) (by kernel_rfl) (fun _ _ _ h => h) (Or.inl ⟨by rfl, ?_⟩) hHeld ?_
  rotate_left 1
  · (intro w0 hSw); (try dsimp only at hSw); go_simp <;> with_reducible rfl
  (try simp only [Act.put, List.setIfInBounds_toArray, List.set_cons_zero, List.set_cons_succ])
  refine wpAnyH_take (i := 17) (oi := { dst := some 98, op := Go.Op.load 26 (Go.Operand.tmp 97), type := 26, pos := "ref.go:134", after := #[{ on := 16, ground := Go.Ground.data }], guard := none }) (v := ?_) rfl (by kernel_rfl) (by kernel_rfl) (by kernel_rfl) (fun _ _ _ h => h) (Or.inl ⟨by rfl, ?_⟩) hHeld ?_
  rotate_left 1
  · (intro w0 hSw); (try dsimp only at hSw); have t0 := cell_kept hSw y0; have t1 := cell_kept hSw y1; have t2 := cell_kept hSw y2; have t3 := cell_kept hSw y3; have t4 := cell_kept hSw y4; have t5 := cell_kept hSw y5; have t6 := cell_kept hSw y6; have t7 := cell_kept hSw y7; go_simp <;> with_reducible rfl
  (try simp only [Act.put, List.setIfInBounds_toArray, List.set_cons_zero, List.set_cons_succ])
  refine wpAnyH_ready (rs := [4]) (by kernel_rfl) (by simp) ?_
  refine (AllReadyH.cons (o := { dst := some 85, op := Go.Op.call { callee := Go.Callee.value (Go.Operand.func 16), args := #[Go.Operand.tmp 84], argTypes := #[26] }, type := 9, pos := "ref.go:134", after := #[{ on := 3, ground := Go.Ground.data }], guard := none }) rfl (fun K hK => ?_) AllReadyH.nil)
  rw [if_pos (by rfl)]
  go_simp
  refine (HI.out _ (bt HBx.out (Below.drew (Below.refl _ _)))).mono ?_
  rintro e w1 ⟨rfl, hb⟩
  have HH1 := Lib.hid (bt (Below.drew (Below.refl _ _)) hb)
  clear hb hHeld
  go_wp2_with fail
  refine hK.out _ _ HH1.out (fun hHeld => ?_)
  clear hK K
  (try simp only [Act.put, List.setIfInBounds_toArray, List.set_cons_zero, List.set_cons_succ])
  refine wpAnyH_take (i := 5) (oi := { dst := some 86, op := Go.Op.binOp Go.BinOp.add 9 (Go.Operand.const (Go.Value.string { data := #[40] })) (Go.Operand.tmp 85) 9, type := 9, pos := "ref.go:134", after := #[{ on := 4, ground := Go.Ground.data }], guard := none }) (v := ?_) rfl (by kernel_rfl) (by kernel_rfl) (by kernel_rfl) (fun _ _ _ h => h) (Or.inl ⟨by rfl, ?_⟩) hHeld ?_
  rotate_left 1
  · (intro w0 hSw); (try dsimp only at hSw); go_simp <;> with_reducible rfl
  (try simp only [Act.put, List.setIfInBounds_toArray, List.set_cons_zero, List.set_cons_succ])
  refine wpAnyH_take (i := 6) (oi := { dst := some 87, op := Go.Op.binOp Go.BinOp.add 9 (Go.Operand.tmp 86) (Go.Operand.const (Go.Value.string { data := #[32] })) 9, type := 9, pos := "ref.go:134", after := #[{ on := 5, ground := Go.Ground.data }], guard := none }) (v := ?_) rfl (by kernel_rfl) (by kernel_rfl) (by kernel_rfl) (fun _ _ _ h => h) (Or.inl ⟨by rfl, ?_⟩) hHeld ?_
  rotate_left 1
  · (intro w0 hSw); (try dsimp only at hSw); go_simp <;> with_reducible rfl
  (try simp only [Act.put, List.setIfInBounds_toArray, List.set_cons_zero, List.set_cons_succ])
  refine wpAnyH_ready (rs := [7]) (by kernel_rfl) (by simp) ?_
  refine (AllReadyH.cons (o := { dst := some 88, op := Go.Op.call { callee := Go.Callee.value (Go.Operand.func 44), args := #[], argTypes := #[] }, type := 53, pos := "ref.go:134", after := #[{ on := 4, ground := Go.Ground.chain }], guard := none }) rfl (fun K hK => ?_) AllReadyH.nil)
  rw [if_pos (by rfl)]
  go_simp
  refine (refSigns_any _).mono ?_
  rintro e w2 ⟨rfl, hw2⟩
  have HH2 := Lib.hid (show Below (w.alloc (xbox ⟨3, m, vk, vn, vs, tab, col⟩ (some ⟨g, o, none⟩) 2 cap)).heap.size (w.alloc (xbox ⟨3, m, vk, vn, vs, tab, col⟩ (some ⟨g, o, none⟩) 2 cap)) w2 by rw [hw2]; exact bt HH1.out (ba _ _))
  have hcs : w2.cell? ⟨w1.heap.size, m, none⟩ = some (.string BB) := by rw [hw2, HBB.out]; exact sgnCells_at _ hbm
  have hcl : w1.heap.size < w2.heap.size := by rw [hw2, World.size_alloc]; omega
  clear hw2 hHeld
  go_wp2_with fail
  refine hK.out _ _ HH2.out (fun hHeld => ?_)
  clear hK K
  (try simp only [Act.put, List.setIfInBounds_toArray, List.set_cons_zero, List.set_cons_succ])
  refine wpAnyH_take (i := 10) (oi := { dst := some 91, op := Go.Op.indexAddr 53 (Go.Operand.tmp 88) (Go.Operand.tmp 90), type := 0, pos := "ref.go:134", after := #[{ on := 7, ground := Go.Ground.data }, { on := 9, ground := Go.Ground.data }], guard := none }) (v := ?_) rfl (by kernel_rfl) (by kernel_rfl) (by kernel_rfl) (fun _ _ _ h => h) (Or.inl ⟨by rfl, ?_⟩) hHeld ?_
  rotate_left 1
  · (intro w0 hSw); (try dsimp only at hSw); go_simp <;> with_reducible rfl
  (try simp only [Act.put, List.setIfInBounds_toArray, List.set_cons_zero, List.set_cons_succ])
  refine wpAnyH_ready (rs := [11, 18]) (by kernel_rfl) (by simp) ?_
  refine (AllReadyH.cons (o := { dst := some 92, op := Go.Op.load 9 (Go.Operand.tmp 91), type := 9, pos := "ref.go:134", after := #[{ on := 10, ground := Go.Ground.data }], guard := none }) rfl (fun K hK => ?_) (AllReadyH.cons (o := { dst := some 99, op := Go.Op.call { callee := Go.Callee.value (Go.Operand.func 16), args := #[Go.Operand.tmp 98], argTypes := #[26] }, type := 9, pos := "ref.go:134", after := #[{ on := 17, ground := Go.Ground.data }, { on := 7, ground := Go.Ground.chain }], guard := none }) rfl (fun K hK => ?_) AllReadyH.nil))
  · rw [if_pos (by rfl)]
    go_simp
    go_wp2_with fail
    refine hK.out _ _ HH2.out (fun hHeld => ?_)
    clear hK K
    (try simp only [Act.put, List.setIfInBounds_toArray, List.set_cons_zero, List.set_cons_succ])
    refine wpAnyH_take (i := 12) (oi := { dst := some 93, op := Go.Op.binOp Go.BinOp.add 9 (Go.Operand.tmp 87) (Go.Operand.tmp 92) 9, type := 9, pos := "ref.go:134", after := #[{ on := 6, ground := Go.Ground.data }, { on := 11, ground := Go.Ground.data }], guard := none }) (v := ?_) rfl (by kernel_rfl) (by kernel_rfl) (by kernel_rfl) (fun _ _ _ h => h) (Or.inl ⟨by rfl, ?_⟩) hHeld ?_
    rotate_left 1
    · (intro w0 hSw); (try dsimp only at hSw); go_simp <;> with_reducible rfl
    (try simp only [Act.put, List.setIfInBounds_toArray, List.set_cons_zero, List.set_cons_succ])
    refine wpAnyH_take (i := 13) (oi := { dst := some 94, op := Go.Op.binOp Go.BinOp.add 9 (Go.Operand.tmp 93) (Go.Operand.const (Go.Value.string { data := #[32] })) 9, type := 9, pos := "ref.go:134", after := #[{ on := 12, ground := Go.Ground.data }], guard := none }) (v := ?_) rfl (by kernel_rfl) (by kernel_rfl) (by kernel_rfl) (fun _ _ _ h => h) (Or.inl ⟨by rfl, ?_⟩) hHeld ?_
    rotate_left 1
    · (intro w0 hSw); (try dsimp only at hSw); go_simp <;> with_reducible rfl
    (try simp only [Act.put, List.setIfInBounds_toArray, List.set_cons_zero, List.set_cons_succ])
    refine wpAnyH_ready (rs := [18]) (by kernel_rfl) (by simp) ?_
    refine (AllReadyH.cons (o := { dst := some 99, op := Go.Op.call { callee := Go.Callee.value (Go.Operand.func 16), args := #[Go.Operand.tmp 98], argTypes := #[26] }, type := 9, pos := "ref.go:134", after := #[{ on := 17, ground := Go.Ground.data }, { on := 7, ground := Go.Ground.chain }], guard := none }) rfl (fun K hK => ?_) AllReadyH.nil)
    rw [if_pos (by rfl)]
    go_simp
    refine (HJ.out _ (bt HBx.out HH2.out)).mono ?_
    rintro e w3 ⟨rfl, hb⟩
    have HH3 := Lib.hid (bt HH2.out hb)
    clear hb hHeld
    go_wp2_with fail
    refine hK.out _ _ HH3.out (fun hHeld => ?_)
    clear hK K
    (try simp only [Act.put, List.setIfInBounds_toArray, List.set_cons_zero, List.set_cons_succ])
    refine wpAnyH_take (i := 19) (oi := { dst := some 100, op := Go.Op.binOp Go.BinOp.add 9 (Go.Operand.tmp 94) (Go.Operand.tmp 99) 9, type := 9, pos := "ref.go:134", after := #[{ on := 13, ground := Go.Ground.data }, { on := 18, ground := Go.Ground.data }], guard := none }) (v := ?_) rfl (by kernel_rfl) (by kernel_rfl) (by kernel_rfl) (fun _ _ _ h => h) (Or.inl ⟨by rfl, ?_⟩) hHeld ?_
    rotate_left 1
    · (intro w0 hSw); (try dsimp only at hSw); go_simp <;> with_reducible rfl
    (try simp only [Act.put, List.setIfInBounds_toArray, List.set_cons_zero, List.set_cons_succ])
    refine wpAnyH_take (i := 20) (oi := { dst := some 101, op := Go.Op.binOp Go.BinOp.add 9 (Go.Operand.tmp 100) (Go.Operand.const (Go.Value.string { data := #[41] })) 9, type := 9, pos := "ref.go:134", after := #[{ on := 19, ground := Go.Ground.data }], guard := none }) (v := ?_) rfl (by kernel_rfl) (by kernel_rfl) (by kernel_rfl) (fun _ _ _ h => h) (Or.inl ⟨by rfl, ?_⟩) hHeld ?_
    rotate_left 1
    · (intro w0 hSw); (try dsimp only at hSw); go_simp <;> with_reducible rfl
    (try simp only [Act.put, List.setIfInBounds_toArray, List.set_cons_zero, List.set_cons_succ])
    refine wpAnyH_take (i := 21) (oi := { dst := some 2, op := Go.Op.assign (Go.Operand.tmp 101), type := 9, pos := "ref.go:134", after := #[{ on := 20, ground := Go.Ground.data }, { on := 18, ground := Go.Ground.chain }, { on := 0, ground := Go.Ground.phase }, { on := 1, ground := Go.Ground.phase }, { on := 2, ground := Go.Ground.phase }, { on := 3, ground := Go.Ground.phase }, { on := 4, ground := Go.Ground.phase }, { on := 5, ground := Go.Ground.phase }, { on := 6, ground := Go.Ground.phase }, { on := 7, ground := Go.Ground.phase }, { on := 8, ground := Go.Ground.phase }, { on := 9, ground := Go.Ground.phase }, { on := 10, ground := Go.Ground.phase }, { on := 11, ground := Go.Ground.phase }, { on := 12, ground := Go.Ground.phase }, { on := 13, ground := Go.Ground.phase }, { on := 14, ground := Go.Ground.phase }, { on := 15, ground := Go.Ground.phase }, { on := 16, ground := Go.Ground.phase }, { on := 17, ground := Go.Ground.phase }, { on := 18, ground := Go.Ground.phase }, { on := 19, ground := Go.Ground.phase }, { on := 20, ground := Go.Ground.phase }], guard := none }) (v := ?_) rfl (by kernel_rfl) (by kernel_rfl) (by kernel_rfl) (fun _ _ _ h => h) (Or.inl ⟨by rfl, ?_⟩) hHeld ?_
    rotate_left 1
    · (intro w0 hSw); (try dsimp only at hSw); go_simp <;> with_reducible rfl
    (try simp only [Act.put, List.setIfInBounds_toArray, List.set_cons_zero, List.set_cons_succ])
    refine wpAnyH_done (by kernel_rfl) ?_ _
    refine NoPanic.normal ?_
    clear hHeld
    go_wp2_with fail
    go_ret
    exact ⟨ret_str (by rw [HOp.out, HTB.out, HTB2.out, HBB.out]; apply ByteArray.ext; simp [bstr]), bt HBx.out HH3.out⟩
  · rw [if_pos (by rfl)]
    go_simp
    refine (HJ.out _ (bt HBx.out HH2.out)).mono ?_
    rintro e w3 ⟨rfl, hb⟩
    have HH3 := Lib.hid (bt HH2.out hb)
    have hcs3 := (hb.cell (p := ⟨w1.heap.size, m, none⟩) hcl).trans hcs
    clear hb hcs
    go_wp2_with fail
    refine hK.out _ _ HH3.out (fun hHeld => ?_)
    clear hK K
    (try simp only [Act.put, List.setIfInBounds_toArray, List.set_cons_zero, List.set_cons_succ])
    refine wpAnyH_ready (rs := [11]) (by kernel_rfl) (by simp) ?_
    refine (AllReadyH.cons (o := { dst := some 92, op := Go.Op.load 9 (Go.Operand.tmp 91), type := 9, pos := "ref.go:134", after := #[{ on := 10, ground := Go.Ground.data }], guard := none }) rfl (fun K hK => ?_) AllReadyH.nil)
    rw [if_pos (by rfl)]
    go_simp
    go_wp2_with fail
    refine hK.out _ _ HH3.out (fun hHeld => ?_)
    clear hK K
    (try simp only [Act.put, List.setIfInBounds_toArray, List.set_cons_zero, List.set_cons_succ])
    refine wpAnyH_take (i := 12) (oi := { dst := some 93, op := Go.Op.binOp Go.BinOp.add 9 (Go.Operand.tmp 87) (Go.Operand.tmp 92) 9, type := 9, pos := "ref.go:134", after := #[{ on := 6, ground := Go.Ground.data }, { on := 11, ground := Go.Ground.data }], guard := none }) (v := ?_) rfl (by kernel_rfl) (by kernel_rfl) (by kernel_rfl) (fun _ _ _ h => h) (Or.inl ⟨by rfl, ?_⟩) hHeld ?_
    rotate_left 1
    · (intro w0 hSw); (try dsimp only at hSw); go_simp <;> with_reducible rfl
    (try simp only [Act.put, List.setIfInBounds_toArray, List.set_cons_zero, List.set_cons_succ])
    refine wpAnyH_take (i := 13) (oi := { dst := some 94, op := Go.Op.binOp Go.BinOp.add 9 (Go.Operand.tmp 93) (Go.Operand.const (Go.Value.string { data := #[32] })) 9, type := 9, pos := "ref.go:134", after := #[{ on := 12, ground := Go.Ground.data }], guard := none }) (v := ?_) rfl (by kernel_rfl) (by kernel_rfl) (by kernel_rfl) (fun _ _ _ h => h) (Or.inl ⟨by rfl, ?_⟩) hHeld ?_
    rotate_left 1
    · (intro w0 hSw); (try dsimp only at hSw); go_simp <;> with_reducible rfl
    (try simp only [Act.put, List.setIfInBounds_toArray, List.set_cons_zero, List.set_cons_succ])
    refine wpAnyH_take (i := 19) (oi := { dst := some 100, op := Go.Op.binOp Go.BinOp.add 9 (Go.Operand.tmp 94) (Go.Operand.tmp 99) 9, type := 9, pos := "ref.go:134", after := #[{ on := 13, ground := Go.Ground.data }, { on := 18, ground := Go.Ground.data }], guard := none }) (v := ?_) rfl (by kernel_rfl) (by kernel_rfl) (by kernel_rfl) (fun _ _ _ h => h) (Or.inl ⟨by rfl, ?_⟩) hHeld ?_
    rotate_left 1
    · (intro w0 hSw); (try dsimp only at hSw); go_simp <;> with_reducible rfl
    (try simp only [Act.put, List.setIfInBounds_toArray, List.set_cons_zero, List.set_cons_succ])
    refine wpAnyH_take (i := 20) (oi := { dst := some 101, op := Go.Op.binOp Go.BinOp.add 9 (Go.Operand.tmp 100) (Go.Operand.const (Go.Value.string { data := #[41] })) 9, type := 9, pos := "ref.go:134", after := #[{ on := 19, ground := Go.Ground.data }], guard := none }) (v := ?_) rfl (by kernel_rfl) (by kernel_rfl) (by kernel_rfl) (fun _ _ _ h => h) (Or.inl ⟨by rfl, ?_⟩) hHeld ?_
    rotate_left 1
    · (intro w0 hSw); (try dsimp only at hSw); go_simp <;> with_reducible rfl
    (try simp only [Act.put, List.setIfInBounds_toArray, List.set_cons_zero, List.set_cons_succ])
    refine wpAnyH_take (i := 21) (oi := { dst := some 2, op := Go.Op.assign (Go.Operand.tmp 101), type := 9, pos := "ref.go:134", after := #[{ on := 20, ground := Go.Ground.data }, { on := 18, ground := Go.Ground.chain }, { on := 0, ground := Go.Ground.phase }, { on := 1, ground := Go.Ground.phase }, { on := 2, ground := Go.Ground.phase }, { on := 3, ground := Go.Ground.phase }, { on := 4, ground := Go.Ground.phase }, { on := 5, ground := Go.Ground.phase }, { on := 6, ground := Go.Ground.phase }, { on := 7, ground := Go.Ground.phase }, { on := 8, ground := Go.Ground.phase }, { on := 9, ground := Go.Ground.phase }, { on := 10, ground := Go.Ground.phase }, { on := 11, ground := Go.Ground.phase }, { on := 12, ground := Go.Ground.phase }, { on := 13, ground := Go.Ground.phase }, { on := 14, ground := Go.Ground.phase }, { on := 15, ground := Go.Ground.phase }, { on := 16, ground := Go.Ground.phase }, { on := 17, ground := Go.Ground.phase }, { on := 18, ground := Go.Ground.phase }, { on := 19, ground := Go.Ground.phase }, { on := 20, ground := Go.Ground.phase }], guard := none }) (v := ?_) rfl (by kernel_rfl) (by kernel_rfl) (by kernel_rfl) (fun _ _ _ h => h) (Or.inl ⟨by rfl, ?_⟩) hHeld ?_
    rotate_left 1
    · (intro w0 hSw); (try dsimp only at hSw); go_simp <;> with_reducible rfl
    (try simp only [Act.put, List.setIfInBounds_toArray, List.set_cons_zero, List.set_cons_succ])
    refine wpAnyH_done (by kernel_rfl) ?_ _
    refine NoPanic.normal ?_
    clear hHeld
    go_wp2_with fail
    go_ret
    exact ⟨ret_str (by rw [HOp.out, HTB.out, HTB2.out, HBB.out]; apply ByteArray.ext; simp [bstr]), bt HBx.out HH3.out⟩
end
section
open Go.RowKit Go.Shelf

set_option maxHeartbeats 4000000 in
theorem refShow_n : ∀ (n : Nat) (h : Hd) (l : List Ex), cnt (.mk h l) ≤ n → n ≤ 512 → AllSm (.mk h l) → FitX (.mk h l) → ∀ (w : World) (A : Option Addr) (cap : Nat), XsAt w.heap.size w l A → l.length ≤ cap →
    Calls Tryz.prog 16 #[XV h A l.length cap] w fun e w' => e = .returned (.string (bstr (shwX (.mk h l)))) ∧ Below w.heap.size w w' := by
  intro n
  induction n with
  | zero => intro h l hc; have := cnt_pos (.mk h l); omega
  | succ n ih =>
    intro h l hc hn hsm hf w A cap hX hcap
    have hb0 := ba w (xbox h A l.length cap)
    rw [AllSm] at hsm
    rw [FitX] at hf
    rw [cnt_mk] at hc
    have kid : ∀ (x : Ex), AllSm x → FitX x → cnt x ≤ n → ∀ (A' : Option Addr) (cap' : Nat), x.kids.length ≤ cap' → XsAt w.heap.size w x.kids A' → RShowsAt w x A' cap' := by
      intro x h1 h2 h3 A' cap' h4 h5 w1 hb1
      obtain ⟨hx, lx⟩ := x
      exact ih hx lx h3 (by omega) h1 h2 w1 A' cap' (XsAt.next h5 hb1) h4
    obtain ⟨k, m, vk, vn, vs, tab, col⟩ := h
    have hst := hsm.1.t
    have hsc := hsm.1.c
    have hsv := hsm.1.v
    simp only at hst hsc hsv
    have HB0 := Lib.hid hb0
    have hfb := hf.1
    unfold fitsB at hfb
    by_cases h1 : k = 1
    · subst h1
      have HS := Lib.hid (show shwX (.mk ⟨1, m, vk, vn, vs, tab, col⟩ l) = showL vk vn vs by rw [shwX]; rfl)
      clear hfb hf hsm kid hX ih hb0
      go_enter Tryz.func16, Tryz.ntmps16
      go_wp2_with fail
      refine (refShow_any vk vn vs _ (by omega)).mono ?_
      rintro e w1 ⟨rfl, hb⟩
      have HB := Lib.hid (bt HB0.out hb)
      clear hb
      go_wp2_with fail
      go_ret
      exact ⟨ret_str (by rw [HS.out]), HB.out⟩
    · rw [if_neg h1] at hfb
      by_cases h2 : k = 2
      · subst h2
        have HS := Lib.hid (show shwX (.mk ⟨2, m, vk, vn, vs, tab, col⟩ l) = colX tab col by rw [shwX]; rfl)
        clear hfb hf hsm kid hX ih hb0
        cases hte : tab.toList.isEmpty
        all_goals
          have HT := Lib.hid hte
          have hne : (tab.toList != []) = !tab.toList.isEmpty := by cases tab.toList <;> rfl
          rw [hte] at hne
          go_enter Tryz.func16, Tryz.ntmps16
          go_wp2
          go_ret
          exact ⟨ret_str (by rw [HS.out]; apply ByteArray.ext; simp [bstr, colX, HT.out]), HB0.out⟩
      · rw [if_neg h2] at hfb
        by_cases h4 : k = 4
        · subst h4
          have hfb : (aggB m l.length && namelessB ⟨4, m, vk, vn, vs, tab, col⟩ && valuelessB ⟨4, m, vk, vn, vs, tab, col⟩) = true := hfb
          have hag : aggB m l.length = true := by
            cases h : aggB m l.length with
            | true => rfl
            | false => rw [h] at hfb; simp at hfb
          have HS : shwX (.mk ⟨4, m, vk, vn, vs, tab, col⟩ l) = aggX m ((shwXs l).getD 0 []) := by rw [shwX]; rfl
          rw [HS]
          unfold aggB at hag
          by_cases hm : m = 1
          · subst hm; exact rshowAgg1_any _ _ _ _ _ _ _ _ _ _
          · rw [if_neg hm] at hag
            simp only [Bool.and_eq_true, decide_eq_true_eq, beq_iff_eq] at hag
            obtain ⟨⟨g1, g2⟩, g3⟩ := hag
            obtain ⟨x, rfl⟩ := List.length_eq_one_iff.1 (show l.length = 1 by omega)
            obtain ⟨g, o, A', cap', rfl, hg, hc', hl', hx'⟩ := XsAt.one hX
            have hcx : cnt x ≤ n := by simp only [cntL] at hc; omega
            rw [AllSmL] at hsm
            have hf2 := hf.2
            rw [FitXs] at hf2
            obtain ⟨m', rfl⟩ : ∃ m' : Nat, m = m' := ⟨m.toNat, by omega⟩
            have := rshowAgg_of m' vk vn vs tab col x g o cap A' cap' w hg hc' (kid x hsm.2.1 hf2.1 hcx A' cap' hl' hx') (by have := shwX_len x hsm.2.1; omega) (by omega)
            simpa [shwXs] using this
        · by_cases h3 : k = 3
          · subst h3
            rw [if_pos rfl] at hfb
            simp only [Bool.and_eq_true, decide_eq_true_eq, beq_iff_eq] at hfb
            obtain ⟨⟨⟨ha, hla⟩, _⟩, _⟩ := hfb
            have HS : shwX (.mk ⟨3, m, vk, vn, vs, tab, col⟩ l) = [40] ++ opX m ((shwXs l).getD 0 []) ((shwXs l).getD 1 []) ++ [41] := by rw [shwX]; rfl
            rw [HS]
            unfold arI at ha hla
            by_cases hu : m = 3 ∨ m = 15 ∨ m = 16 ∨ m = 17
            · rw [if_pos hu] at hla
              obtain ⟨x, rfl⟩ := List.length_eq_one_iff.1 (show l.length = 1 by omega)
              obtain ⟨g, o, A', cap', rfl, hg, hc', hl', hx'⟩ := XsAt.one hX
              have hcx : cnt x ≤ n := by simp only [cntL] at hc; omega
              rw [AllSmL] at hsm
              have hf2 := hf.2
              rw [FitXs] at hf2
              have := rshowOp1_of m vk vn vs tab col x g o cap A' cap' w hg hc' (kid x hsm.2.1 hf2.1 hcx A' cap' hl' hx') (by have := shwX_len x hsm.2.1; omega) hu []
              simpa [shwXs] using this
            · rw [if_neg hu] at ha hla
              by_cases hv : 1 ≤ m ∧ m ≤ 17
              · rw [if_pos hv] at hla
                obtain ⟨x, y, rfl⟩ := len2 (show l.length = 2 by omega)
                obtain ⟨g, o, A', cap', rfl, hg, hc', hl', hx'⟩ := XsAt.one hX
                obtain ⟨B', cap2, hc2, hl2, hx2⟩ := XsAt.two hX
                have hcx : cnt x + cnt y ≤ n := by simp only [cntL] at hc; omega
                have hpx := cnt_pos x
                have hpy := cnt_pos y
                rw [AllSmL, AllSmL] at hsm
                have hf2 := hf.2
                rw [FitXs, FitXs] at hf2
                obtain ⟨m', rfl⟩ : ∃ m' : Nat, m = m' := ⟨m.toNat, by omega⟩
                have := rshowOp2_of m' vk vn vs tab col x y g o cap A' B' cap' cap2 w hg hc' hc2 (kid x hsm.2.1 hf2.1 (by omega) A' cap' hl' hx') (kid y hsm.2.2.1 hf2.2.1 (by omega) B' cap2 hl2 hx2) (by have := shwX_len x hsm.2.1; have := shwX_len y hsm.2.2.1; omega) (by omega)
                simpa [shwXs] using this
              · rw [if_neg hv] at ha; omega
          · rw [if_neg h3, if_neg h4] at hfb; cases hfb
end
end Go.Proofs.YteckhaicodmakaaGreatDoor
