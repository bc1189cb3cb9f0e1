/-
  Expressions copied; made.
-/
import Derived.Test.YteckhaicodmakaaGreatDoorEx1
import Derived.Maps.AppendAt
namespace Go.Proofs.YteckhaicodmakaaGreatDoor
open Go.RowKit Go.Shelf

/-! A box of eight cells. -/
abbrev set8 (W : World) (U : Nat) (b0 b1 b2 b3 b4 b5 b6 b7 : Value) : World := ((((((((W.setCell ⟨U, 0, none⟩ b0).setCell ⟨U, 1, none⟩ b1).setCell ⟨U, 2, none⟩ b2).setCell ⟨U, 3, none⟩ b3).setCell ⟨U, 4, none⟩ b4).setCell ⟨U, 5, none⟩ b5).setCell ⟨U, 6, none⟩ b6).setCell ⟨U, 7, none⟩ b7)
theorem setc_box {W : World} {U : Nat} {cs : Array Value} {T : TypeId} {f : Nat × Nat} (h : W.heap[U]? = some (.cells cs T f)) (j : Nat) (b : Value) :
    (W.setCell ⟨U, j, none⟩ b).heap[U]? = some (.cells (cs.setIfInBounds j b) T f) := by
  simp only [World.setCell, Array.getElem?_modify, if_true, h]
  rfl
theorem set8_box {W : World} {U : Nat} {a0 a1 a2 a3 a4 a5 a6 a7 : Value} {T : TypeId} (h : W.heap[U]? = some (.cells #[a0, a1, a2, a3, a4, a5, a6, a7] T (0, 0))) (b0 b1 b2 b3 b4 b5 b6 b7 : Value) :
    (set8 W U b0 b1 b2 b3 b4 b5 b6 b7).heap[U]? = some (.cells #[b0, b1, b2, b3, b4, b5, b6, b7] T (0, 0)) := by
  refine ((setc_box (setc_box (setc_box (setc_box (setc_box (setc_box (setc_box (setc_box h 0 b0) 1 b1) 2 b2) 3 b3) 4 b4) 5 b5) 6 b6) 7 b7)).trans ?_
  simp
theorem set8_other {W : World} {U k : Nat} (hk : k ≠ U) (b0 b1 b2 b3 b4 b5 b6 b7 : Value) : (set8 W U b0 b1 b2 b3 b4 b5 b6 b7).heap[k]? = W.heap[k]? := by
  simp only [set8, World.setCell, Array.getElem?_modify]
  simp [Ne.symm hk]
theorem set8_size (W : World) (U : Nat) (b0 b1 b2 b3 b4 b5 b6 b7 : Value) : (set8 W U b0 b1 b2 b3 b4 b5 b6 b7).heap.size = W.heap.size := by simp [set8, World.setCell]
theorem set8_below {B U : Nat} {w W : World} (h : Below B w W) (hU : B ≤ U) (b0 b1 b2 b3 b4 b5 b6 b7 : Value) : Below B w (set8 W U b0 b1 b2 b3 b4 b5 b6 b7) :=
  ((((((((h.setCell (p := ⟨U, 0, none⟩) hU b0).setCell (p := ⟨U, 1, none⟩) hU b1).setCell (p := ⟨U, 2, none⟩) hU b2).setCell (p := ⟨U, 3, none⟩) hU b3).setCell (p := ⟨U, 4, none⟩) hU b4).setCell (p := ⟨U, 5, none⟩) hU b5).setCell (p := ⟨U, 6, none⟩) hU b6).setCell (p := ⟨U, 7, none⟩) hU b7)
theorem cell8 {w : World} {U : Nat} {b0 b1 b2 b3 b4 b5 b6 b7 : Value} {T : TypeId} (e : w.heap[U]? = some (.cells #[b0, b1, b2, b3, b4, b5, b6, b7] T (0, 0))) :
    (w.cell? ⟨U, 0, none⟩ = some b0 ∧ w.cell? ⟨U, 1, none⟩ = some b1 ∧ w.cell? ⟨U, 2, none⟩ = some b2 ∧ w.cell? ⟨U, 3, none⟩ = some b3 ∧ w.cell? ⟨U, 4, none⟩ = some b4 ∧ w.cell? ⟨U, 5, none⟩ = some b5 ∧ w.cell? ⟨U, 6, none⟩ = some b6 ∧ w.cell? ⟨U, 7, none⟩ = some b7) ∧
    w.frozen? ⟨U, 0, none⟩ = false ∧ w.frozen? ⟨U, 1, none⟩ = false ∧ w.frozen? ⟨U, 2, none⟩ = false ∧ w.frozen? ⟨U, 3, none⟩ = false ∧ w.frozen? ⟨U, 4, none⟩ = false ∧ w.frozen? ⟨U, 5, none⟩ = false ∧ w.frozen? ⟨U, 6, none⟩ = false ∧ w.frozen? ⟨U, 7, none⟩ = false :=
  ⟨⟨by simp only [World.cell?, e]; rfl, by simp only [World.cell?, e]; rfl, by simp only [World.cell?, e]; rfl, by simp only [World.cell?, e]; rfl, by simp only [World.cell?, e]; rfl, by simp only [World.cell?, e]; rfl, by simp only [World.cell?, e]; rfl, by simp only [World.cell?, e]; rfl⟩,
    by simp only [World.frozen?, e]; rfl, by simp only [World.frozen?, e]; rfl, by simp only [World.frozen?, e]; rfl, by simp only [World.frozen?, e]; rfl, by simp only [World.frozen?, e]; rfl, by simp only [World.frozen?, e]; rfl, by simp only [World.frozen?, e]; rfl, by simp only [World.frozen?, e]; rfl⟩
theorem set7_box {W : World} {U : Nat} {a0 a1 a2 a3 a4 a5 a6 a7 : Value} {T : TypeId} (h : W.heap[U]? = some (.cells #[a0, a1, a2, a3, a4, a5, a6, a7] T (0, 0))) (b : Value) :
    (W.setCell ⟨U, 7, none⟩ b).heap[U]? = some (.cells #[a0, a1, a2, a3, a4, a5, a6, b] T (0, 0)) := by
  simp only [World.setCell, Array.getElem?_modify, if_true, h]
  rfl
theorem setc_other {W : World} {U k j : Nat} (hk : k ≠ U) (b : Value) : (W.setCell ⟨U, j, none⟩ b).heap[k]? = W.heap[k]? := by
  simp only [World.setCell, Array.getElem?_modify]
  simp [Ne.symm hk]
theorem setc_size (W : World) (p : Addr) (b : Value) : (W.setCell p b).heap.size = W.heap.size := by simp [World.setCell]

theorem xnews (wr : World) (q : XQ) (t : TypeId) (j : Nat) (u : Value) (h : (xcell q)[j]? = some u) : (wr.alloc (.cells (xcell q).toArray t)).cell? ((⟨wr.heap.size, 0, none⟩ : Addr).add j) = some u := by
  have e2 : (⟨wr.heap.size, 0, none⟩ : Addr).add j = ⟨wr.heap.size, j, none⟩ := by simp only [Addr.add]; split <;> simp_all
  have hn := (MapKept.heap_alloc wr (.cells (xcell q).toArray t)).1
  rw [e2]
  unfold World.cell?
  rw [hn]
  simp [h]
/-- What copyAll and copyOf hand back. -/
def CopyL (w : World) (l : List Ex) (e : Ending) (w' : World) : Prop :=
  ∃ A cap, e = .returned (.slice A l.length cap) ∧ l.length ≤ cap ∧ XsB (Bn w.heap.size w') w' l A ∧ Below w.heap.size w w'
def CopyE (w : World) (x : Ex) (e : Ending) (w' : World) : Prop :=
  ∃ A cap, e = .returned (XV x.hd A x.kids.length cap) ∧ x.kids.length ≤ cap ∧ XsB (Bn w.heap.size w') w' x.kids A ∧ Below w.heap.size w w'
abbrev x0 : Obj := .cells #[.int .i64 0, .int .i64 0, .int .i64 0, .int .i64 0, .string ⟨#[]⟩, .string ⟨#[]⟩, .string ⟨#[]⟩, .slice none 0 0] 26
theorem copyOf_of (h : Hd) (l : List Ex) (w : World) (A : Option Addr) (cap : Nat)
    (ih : ∀ w1, Below w.heap.size w w1 → Calls Tryz.prog 45 #[.slice A l.length cap] w1 (CopyL w1 l)) :
    Calls Tryz.prog 54 #[XV h A l.length cap] w (CopyE w (.mk h l)) := by
  have hb1 := bt (ba w (xbox h A l.length cap)) (ba _ x0)
  have HI := Lib.hid (ih _ hb1)
  have HB1 := Lib.hid hb1
  have HX0 := Lib.hid (((ba (w.alloc (xbox h A l.length cap)) x0).block w.heap.size (by rw [World.size_alloc]; omega)).trans (MapKept.heap_alloc w (xbox h A l.length cap)).1)
  have HX1 := Lib.hid ((MapKept.heap_alloc (w.alloc (xbox h A l.length cap)) x0).1)
  have HSz := Lib.hid (show ((w.alloc (xbox h A l.length cap)).alloc x0).heap.size = w.heap.size + 1 + 1 by simp)
  clear ih hb1
  go_enter Tryz.func54, Tryz.ntmps54
  go_wp2_with fail
  rw [World.size_alloc] at HX1
  obtain ⟨W1, hW1⟩ : ∃ W1, (w.alloc (xbox h A l.length cap)).alloc x0 = W1 := ⟨_, rfl⟩
  obtain ⟨U, hU⟩ : ∃ U, w.heap.size = U := ⟨_, rfl⟩
  rw [hW1] at HI HB1 HX0 HX1 HSz
  refine (show Calls Tryz.prog 45 #[.slice A l.length cap] ((w.alloc (xbox h A l.length cap)).alloc x0) (CopyL W1 l) by rw [hW1]; exact HI.out).mono ?_
  rintro e w2 ⟨A', cap', rfl, hle, hx, hb⟩
  have hX0 := (hb.block _ (by rw [HSz.out]; omega)).trans HX0.out
  have hX1 := (hb.block _ (by rw [HSz.out]; omega)).trans HX1.out
  have HB2 := Lib.hid (HB1.out.trans (hb.mono HB1.out.size))
  have HS2 := Lib.hid hb.size
  have HXB := Lib.hid hx
  have HLE := Lib.hid hle
  have HY0 := Lib.hid (set7_box hX0 (.slice A' l.length cap'))
  have HX0' := Lib.hid hX0
  have HX1' := Lib.hid ((setc_other (W := w2) (U := w.heap.size) (k := w.heap.size + 1) (j := 7) (by omega) (.slice A' l.length cap')).trans hX1)
  clear HX0 HX1 hb hx hle HI hW1
  rw [hU] at HB2 HY0 HX0' HX1' hX0 hX1 HSz ⊢
  obtain ⟨⟨c0, c1, c2, c3, c4, c5, c6, c7⟩, f0, f1, f2, f3, f4, f5, f6, f7⟩ := cell8 hX0
  obtain ⟨⟨d0, d1, d2, d3, d4, d5, d6, d7⟩, g0, g1, g2, g3, g4, g5, g6, g7⟩ := cell8 hX1
  clear hX0 hX1
  have HZ := Lib.hid (set8_box HX1'.out (.int .i64 h.k) (.int .i64 h.n) (.int .i64 h.vk) (.int .i64 h.vn) (.string h.vs) (.string h.tab) (.string h.col) (.slice A' l.length cap'))
  go_wp2_with fail
  obtain ⟨⟨q0, q1, q2, q3, q4, q5, q6, q7⟩, _⟩ := cell8 HZ.out
  refine bodyPost_ret (v := XV h A' l.length cap') (by simp [results, Tryz.results54, go_sem, q0, q1, q2, q3, q4, q5, q6, q7]) rfl ⟨A', cap', rfl, HLE.out, ?_, ?_⟩
  · refine XsB.go (fun k hk => (set8_other (by have := hk.1; have := HSz.out; omega) _ _ _ _ _ _ _ _).trans (setc_other (by have := hk.1; have := HSz.out; omega) _)) (fun k hk => ⟨by have := hk.1; have := HSz.out; omega, ?_⟩) _ _ HXB.out
    rw [set8_size, setc_size]; exact hk.2
  · rw [hU]
    exact set8_below (HB2.out.setCell (p := ⟨U, 7, none⟩) (Nat.le_refl _) _) (by omega) _ _ _ _ _ _ _ _
end Go.Proofs.YteckhaicodmakaaGreatDoor
