/-
  The document's Same: tokens alike.
-/
import Derived.Test.YtbjkencaebeleaaDoorLxc
import Derived.Deep.RegionHeld3
namespace Go.Proofs.YtbjkencaebeleaaDoor
open Go.RowKit Go.Shelf

/-- Tokens that can be read. -/
def TkAt (w : World) (A : Option Addr) (l : List TkA) : Prop :=
  l = [] ∨ ∃ g off, A = some ⟨g, off, none⟩ ∧ ∀ j u, (tks l)[j]? = some u → w.cell? ⟨g, off + j, none⟩ = some u
theorem tks_at : ∀ (l : List TkA) (i : Nat) (x : TkA), l[i]? = some x →
    (tks l)[i * 4]? = some (.int .i64 x.1.k) ∧ (tks l)[i * 4 + 1]? = some (.string ⟨x.1.s.toArray⟩) ∧ (tks l)[i * 4 + 2]? = some (.int .i64 x.1.n) ∧ (tks l)[i * 4 + 3]? = some (.int .i64 x.2)
  | [], i, x, h => by simp at h
  | y :: l, 0, x, h => by
    obtain rfl : y = x := by simpa using h
    refine ⟨?_, ?_, ?_, ?_⟩ <;> simp [tks, tkc]
  | y :: l, i + 1, x, h => by
    have := tks_at l i x (by simpa using h)
    have e : tks (y :: l) = tkc y ++ tks l := rfl
    have e4 : (tkc y).length = 4 := rfl
    rw [e, show (i + 1) * 4 = i * 4 + 4 by omega, show i * 4 + 4 + 1 = i * 4 + 1 + 4 by omega, show i * 4 + 4 + 2 = i * 4 + 2 + 4 by omega, show i * 4 + 4 + 3 = i * 4 + 3 + 4 by omega]
    rw [List.getElem?_append_right (by omega), List.getElem?_append_right (by omega), List.getElem?_append_right (by omega), List.getElem?_append_right (by omega), e4]
    simpa using this
structure TC (w : World) (g o : Nat) (x : TkA) : Prop where
  c0 : w.cell? ⟨g, o, none⟩ = some (.int .i64 x.1.k)
  c1 : w.cell? ⟨g, o + 1, none⟩ = some (.string ⟨x.1.s.toArray⟩)
  c2 : w.cell? ⟨g, o + 2, none⟩ = some (.int .i64 x.1.n)
  c3 : w.cell? ⟨g, o + 3, none⟩ = some (.int .i64 x.2)
theorem TC.kept {w w' : World} {g o : Nat} {x : TkA} (h : TC w g o x) (hb : Below w.heap.size w w') : TC w' g o x :=
  ⟨cell_kept hb h.c0, cell_kept hb h.c1, cell_kept hb h.c2, cell_kept hb h.c3⟩
theorem TkAt.at {w : World} {A : Option Addr} {l : List TkA} (h : TkAt w A l) {i : Nat} {x : TkA} (hx : l[i]? = some x) : ∃ g off, A = some ⟨g, off, none⟩ ∧ TC w g (off + i * 4) x := by
  rcases h with rfl | ⟨g, off, rfl, h⟩
  · simp at hx
  · obtain ⟨a, b, c, d⟩ := tks_at l i x hx
    exact ⟨g, off, rfl, h _ _ a, by have := h _ _ b; rwa [← Nat.add_assoc] at this, by have := h _ _ c; rwa [← Nat.add_assoc] at this, by have := h _ _ d; rwa [← Nat.add_assoc] at this⟩
theorem TkAt.kept {w w' : World} {A : Option Addr} {l : List TkA} (h : TkAt w A l) (hb : Below w.heap.size w w') : TkAt w' A l := by
  rcases h with rfl | ⟨g, off, rfl, h⟩
  · exact .inl rfl
  · exact .inr ⟨g, off, rfl, fun j u hj => cell_kept hb (h j u hj)⟩
theorem neqT (k : Int) (b : ByteArray) (n a : Int) (w : World) : (binOp .neq 32 (tokV k b n a) (tokV k b n a)).run Tryd.prog w = .ok (.bool false) w := by
  have u3 := Tryd.underlying3
  have a3 := Tryd.isAgg3
  have z3 := Tryd.sizeOf3
  have u9 := Tryd.underlying9
  have a9 := Tryd.isAgg9
  have z9 := Tryd.sizeOf9
  have hS : Tryd.prog.underlying 32 = some (.struct (Tryd.prog.fieldsOf 32)) := by kernel_rfl
  have hp : Tryd.prog.stoodInHeld 32 = false := by kernel_rfl
  rw [run_neq_struct, show (10000 : Nat) = 9999 + 1 from rfl, run_equalIn_agg w 9999 32 _ _ hS hp]
  simp only [Program.fieldsOf, Tryd.underlying32]
  go_simp

set_option maxHeartbeats 2000000 in
theorem same_yes (A A' : Option Addr) (c c' : Nat) (la lb : List TkA) (pl : Bool) (w : World) (ha : TkAt w A la) (hb : TkAt w A' lb) (h1 : la.map (·.1) = lb.map (·.1)) (h2 : pl = true → la = lb) (hl : la.length ≤ 9223372036854775807) :
    Calls Tryd.prog 9 #[.slice A la.length c, .slice A' lb.length c', .bool pl] w fun e w' => e = .returned (.bool true) ∧ Below w.heap.size w w' := by
  have hlen : lb.length = la.length := by have := congrArg List.length h1; simpa using this.symm
  rw [hlen]
  have HA := Lib.hid ha
  have HB := Lib.hid hb
  have H1 := Lib.hid h1
  have H2 := Lib.hid h2
  have HL := Lib.hid hlen
  have hq := neqT
  clear ha hb h1 h2 hlen
  cases pl
  · go_enter Tryd.func9, Tryd.ntmps9
    go_wp2_with fail
    go_loopw [7] (fun i W => ∃ k : Nat, k ≤ la.length ∧ i = .int .i64 k ∧ Hid (Below w.heap.size w W)) (fun i _ => la.length - (intOf i).toNat)
    case atStart => exact ⟨0, Nat.zero_le _, rfl, Lib.hid (Below.refl _ _)⟩
    case round =>
      obtain ⟨k, hk, rfl, HW⟩ := hrel
      by_cases hkl : k < la.length
      · obtain ⟨x, hx⟩ : ∃ x, la[k]? = some x := ⟨_, List.getElem?_eq_getElem hkl⟩
        obtain ⟨y, hy⟩ : ∃ y, lb[k]? = some y := ⟨_, List.getElem?_eq_getElem (by rw [HL.out]; exact hkl)⟩
        have hxy : x.1 = y.1 := by
          have := congrArg (fun l => l[k]?) H1.out
          simpa [hx, hy] using this
        obtain ⟨g, off, rfl, hX⟩ := (HA.out.kept HW.out).at hx
        obtain ⟨g', off', rfl, hY⟩ := (HB.out.kept HW.out).at hy
        have HX := Lib.hid (hX.kept (ba wr (.cells #[.int .i64 x.1.k, .string ⟨x.1.s.toArray⟩, .int .i64 x.1.n, .int .i64 x.2] 32)))
        have HY := Lib.hid ((MapKept.heap_alloc wr (.cells #[.int .i64 x.1.k, .string ⟨x.1.s.toArray⟩, .int .i64 x.1.n, .int .i64 x.2] 32)).1)
        have HW2 := Lib.hid (bt HW.out (ba wr (.cells #[.int .i64 x.1.k, .string ⟨x.1.s.toArray⟩, .int .i64 x.1.n, .int .i64 x.2] 32)))
        obtain ⟨a0, a1, a2, a3⟩ := hX
        obtain ⟨b0, b1, b2, b3⟩ := hY
        rw [← hxy] at b0 b1 b2
        clear hxy
        have hg : g < wr.heap.size := lt_of_cell a0
        have hg' : g' < wr.heap.size := lt_of_cell b0
        clear hx hy
        go_upto_region 9 with fail
        clear a0 a1 a2 a3 b0 b1 b2 b3 hg hg'
        generalize wr.alloc (.cells #[.int .i64 x.1.k, .string ⟨x.1.s.toArray⟩, .int .i64 x.1.n, .int .i64 x.2] 32) = W4 at HX HY HW2 ⊢
        generalize wr.heap.size = U at HY ⊢
        obtain ⟨a0, a1, a2, a3⟩ := HX.out
        obtain ⟨⟨c0, c1, c2, c3⟩, _⟩ := tcell HY.out
        go_region
        go_wp2_with fail
        go_roundw
        case rel => exact ⟨k + 1, by omega, by go_num, Lib.hid (Below.drew HW2.out)⟩
        case measure => simp [intOf]; omega
      · go_wp2_with fail
        go_ret
        exact ⟨rfl, HW.out⟩
  · go_enter Tryd.func9, Tryd.ntmps9
    go_wp2_with fail
    go_loopw [7] (fun i W => ∃ k : Nat, k ≤ la.length ∧ i = .int .i64 k ∧ Hid (Below w.heap.size w W)) (fun i _ => la.length - (intOf i).toNat)
    case atStart => exact ⟨0, Nat.zero_le _, rfl, Lib.hid (Below.refl _ _)⟩
    case round =>
      obtain ⟨k, hk, rfl, HW⟩ := hrel
      by_cases hkl : k < la.length
      · obtain ⟨x, hx⟩ : ∃ x, la[k]? = some x := ⟨_, List.getElem?_eq_getElem hkl⟩
        obtain ⟨y, hy⟩ : ∃ y, lb[k]? = some y := ⟨_, List.getElem?_eq_getElem (by rw [HL.out]; exact hkl)⟩
        have hxy : x = y := by
          have := congrArg (fun l => l[k]?) (H2.out (by first | rfl | trivial))
          simpa [hx, hy] using this
        obtain ⟨g, off, rfl, hX⟩ := (HA.out.kept HW.out).at hx
        obtain ⟨g', off', rfl, hY⟩ := (HB.out.kept HW.out).at hy
        have HX := Lib.hid (hX.kept (ba wr (.cells #[.int .i64 x.1.k, .string ⟨x.1.s.toArray⟩, .int .i64 x.1.n, .int .i64 x.2] 32)))
        have HY := Lib.hid ((MapKept.heap_alloc wr (.cells #[.int .i64 x.1.k, .string ⟨x.1.s.toArray⟩, .int .i64 x.1.n, .int .i64 x.2] 32)).1)
        have HW2 := Lib.hid (bt HW.out (ba wr (.cells #[.int .i64 x.1.k, .string ⟨x.1.s.toArray⟩, .int .i64 x.1.n, .int .i64 x.2] 32)))
        obtain ⟨a0, a1, a2, a3⟩ := hX
        obtain ⟨b0, b1, b2, b3⟩ := hY
        rw [← hxy] at b0 b1 b2 b3
        clear hxy
        have hg : g < wr.heap.size := lt_of_cell a0
        have hg' : g' < wr.heap.size := lt_of_cell b0
        clear hx hy
        go_upto_region 9 with fail
        clear a0 a1 a2 a3 b0 b1 b2 b3 hg hg'
        generalize wr.alloc (.cells #[.int .i64 x.1.k, .string ⟨x.1.s.toArray⟩, .int .i64 x.1.n, .int .i64 x.2] 32) = W4 at HX HY HW2 ⊢
        generalize wr.heap.size = U at HY ⊢
        obtain ⟨a0, a1, a2, a3⟩ := HX.out
        obtain ⟨⟨c0, c1, c2, c3⟩, _⟩ := tcell HY.out
        go_region
        go_wp2_with fail
        go_roundw
        case rel => exact ⟨k + 1, by omega, by go_num, Lib.hid (Below.drew HW2.out)⟩
        case measure => simp [intOf]; omega
      · go_wp2_with fail
        go_ret
        exact ⟨rfl, HW.out⟩
end Go.Proofs.YtbjkencaebeleaaDoor
