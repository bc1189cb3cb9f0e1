/-
  Package ledger: slices.Sort of a list of numbers of the call's own; Accounts.
-/
import Derived.Test.YthfopabefknlkabLdf
import Derived.Test.YthfopabefknlkabIsort
import Derived.Shelf.Sort.Plain
import Derived.Shelf.Slices.In.SortNone
import Derived.Sort.OwnSortedInts
namespace Go.Proofs.Ythfopabefknlkab
open Go.RowKit Go.Maps Go.Sort

theorem sortL_any (base : Nat) (v : Value) (xs : List Int) (w : World) (h : w.ownsRow base 3 1 v xs.length (xs.map (Value.int .i64))) (hl : xs.length ≤ 100000) :
    Calls Try.prog 40 #[v] w fun e w' => e = .returned (.tuple #[]) ∧ (∃ ys : List Int, ys.Perm xs ∧ ys.Pairwise (fun x y => x ≤ y) ∧ w'.ownsRow base 3 1 v xs.length (ys.map (Value.int .i64))) ∧ w.grownBy w' v.ownBlock := by
  rcases h.2 with ⟨rfl, h0⟩ | ⟨g, cap, cur, rfl, hb, hg, hn, hcap, hsz, ht⟩
  · have hx : xs = [] := List.eq_nil_of_length_eq_zero h0
    subst hx
    refine (Any.slices_Sort_int_none Try.isort none 0 w).mono ?_
    rintro e w' ⟨rfl, rfl⟩
    exact ⟨rfl, ⟨[], List.Perm.refl _, List.Pairwise.nil, h⟩, ⟨rfl, rfl, rfl, Nat.le_refl _, fun _ _ _ => rfl⟩⟩
  · rw [Nat.mul_one] at ht
    refine (Any.slices_Sort_int Try.isort g 0 cap xs w (holds_of_blockI hg ht) (block_lt hg) (by omega)).mono ?_
    rintro e w' ⟨rfl, n, os, rfl⟩
    exact ⟨rfl, ⟨xs.mergeSort fun x y => decide (x ≤ y), List.mergeSort_perm _ _, (List.pairwise_mergeSort (le := fun x y : Int => decide (x ≤ y)) (fun a b c h1 h2 => by simp at h1 h2 ⊢; omega) (fun a b => by simp; omega) xs).imp (fun h => by simpa using h), ownsRow_sortedI (List.length_mergeSort _) hb hg hn hcap hsz⟩, grownBy_sortedI _⟩

def AccEnd (w : World) (L : List Ac) (e : Ending) (w' : World) : Prop :=
  (∃ (v : Value) (ys : List Int), e = .returned v ∧ ys.Perm (L.map Ac.n) ∧ ys.Pairwise (fun x y => x ≤ y) ∧ w'.ownsRow w.heap.size 3 1 v L.length (ys.map (Value.int .i64))) ∧ Below w.heap.size w w'
set_option maxRecDepth 100000 in
set_option maxHeartbeats 1000000 in
theorem accounts_any (l m : Nat) (L : List Ac) (last most : Int) (w : World) (h : LedAt w l m L last most) (hs : Sane L) :
    Calls Try.prog 14 #[.pointer (some ⟨l, 0, none⟩)] w (AccEnd w L) := by
  have HL := Lib.hid (h.kept (ba w (.cells #[.slice none 0 0] 34)))
  have HS := Lib.hid hs
  have HC := Lib.hid (show (w.alloc (.cells #[.slice none 0 0] 34)).heap[w.heap.size]? = some (.cells #[.slice none 0 0] 34 (0, 0)) from (MapKept.heap_alloc w _).1)
  have HB := Lib.hid (ba w (.cells #[.slice none 0 0] 34))
  have HZ := Lib.hid (show (w.alloc (.cells #[.slice none 0 0] 34)).heap.size = w.heap.size + 1 by simp)
  clear h hs
  go_enter Try.func14, Try.ntmps14
  go_wp2_with fail
  generalize w.alloc (.cells #[.slice none 0 0] 34) = W at HL HC HB HZ ⊢
  refine (eachA_any l m L last most w.heap.size W HL.out HS.out HC.out).mono ?_
  rintro e w2 ⟨rfl, ⟨base, xs, hbs, hbx, hp⟩, ha⟩
  have HB2 := Lib.hid (HB.out.trans (ha.below (Nat.le_refl _) (Nat.le_refl _) HB.out.size))
  obtain ⟨b1, b2, v, b3, b4⟩ := hbx
  have x0 : w2.cell? ⟨w.heap.size, 0, none⟩ = some v := by simp [World.cell?, b3]
  have HP := Lib.hid hp
  have HO := Lib.hid b4
  have HBx := Lib.hid b3
  have HBs := Lib.hid (And.intro b1 b2)
  have hlen := HS.out.len
  have HLn := Lib.hid (show xs.length = L.length by rw [hp.length_eq, List.length_map])
  have HSt := Lib.hid (sortL_any base v xs w2 b4 (by have := HLn.out; omega))
  clear hbs hp ha b1 b2 b3 b4 hlen
  go_wp2_with fail
  refine HSt.out.mono ?_
  rintro e w3 ⟨rfl, ⟨ys, hy1, hy2, hy3⟩, hg⟩
  have hbc : w3.heap[w.heap.size]? = some (.cells #[v] 34 (0, 0)) := (hg.block _ (block_lt HBx.out) (fun e => by have := (HO.out.lt _ e.symm).1; have := HBs.out.1; omega)).trans HBx.out
  have x1 : w3.cell? ⟨w.heap.size, 0, none⟩ = some v := by simp [World.cell?, hbc]
  have HY := Lib.hid (And.intro hy1 (And.intro hy2 hy3))
  have HB3 := Lib.hid (HB2.out.grown hg HB2.out.size (fun k hk => by have := (HO.out.lt k hk).1; have := HBs.out.1; omega))
  clear hbc hy1 hy2 hy3 hg x0
  go_wp2_with fail
  go_ret
  obtain ⟨y1, y2, y3⟩ := HY.out
  rw [HLn.out] at y3
  exact ⟨⟨v, ys, rfl, y1.trans HP.out, y2, ⟨y3.1, y3.2.imp id fun ⟨g, cap, cur, h1, h2, h3⟩ => ⟨g, cap, cur, h1, Nat.le_trans (Nat.le_of_lt HBs.out.1) h2, h3⟩⟩⟩, HB3.out⟩
theorem accounts_nil (w : World) :
    Calls Try.prog 14 #[.pointer none] w fun e w' => e = .returned (.slice none 0 0) ∧ Below w.heap.size w w' := by
  have hc := (MapKept.heap_alloc w (.cells #[.slice none 0 0] 34)).1
  have HB := Lib.hid (ba w (.cells #[.slice none 0 0] 34))
  have x0 : (w.alloc (.cells #[.slice none 0 0] 34)).cell? ⟨w.heap.size, 0, none⟩ = some (.slice none 0 0) := by simp only [World.cell?, hc]; rfl
  have HSt := Lib.hid (sortL_any w.heap.size (.slice none 0 0) [] (w.alloc (.cells #[.slice none 0 0] 34)) (World.ownsRow_nil _ _ _ _) (by simp))
  clear hc
  go_enter Try.func14, Try.ntmps14
  go_wp2_with fail
  generalize w.alloc (.cells #[.slice none 0 0] 34) = W at HB HSt x0 ⊢
  refine (each_nil _ _).mono ?_
  rintro e w2 ⟨rfl, rfl⟩
  go_wp2_with fail
  refine HSt.out.mono ?_
  rintro e w3 ⟨rfl, _, hg⟩
  have HG := Lib.hid (HB.out.grown hg HB.out.size (fun k hk => by simp [Value.ownBlock] at hk))
  have x1 : w3.cell? ⟨w.heap.size, 0, none⟩ = some (.slice none 0 0) := by
    have hz : w.heap.size < W.heap.size := World.block_lt_of_cell? W _ x0
    rw [World.cell?_of_block (hg.block _ hz (by simp [Value.ownBlock]))]
    exact x0
  clear hg x0
  go_wp2_with fail
  go_ret
  exact ⟨rfl, HG.out⟩
end Go.Proofs.Ythfopabefknlkab
