/-
  Package disk: what DiskKeeps keeps beside the disk: the files' numbers, and the bytes that it wants.
-/
import Derived.Test.YthfopabefknlkabDkf
import Derived.Deep.AppendLies
import Derived.Laws.BytesArg
namespace Go.Proofs.Ythfopabefknlkab
open Go.RowKit Go.Maps Go.Sort

theorem own_Dg {w w' : World} {B C : Nat} {e : TypeId} {v : Value} {n size : Nat} {xs : List Value} (h : w.ownsRow B e size v n xs) (he : outD (.cells #[] e (0, 0)) = true) (hg : Dg C w w') : w'.ownsRow B e size v n xs :=
  ownsRow_same h (fun k hk => by
    obtain ⟨cs, hcs⟩ := own_cells h hk
    rw [hg.typ k _ hcs he, hcs])
/-- The numbers of the first j files. -/
def FAt (w : World) (B : Nat) (v : Value) (j : Nat) : Prop := w.ownsRow B 3 1 v j ((List.range j).map fun k => Value.int .i64 ((k + 1 : Nat) : Int))
theorem FAt.dg {w w' : World} {B C j : Nat} {v : Value} (h : FAt w B v j) (hg : Dg C w w') : FAt w' B v j := own_Dg h (by simp [outD]) hg
theorem FAt.below {w w' : World} {B j : Nat} {v : Value} (h : FAt w B v j) (hb : Below w.heap.size w w') : FAt w' B v j := ownsRow_same h (fun k hk => hb.block k (World.ownsRow.lt h k hk).2)
theorem FAt.read {w : World} {B : Nat} {v : Value} (h : FAt w B v 3) : ∃ b c, v = .slice (some ⟨b, 0, none⟩) 3 c ∧ ∀ k : Nat, k < 3 → w.cell? ⟨b, k, none⟩ = some (.int .i64 ((k + 1 : Nat) : Int)) := by
  rcases h.2 with ⟨_, h0⟩ | ⟨g, cap, cur, hv, hb, hg, _, _, _, ht⟩
  · omega
  · refine ⟨g, cap, hv, fun k hk => ?_⟩
    have hu : ((List.range 3).map fun k => Value.int .i64 ((k + 1 : Nat) : Int))[k]? = some (.int .i64 ((k + 1 : Nat) : Int)) := by
      rw [List.getElem?_map, List.getElem?_range hk]; rfl
    rw [← ht, List.getElem?_take_of_lt (by omega), Array.getElem?_toList] at hu
    simp [World.cell?, hg, hu]
theorem FAt.cell {w : World} {B fb fc : Nat} (h : FAt w B (.slice (some ⟨fb, 0, none⟩) 3 fc) 3) {k : Nat} (hk : k < 3) : w.cell? ⟨fb, k, none⟩ = some (.int .i64 ((k + 1 : Nat) : Int)) := by
  obtain ⟨b, c, hv, hc⟩ := h.read
  injection hv with h1
  injection h1 with h1
  injection h1 with h1
  subst h1
  exact hc k hk
/-- Block wb is an array of three lists of bytes of the law's own. -/
structure WantAt (w : World) (B wb : Nat) (V : Nat → Value) (W : Nat → List Int) : Prop where
  box : w.heap[wb]? = some (.cells #[V 0, V 1, V 2] 52 (0, 0))
  own : ∀ k, k < 3 → w.ownsRow B 5 1 (V k) (W k).length ((W k).map (Value.int .u8))
  apart : ∀ i j, i < 3 → j < 3 → i ≠ j → ∀ k, (V i).ownBlock = some k → (V j).ownBlock ≠ some k
theorem WantAt.dg {w w' : World} {B C wb : Nat} {V : Nat → Value} {W : Nat → List Int} (h : WantAt w B wb V W) (hg : Dg C w w') : WantAt w' B wb V W :=
  ⟨hg.typ wb _ h.box (by simp [outD]), fun k hk => own_Dg (h.own k hk) (by simp [outD]) hg, h.apart⟩
theorem WantAt.below {w w' : World} {B wb : Nat} {V : Nat → Value} {W : Nat → List Int} (h : WantAt w B wb V W) (hb : Below w.heap.size w w') : WantAt w' B wb V W :=
  ⟨(hb.block wb (block_ltD h.box)).trans h.box, fun k hk => ownsRow_same (h.own k hk) (fun i hi => hb.block i ((h.own k hk).lt i hi).2), h.apart⟩
theorem WantAt.cell {w : World} {B wb : Nat} {V : Nat → Value} {W : Nat → List Int} (h : WantAt w B wb V W) (k : Nat) (hk : k < 3) : w.cell? ⟨wb, k, none⟩ = some (V k) := by
  have hb := h.box
  have hc : k = 0 ∨ k = 1 ∨ k = 2 := by omega
  rcases hc with rfl | rfl | rfl <;> simp [World.cell?, hb]
theorem WantAt.fz {w : World} {B wb : Nat} {V : Nat → Value} {W : Nat → List Int} (h : WantAt w B wb V W) (k : Nat) : w.frozen? ⟨wb, k, none⟩ = false := by simp [World.frozen?, h.box]
theorem WantAt.ne {w : World} {B wb : Nat} {V : Nat → Value} {W : Nat → List Int} (h : WantAt w B wb V W) (k : Nat) (hk : k < 3) : (V k).ownBlock ≠ some wb := fun e => by
  obtain ⟨cs, hcs⟩ := own_cells (h.own k hk) e
  have hb := h.box
  rw [hb] at hcs
  cases hcs
/-- One list has a byte more: behind append and the store. -/
theorem WantAt.more {w w3 : World} {B wb g cap k : Nat} {V : Nat → Value} {W : Nat → List Int} {c : Int} (h : WantAt w B wb V W) (hk : k < 3)
    (hown : w3.ownsRow B 5 1 (.slice (some ⟨g, 0, none⟩) ((W k).length + 1) cap) ((W k).length + 1) ((W k).map (Value.int .u8) ++ [.int .u8 c])) (hg : w.grownBy w3 (V k).ownBlock) (hgg : (V k).ownBlock = some g ∨ g = w.heap.size) :
    WantAt (w3.setCell ⟨wb, k, none⟩ (.slice (some ⟨g, 0, none⟩) ((W k).length + 1) cap)) B wb (fun j => if j = k then .slice (some ⟨g, 0, none⟩) ((W k).length + 1) cap else V j) (updW W k c) := by
  have hwb : w3.heap[wb]? = some (.cells #[V 0, V 1, V 2] 52 (0, 0)) := (hg.block wb (block_ltD h.box) (fun e => h.ne k hk e.symm)).trans h.box
  have ho : ∀ i, i ≠ wb → (w3.setCell ⟨wb, k, none⟩ (.slice (some ⟨g, 0, none⟩) ((W k).length + 1) cap)).heap[i]? = w3.heap[i]? := fun i hi => set_others w3 wb k _ i hi
  have hgw : g ≠ wb := by
    intro e
    subst e
    rcases hgg with e2 | e2
    · exact h.ne k hk e2
    · have := block_ltD h.box; omega
  refine ⟨?_, fun j hj => ?_, fun i j hi hj hij b hb => ?_⟩
  · have hc : k = 0 ∨ k = 1 ∨ k = 2 := by omega
    rcases hc with rfl | rfl | rfl <;> simp [World.setCell, Array.getElem?_modify, hwb]
  · by_cases e : j = k
    · subst e
      simp only [if_true]
      unfold updW
      rw [if_pos rfl, List.length_append, List.map_append]
      refine ownsRow_same hown (fun i hi => ho i ?_)
      simp [Value.ownBlock] at hi
      omega
    · simp only [if_neg e]
      unfold updW
      rw [if_neg e]
      refine ownsRow_same (h.own j hj) (fun i hi => ?_)
      have h1 : i ≠ wb := fun e2 => h.ne j hj (e2 ▸ hi)
      exact (ho i h1).trans (hg.block i ((h.own j hj).lt i hi).2 (fun e2 => h.apart j k hj hk e i hi e2.symm))
  · by_cases e1 : i = k
    · subst e1
      simp only [if_true] at hb
      simp [Value.ownBlock] at hb
      subst hb
      rw [if_neg (fun e => hij e.symm)]
      intro e2
      rcases hgg with e3 | e3
      · exact h.apart i j hi hj hij g e3 e2
      · have := ((h.own j hj).lt g e2).2; omega
    · simp only [if_neg e1] at hb
      by_cases e2 : j = k
      · subst e2
        simp only [if_true]
        simp [Value.ownBlock]
        intro e4
        subst e4
        rcases hgg with e3 | e3
        · exact h.apart i j hi hj hij g hb e3
        · have := ((h.own i hi).lt g hb).2; omega
      · simp only [if_neg e2]
        exact h.apart i j hi hj hij b hb
/-- What laws do to lists of their own leaves disks alone. -/
def Aside (w w' : World) : Prop := ∀ (k : Nat) (o : Obj), w.heap[k]? = some o → outD o = false → w'.heap[k]? = some o
theorem Aside.trans {w w1 w2 : World} (h : Aside w w1) (k : Aside w1 w2) : Aside w w2 := fun i o hi ho => k i o (h i o hi ho) ho
theorem Aside.of_below {w w' : World} (h : Below w.heap.size w w') : Aside w w' := fun k _ hk _ => (h.block k (block_ltD hk)).trans hk
theorem Aside.grown {w w' : World} {row : Option Nat} (h : w.grownBy w' row) (hr : ∀ k, row = some k → ∃ o, w.heap[k]? = some o ∧ outD o = true) : Aside w w' := fun k o hk ho => (h.block k (block_ltD hk) (fun e => by
  obtain ⟨o', h1, h2⟩ := hr k e.symm
  rw [hk] at h1
  cases h1
  rw [ho] at h2
  cases h2)).trans hk
theorem Aside.set {w : World} {b i : Nat} {x : Value} (h : ∃ o, w.heap[b]? = some o ∧ outD o = true) : Aside w (w.setCell ⟨b, i, none⟩ x) := fun k o hk ho => (set_others w b i x k (fun e => by
  obtain ⟨o', h1, h2⟩ := h
  rw [e, h1] at hk
  cases hk
  rw [ho] at h2
  cases h2)).trans hk
theorem DkAt.aside {B : Nat} {w w' : World} {l mf ms : Nat} {d : Dk} (h : DkAt B w l mf ms d) (ha : Aside w w') : DkAt B w' l mf ms d := by
  obtain ⟨es, c, h1⟩ := h.flt.isMap
  obtain ⟨es', c', h2⟩ := h.fls.isMap
  refine ⟨⟨ha l _ h.box (by simp [outD]), h.flt.kept ((ha mf _ h1 rfl).trans h1.symm), h.fls.kept ((ha ms _ h2 rfl).trans h2.symm), fun f hf => ownsRow_same (h.pgs f hf) (fun k hk => ?_), h.lo, h.ne⟩, h.sane⟩
  obtain ⟨cs, fr, hc⟩ := h.page_typ hf hk
  exact (ha k _ hc (by simp [outD])).trans hc.symm
theorem KS.aside {B : Nat} {w w' : World} {l mf ms : Nat} {P : Nat → Prop} {W : Nat → List Int} {u pk cnt : Int} (h : KS B w l mf ms P W u pk cnt) (ha : Aside w w') : KS B w' l mf ms P W u pk cnt := by
  obtain ⟨d, h1, h2⟩ := h
  exact ⟨d, h1.aside ha, h2⟩
theorem own_out {w : World} {B n : Nat} {e : TypeId} {v : Value} {xs : List Value} {size : Nat} (h : w.ownsRow B e size v n xs) (he : outD (.cells #[] e (0, 0)) = true) : ∀ k, v.ownBlock = some k → ∃ o, w.heap[k]? = some o ∧ outD o = true := fun k hk => by
  obtain ⟨cs, hcs⟩ := own_cells h hk
  exact ⟨_, hcs, he⟩
theorem own_ne {w : World} {B B' n n' : Nat} {e e' : TypeId} {v v' : Value} {xs xs' : List Value} {size size' : Nat} (h : w.ownsRow B e size v n xs) (h' : w.ownsRow B' e' size' v' n' xs') (he : e ≠ e') : ∀ k, v.ownBlock = some k → v'.ownBlock ≠ some k := fun k hk hk' => by
  obtain ⟨cs, hcs⟩ := own_cells h hk
  obtain ⟨cs', hcs'⟩ := own_cells h' hk'
  rw [hcs] at hcs'
  cases hcs'
  exact he rfl
theorem FAt.step {w w3 : World} {B wb k : Nat} {fv x : Value} {V : Nat → Value} {W : Nat → List Int} (h : FAt w B fv 3) (hW : WantAt w B wb V W) (hk : k < 3) (hg : w.grownBy w3 (V k).ownBlock) : FAt (w3.setCell ⟨wb, k, none⟩ x) B fv 3 :=
  ownsRow_same h (fun i hi => by
    have h1 : i ≠ wb := fun e => by
      subst e
      obtain ⟨cs, hcs⟩ := own_cells h hi
      have hb := hW.box
      rw [hb] at hcs
      cases hcs
    exact (set_others w3 wb k _ i h1).trans (hg.block i (World.ownsRow.lt h i hi).2 (fun e => own_ne h (hW.own k hk) (by decide) i hi e.symm)))
theorem str_cells {w : World} {g : Nat} {q : List Int} {t : TypeId} {fr : Nat × Nat} (h : w.heap[g]? = some (.cells (q.map (Value.int .u8)).toArray t fr)) (hq : q.length = 256) (c : Nat) :
    (convert 45 9 (.slice (some ⟨g, 0, none⟩) 256 c)).run Try.prog w = .ok (.string (strOfNums q)) w := by
  refine run_convert_bytes_arg w _ _ Try.underlying45 Try.underlying5 g 0 256 c q hq (fun i hi => ?_) _ Try.underlying9
  have hi2 : i < q.length := by omega
  simp [World.cell?, h, hi2, List.getD]
theorem WantAt.shape {w : World} {B wb : Nat} {V : Nat → Value} {W : Nat → List Int} (h : WantAt w B wb V W) {k : Nat} (hk : k < 3) : ∃ A c, V k = .slice A (W k).length c ∧ ∀ i (hi : i < (W k).length), ∃ b, A = some ⟨b, 0, none⟩ ∧ b < w.heap.size ∧ w.cell? ⟨b, i, none⟩ = some (.int .u8 (W k)[i]) := by
  rcases (h.own k hk).2 with ⟨hv, hn⟩ | ⟨g, cap, cur, hv, hb, hg, _, _, _, ht⟩
  · exact ⟨none, 0, by rw [hv, hn], fun i hi => by omega⟩
  · refine ⟨some ⟨g, 0, none⟩, cap, hv, fun i hi => ⟨g, rfl, block_ltD hg, ?_⟩⟩
    have hu : ((W k).map (Value.int .u8))[i]? = some (.int .u8 (W k)[i]) := by rw [List.getElem?_map, List.getElem?_eq_getElem hi]; rfl
    rw [← ht, List.getElem?_take_of_lt (by omega), Array.getElem?_toList] at hu
    simp [World.cell?, hg, hu]
theorem want_start (w : World) (B : Nat) : WantAt (w.alloc (.cells #[.slice none 0 0, .slice none 0 0, .slice none 0 0] 52)) B w.heap.size (fun _ => .slice none 0 0) (fun _ => []) :=
  ⟨(MapKept.heap_alloc w _).1, fun _ _ => World.ownsRow_nil _ _ _ _, fun i j _ _ _ k hk => by simp [Value.ownBlock] at hk⟩
def tot3 (W : Nat → List Int) : Nat := (W 0).length + (W 1).length + (W 2).length
theorem tot3_upd (W : Nat → List Int) (k : Nat) (hk : k < 3) (c : Int) : tot3 (updW W k c) = tot3 W + 1 := by
  have hc : k = 0 ∨ k = 1 ∨ k = 2 := by omega
  unfold tot3 updW
  rcases hc with rfl | rfl | rfl <;> simp <;> omega
theorem len_le_tot3 (W : Nat → List Int) (k : Nat) (hk : k < 3) : (W k).length ≤ tot3 W := by
  have hc : k = 0 ∨ k = 1 ∨ k = 2 := by omega
  unfold tot3
  rcases hc with rfl | rfl | rfl <;> omega
theorem tmod3 (x : Int) : -2 ≤ x.tmod 3 ∧ x.tmod 3 ≤ 2 := by
  have h1 := Int.tmod_lt_of_pos x (show (0 : Int) < 3 by decide)
  rcases Int.lt_or_le x 0 with h | h
  · have h2 := Int.tmod_lt_of_pos (-x) (show (0 : Int) < 3 by decide)
    rw [Int.neg_tmod] at h2
    omega
  · have := Int.tmod_nonneg 3 h
    omega
theorem tmod33 (x : Int) : ∃ k : Nat, k < 3 ∧ (x.tmod 3 + 3).tmod 3 = k := by
  have h := tmod3 x
  have h0 : 0 ≤ x.tmod 3 + 3 := by omega
  have h1 := Int.tmod_lt_of_pos (x.tmod 3 + 3) (show (0 : Int) < 3 by decide)
  have h2 := Int.tmod_nonneg 3 h0
  exact ⟨((x.tmod 3 + 3).tmod 3).toNat, by omega, by omega⟩
end Go.Proofs.Ythfopabefknlkab
