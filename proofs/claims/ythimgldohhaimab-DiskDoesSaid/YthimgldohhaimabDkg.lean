/-
  Package disk: what DiskKeeps keeps beside the disk: the files' numbers, and the bytes that it wants.
-/
import Derived.Test.YthimgldohhaimabDkf
import Derived.Deep.AppendLies
import Derived.Laws.BytesArg
namespace Go.Proofs.Ythimgldohhaimab
open Go.RowKit Go.Maps Go.Sort

theorem own_Dg {w w' : World} {B C : Nat} {e : TypeId} {v : Value} {n size : Nat} {xs : List Value} (h : w.ownsRow B e size v n xs) (he : outD (.cells #[] e (0, 0)) = true) (hg : Dg C w w') : w'.ownsRow B e size v n xs :=
  ownsRow_same h (fun k hk => by
    obtain ⟨cs, hcs⟩ := own_cells h hk
    rw [hg.typ k _ hcs he, hcs])
/-- The numbers of the first j files. -/
def FAt (w : World) (B : Nat) (v : Value) (j : Nat) : Prop := w.ownsRow B 3 1 v j ((List.range j).map fun k => Value.int .i64 ((k + 1 : Nat) : Int))
theorem FAt.dg {w w' : World} {B C j : Nat} {v : Value} (h : FAt w B v j) (hg : Dg C w w') : FAt w' B v j := own_Dg h (by simp [outD]) hg
theorem FAt.below {w w' : World} {B j : Nat} {v : Value} (h : FAt w B v j) (hb : Below w.heap.size w w') : FAt w' B v j := ownsRow_same h (fun k hk => hb.block k (World.ownsRow.lt h k hk).2)
theorem FAt.read {w : World} {B : Nat} {v : Value} (h : FAt w B v 3) : ∃ b c, v = .slice (some ⟨b, 0, none⟩) 3 c ∧ ∀ k : Nat, k < 3 → w.cell? ⟨b, k, none⟩ = some (.int .i64 ((k + 1 : Nat) : Int)) := by
  rcases h.2 with ⟨_, h0⟩ | ⟨g, cap, cur, hv, hb, hg, _, _, _, ht⟩
  · omega
  · refine ⟨g, cap, hv, fun k hk => ?_⟩
    have hu : ((List.range 3).map fun k => Value.int .i64 ((k + 1 : Nat) : Int))[k]? = some (.int .i64 ((k + 1 : Nat) : Int)) := by
      rw [List.getElem?_map, List.getElem?_range hk]; rfl
    rw [← ht, List.getElem?_take_of_lt (by omega), Array.getElem?_toList] at hu
    simp [World.cell?, hg, hu]
theorem FAt.cell {w : World} {B fb fc : Nat} (h : FAt w B (.slice (some ⟨fb, 0, none⟩) 3 fc) 3) {k : Nat} (hk : k < 3) : w.cell? ⟨fb, k, none⟩ = some (.int .i64 ((k + 1 : Nat) : Int)) := by
  obtain ⟨b, c, hv, hc⟩ := h.read
  injection hv with h1
  injection h1 with h1
  injection h1 with h1
  subst h1
  exact hc k hk
/-- What laws do to lists of their own leaves disks alone. -/
def Aside (w w' : World) : Prop := ∀ (k : Nat) (o : Obj), w.heap[k]? = some o → outD o = false → w'.heap[k]? = some o
theorem Aside.trans {w w1 w2 : World} (h : Aside w w1) (k : Aside w1 w2) : Aside w w2 := fun i o hi ho => k i o (h i o hi ho) ho
theorem Aside.of_below {w w' : World} (h : Below w.heap.size w w') : Aside w w' := fun k _ hk _ => (h.block k (block_ltD hk)).trans hk
theorem Aside.grown {w w' : World} {row : Option Nat} (h : w.grownBy w' row) (hr : ∀ k, row = some k → ∃ o, w.heap[k]? = some o ∧ outD o = true) : Aside w w' := fun k o hk ho => (h.block k (block_ltD hk) (fun e => by
  obtain ⟨o', h1, h2⟩ := hr k e.symm
  rw [hk] at h1
  cases h1
  rw [ho] at h2
  cases h2)).trans hk
theorem Aside.set {w : World} {b i : Nat} {x : Value} (h : ∃ o, w.heap[b]? = some o ∧ outD o = true) : Aside w (w.setCell ⟨b, i, none⟩ x) := fun k o hk ho => (set_others w b i x k (fun e => by
  obtain ⟨o', h1, h2⟩ := h
  rw [e, h1] at hk
  cases hk
  rw [ho] at h2
  cases h2)).trans hk
theorem DkAt.aside {B : Nat} {w w' : World} {l mf ms : Nat} {d : Dk} (h : DkAt B w l mf ms d) (ha : Aside w w') : DkAt B w' l mf ms d := by
  obtain ⟨es, c, h1⟩ := h.flt.isMap
  obtain ⟨es', c', h2⟩ := h.fls.isMap
  refine ⟨⟨ha l _ h.box (by simp [outD]), h.flt.kept ((ha mf _ h1 rfl).trans h1.symm), h.fls.kept ((ha ms _ h2 rfl).trans h2.symm), fun f hf => ownsRow_same (h.pgs f hf) (fun k hk => ?_), h.lo, h.ne⟩, h.sane⟩
  obtain ⟨cs, fr, hc⟩ := h.page_typ hf hk
  exact (ha k _ hc (by simp [outD])).trans hc.symm
theorem KS.aside {B : Nat} {w w' : World} {l mf ms : Nat} {P : Nat → Prop} {W : Nat → List Int} {u pk cnt : Int} (h : KS B w l mf ms P W u pk cnt) (ha : Aside w w') : KS B w' l mf ms P W u pk cnt := by
  obtain ⟨d, h1, h2⟩ := h
  exact ⟨d, h1.aside ha, h2⟩
theorem own_out {w : World} {B n : Nat} {e : TypeId} {v : Value} {xs : List Value} {size : Nat} (h : w.ownsRow B e size v n xs) (he : outD (.cells #[] e (0, 0)) = true) : ∀ k, v.ownBlock = some k → ∃ o, w.heap[k]? = some o ∧ outD o = true := fun k hk => by
  obtain ⟨cs, hcs⟩ := own_cells h hk
  exact ⟨_, hcs, he⟩
theorem own_ne {w : World} {B B' n n' : Nat} {e e' : TypeId} {v v' : Value} {xs xs' : List Value} {size size' : Nat} (h : w.ownsRow B e size v n xs) (h' : w.ownsRow B' e' size' v' n' xs') (he : e ≠ e') : ∀ k, v.ownBlock = some k → v'.ownBlock ≠ some k := fun k hk hk' => by
  obtain ⟨cs, hcs⟩ := own_cells h hk
  obtain ⟨cs', hcs'⟩ := own_cells h' hk'
  rw [hcs] at hcs'
  cases hcs'
  exact he rfl
theorem str_cells {w : World} {g : Nat} {q : List Int} {t : TypeId} {fr : Nat × Nat} (h : w.heap[g]? = some (.cells (q.map (Value.int .u8)).toArray t fr)) (hq : q.length = 256) (c : Nat) :
    (convert 31 9 (.slice (some ⟨g, 0, none⟩) 256 c)).run Try.prog w = .ok (.string (strOfNums q)) w := by
  refine run_convert_bytes_arg w _ _ Try.underlying31 Try.underlying5 g 0 256 c q hq (fun i hi => ?_) _ Try.underlying9
  have hi2 : i < q.length := by omega
  simp [World.cell?, h, hi2, List.getD]
def tot3 (W : Nat → List Int) : Nat := (W 0).length + (W 1).length + (W 2).length
theorem tot3_upd (W : Nat → List Int) (k : Nat) (hk : k < 3) (c : Int) : tot3 (updW W k c) = tot3 W + 1 := by
  have hc : k = 0 ∨ k = 1 ∨ k = 2 := by omega
  unfold tot3 updW
  rcases hc with rfl | rfl | rfl <;> simp <;> omega
theorem len_le_tot3 (W : Nat → List Int) (k : Nat) (hk : k < 3) : (W k).length ≤ tot3 W := by
  have hc : k = 0 ∨ k = 1 ∨ k = 2 := by omega
  unfold tot3
  rcases hc with rfl | rfl | rfl <;> omega
theorem tmod3 (x : Int) : -2 ≤ x.tmod 3 ∧ x.tmod 3 ≤ 2 := by
  have h1 := Int.tmod_lt_of_pos x (show (0 : Int) < 3 by decide)
  rcases Int.lt_or_le x 0 with h | h
  · have h2 := Int.tmod_lt_of_pos (-x) (show (0 : Int) < 3 by decide)
    rw [Int.neg_tmod] at h2
    omega
  · have := Int.tmod_nonneg 3 h
    omega
theorem tmod33 (x : Int) : ∃ k : Nat, k < 3 ∧ (x.tmod 3 + 3).tmod 3 = k := by
  have h := tmod3 x
  have h0 : 0 ≤ x.tmod 3 + 3 := by omega
  have h1 := Int.tmod_lt_of_pos (x.tmod 3 + 3) (show (0 : Int) < 3 by decide)
  have h2 := Int.tmod_nonneg 3 h0
  exact ⟨((x.tmod 3 + 3).tmod 3).toNat, by omega, by omega⟩
end Go.Proofs.Ythimgldohhaimab
