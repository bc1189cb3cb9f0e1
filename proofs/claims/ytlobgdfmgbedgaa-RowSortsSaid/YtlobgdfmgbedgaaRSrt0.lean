/-
  Plain: rows in order; lists of rows in memory; the world behind a sort.
-/
import Derived.Test.YtlobgdfmgbedgaaRCmpG
import Derived.Test.YtlobgdfmgbedgaaROwn
import Derived.Test.YtlobgdfmgbedgaaROrd
import Derived.Shelf.SlSortCmp.Whole1
namespace Go.Proofs.Ytlobgdfmgbedgaa
open Go.RowKit Go.Shelf Go.Sort

/-- The rows by their places, and how they stand. -/
def encL (vs : List Value) (i : Nat) : Value := vs.getD i (.slice none 0 0)
def cfL (rs : List (List Va)) (i j : Nat) : Int := cmpR (rs.getD i []) (rs.getD j [])
theorem swoL (rs : List (List Va)) : SWO (ltOf (cfL rs)) where
  irrefl x := by simp [ltOf, cfL, cmpR_self]
  trans x y z h1 h2 := by
    have h1 : cmpR (rs.getD x []) (rs.getD y []) < 0 := of_decide_eq_true h1
    have h2 : cmpR (rs.getD y []) (rs.getD z []) < 0 := of_decide_eq_true h2
    refine decide_eq_true ?_
    show cmpR (rs.getD x []) (rs.getD z []) < 0
    have h3 := cmpR_trans (Int.le_of_lt h1) (Int.le_of_lt h2)
    rcases Int.lt_or_eq_of_le h3 with h | h
    · exact h
    · have e := cmpR_eq h
      rw [← e] at h2
      have := cmpR_anti (rs.getD x []) (rs.getD y [])
      omega
  ntrans x y z h1 h2 := by
    have h1 : ¬ cmpR (rs.getD x []) (rs.getD y []) < 0 := of_decide_eq_false h1
    have h2 : ¬ cmpR (rs.getD y []) (rs.getD z []) < 0 := of_decide_eq_false h2
    refine decide_eq_false ?_
    show ¬ cmpR (rs.getD x []) (rs.getD z []) < 0
    have a1 := cmpR_anti (rs.getD x []) (rs.getD y [])
    have a2 := cmpR_anti (rs.getD y []) (rs.getD z [])
    have a3 := cmpR_anti (rs.getD x []) (rs.getD z [])
    have := @cmpR_trans (rs.getD z []) (rs.getD y []) (rs.getD x []) (by omega) (by omega)
    omega

/-- Rows that lie in blocks behind g. -/
def RowFrom (w : World) (g : Nat) (A : Option Addr) (r : List Va) : Prop :=
  r = [] ∨ ∃ b off : Nat, A = some ⟨b, off, none⟩ ∧ g < b ∧ b < w.heap.size ∧ ∀ (i : Nat) (v : Va), r[i]? = some v →
    w.cell? ⟨b, off + i * 3, none⟩ = some (.int .i64 v.k) ∧ w.cell? ⟨b, off + i * 3 + 1, none⟩ = some (.int .i64 v.n) ∧ w.cell? ⟨b, off + i * 3 + 2, none⟩ = some (.string v.s)
theorem RowFrom.row {w : World} {g : Nat} {A : Option Addr} {r : List Va} (h : RowFrom w g A r) : RowAt w A r := by
  rcases h with h | ⟨b, off, hA, _, hlt, hc⟩
  · exact .inl h
  · exact .inr ⟨b, off, hA, hlt, hc⟩
/-- All cells but block g's stand. -/
def Others (g : Nat) (w w' : World) : Prop := w.heap.size ≤ w'.heap.size ∧ ∀ k, k < w.heap.size → k ≠ g → w'.heap[k]? = w.heap[k]?
theorem Others.cell {g : Nat} {w w' : World} (h : Others g w w') {p : Addr} (hp : p.block < w.heap.size) (hg : p.block ≠ g) : w'.cell? p = w.cell? p := World.cell?_of_block (h.2 _ hp hg)
theorem RowFrom.others {w w' : World} {g : Nat} {A : Option Addr} {r : List Va} (h : RowFrom w g A r) (ho : Others g w w') : RowFrom w' g A r := by
  rcases h with h | ⟨b, off, hA, hg, hlt, hc⟩
  · exact .inl h
  · have key : ∀ o, w'.cell? ⟨b, o, none⟩ = w.cell? ⟨b, o, none⟩ := fun o => ho.cell hlt (by simp; omega)
    refine .inr ⟨b, off, hA, hg, Nat.lt_of_lt_of_le hlt ho.1, fun i v hv => ?_⟩
    rw [key, key, key]
    exact hc i v hv
theorem Others.trans {g : Nat} {a b c : World} (h : Others g a b) (k : Others g b c) : Others g a c :=
  ⟨Nat.le_trans h.1 k.1, fun i hi hne => (k.2 i (Nat.lt_of_lt_of_le hi h.1) hne).trans (h.2 i hi hne)⟩
theorem others_below {g : Nat} {w w' : World} (h : Below w.heap.size w w') : Others g w w' := ⟨h.size, fun k hk _ => h.block k hk⟩
theorem others_set {g o : Nat} (w : World) (v : Value) : Others g w (w.setCell ⟨g, o, none⟩ v) := by
  refine ⟨by simp [World.setCell], fun k _ hne => ?_⟩
  simp [World.setCell, Array.getElem?_modify, Ne.symm hne]
theorem others_sort {α : Type} [Inhabited α] (enc : α → Value) (w : World) (g off m : Nat) (d : Array α) (os : Array Obj) : Others g w (sortWorld enc w g off m d os) := by
  refine ⟨?_, fun k hk hne => ?_⟩
  · unfold sortWorld; simp [grow, putRow, mapBlock]
  · unfold sortWorld
    simp only [grow, putRow, mapBlock]
    rw [Array.getElem?_append_left (by simpa using hk), Array.getElem?_modify, if_neg (Ne.symm hne)]
    rfl
theorem below_sort {α : Type} [Inhabited α] (enc : α → Value) {w w1 : World} (g off m : Nat) (d : Array α) (os : Array Obj) (h : Below w.heap.size w w1) (hg : w.heap.size ≤ g) : Below w.heap.size w (sortWorld enc w1 g off m d os) := by
  have ho := others_sort enc w1 g off m d os
  exact ⟨h.os, h.tape, h.output, Nat.le_trans h.size ho.1, fun k hk => (ho.2 k (Nat.lt_of_lt_of_le hk h.size) (by omega)).trans (h.block k hk)⟩

/-- The values of a list of rows. -/
def Vals (w : World) (g : Nat) (vs : List Value) (rs : List (List Va)) : Prop :=
  vs.length = rs.length ∧ ∀ (i : Nat) (r : List Va), rs[i]? = some r → ∃ A c, vs[i]? = some (.slice A r.length c) ∧ RowFrom w g A r ∧ (A = none → c = 0)
theorem Vals.others {w w' : World} {g : Nat} {vs : List Value} {rs : List (List Va)} (h : Vals w g vs rs) (ho : Others g w w') : Vals w' g vs rs :=
  ⟨h.1, fun i r hr => by obtain ⟨A, c, hv, hf, hA⟩ := h.2 i r hr; exact ⟨A, c, hv, hf.others ho, hA⟩⟩
theorem Vals.enc {w : World} {g : Nat} {vs : List Value} {rs : List (List Va)} (h : Vals w g vs rs) (i : Nat) : ∃ A c, encL vs i = .slice A (rs.getD i []).length c ∧ RowFrom w g A (rs.getD i []) ∧ (A = none → c = 0) := by
  rcases Nat.lt_or_ge i rs.length with hi | hi
  · obtain ⟨A, c, hv, hf, hA⟩ := h.2 i rs[i] (List.getElem?_eq_getElem hi)
    refine ⟨A, c, ?_, ?_, hA⟩
    · simp [encL, List.getD, hv, List.getElem?_eq_getElem hi]
    · simpa [List.getD, List.getElem?_eq_getElem hi] using hf
  · refine ⟨none, 0, ?_, .inl ?_, fun _ => rfl⟩
    · simp [encL, List.getD, List.getElem?_eq_none hi, List.getElem?_eq_none (h.1 ▸ hi)]
    · simp [List.getD, List.getElem?_eq_none hi]
theorem encL_one {w : World} {g : Nat} {vs : List Value} {rs : List (List Va)} (h : Vals w g vs rs) : OneCell (encL vs) := fun i => by
  obtain ⟨A, c, hv, _, _⟩ := h.enc i
  rw [hv]; rfl

/-- What row.Compare asks of a sort. -/
theorem cmpLays (vs : List Value) (rs : List (List Va)) (g : Nat) (w : World) (h : Vals w g vs rs) (hl : ∀ r ∈ rs, r.length ≤ 65536) :
    CmpLays1 Try.prog 71 #[] (encL vs) (cfL rs) g 0 vs.length w := by
  intro m os dk hs x y
  have hl' : ∀ i, (rs.getD i []).length ≤ 9223372036854775807 := fun i => by
    rcases Nat.lt_or_ge i rs.length with hi | hi
    · have := hl rs[i] (List.getElem_mem hi)
      simp [List.getD, List.getElem?_eq_getElem hi]; omega
    · simp [List.getD, List.getElem?_eq_none hi]
  have hO := others_sort (encL vs) w g 0 m dk os
  obtain ⟨A, c, e1, f1, _⟩ := h.enc x
  obtain ⟨A', c', e2, f2, _⟩ := h.enc y
  rw [e1, e2]
  refine (rowCompare_g A A' c c' (rs.getD x []) (rs.getD y []) _ (f1.others hO).row (f2.others hO).row (hl' x) (hl' y)).mono ?_
  rintro e w' ⟨rfl, hg⟩
  obtain ⟨os', hos⟩ := hg.grow
  exact ⟨rfl, 0, os', hos⟩

end Go.Proofs.Ytlobgdfmgbedgaa
