/-
  Plain: rows in memory of the call's own. Nothing of the program stands here.
-/
import Derived.Test.YtdjhoiamongdaaaRMem
import Derived.Laws.MakeOwn
namespace Go.Proofs.Ytdjhoiamongdaaa
open Go.RowKit

def Va.cells (v : Va) : List Value := [.int .i64 v.k, .int .i64 v.n, .string v.s]
def rowList (l : List Va) : List Value := l.flatMap Va.cells
def rowCells (l : List Va) : Array Value := (rowList l).toArray

theorem rowList_cons (v : Va) (l : List Va) : rowList (v :: l) = .int .i64 v.k :: .int .i64 v.n :: .string v.s :: rowList l := rfl
theorem rowList_length (l : List Va) : (rowList l).length = l.length * 3 := by
  induction l with
  | nil => rfl
  | cons v l ih => rw [rowList_cons]; simp [ih]; omega
theorem rowList_append (l l' : List Va) : rowList (l ++ l') = rowList l ++ rowList l' := by simp [rowList]
theorem rowList_at : ∀ (l : List Va) (i : Nat) (v : Va), l[i]? = some v →
    (rowList l)[i * 3]? = some (.int .i64 v.k) ∧ (rowList l)[i * 3 + 1]? = some (.int .i64 v.n) ∧ (rowList l)[i * 3 + 2]? = some (.string v.s)
  | [], i, v, h => by simp at h
  | u :: l, 0, v, h => by
    obtain rfl : u = v := by simpa using h
    rw [rowList_cons]; simp
  | u :: l, i + 1, v, h => by
    have := rowList_at l i v (by simpa using h)
    rw [rowList_cons, show (i + 1) * 3 = i * 3 + 3 by omega, show i * 3 + 3 + 1 = i * 3 + 1 + 3 by omega, show i * 3 + 3 + 2 = i * 3 + 2 + 3 by omega]
    simpa using this
theorem rowList_set : ∀ (l : List Va) (i : Nat) (v : Va), i < l.length →
    (((rowList l).set (i * 3) (.int .i64 v.k)).set (i * 3 + 1) (.int .i64 v.n)).set (i * 3 + 2) (.string v.s) = rowList (l.set i v)
  | [], i, v, h => by simp at h
  | u :: l, 0, v, _ => by show _ = rowList (v :: l); rw [rowList_cons, rowList_cons]; rfl
  | u :: l, i + 1, v, h => by
    have := rowList_set l i v (by simpa using h)
    rw [rowList_cons, List.set_cons_succ, rowList_cons, ← this, show (i + 1) * 3 = i * 3 + 3 by omega, show i * 3 + 3 + 1 = i * 3 + 1 + 3 by omega, show i * 3 + 3 + 2 = i * 3 + 2 + 3 by omega]
    simp
theorem oneCell_row (l : List Va) : ∀ u ∈ rowList l, u.oneCell' = true := by
  intro u hu
  obtain ⟨v, _, hv⟩ := List.mem_flatMap.1 hu
  simp [Va.cells] at hv
  rcases hv with rfl | rfl | rfl <;> rfl

/-- Block g is just this row. -/
def Own (w : World) (T : TypeId) (g : Nat) (l : List Va) : Prop := w.heap[g]? = some (.cells (rowCells l) T (0, 0))

section
variable {w w' : World} {T : TypeId} {g : Nat} {l : List Va}
theorem Own.lt (h : Own w T g l) : g < w.heap.size := by
  rcases Nat.lt_or_ge g w.heap.size with hl | hg
  · exact hl
  · unfold Own at h; rw [Array.getElem?_eq_none hg] at h; cases h
theorem Own.cellAt (h : Own w T g l) (o : Nat) : w.cell? ⟨g, o, none⟩ = (rowList l)[o]? := by
  unfold Own at h
  simp [World.cell?, h, rowCells]
theorem Own.at (h : Own w T g l) {i : Nat} {v : Va} (hv : l[i]? = some v) :
    w.cell? ⟨g, i * 3, none⟩ = some (.int .i64 v.k) ∧ w.cell? ⟨g, i * 3 + 1, none⟩ = some (.int .i64 v.n) ∧ w.cell? ⟨g, i * 3 + 2, none⟩ = some (.string v.s) := by
  obtain ⟨a, b, c⟩ := rowList_at l i v hv
  exact ⟨(h.cellAt _).trans a, (h.cellAt _).trans b, (h.cellAt _).trans c⟩
theorem Own.free (h : Own w T g l) (o : Nat) : w.frozen? ⟨g, o, none⟩ = false := by
  unfold Own at h
  simp [World.frozen?, h]
theorem Own.kept (h : Own w T g l) (hb : Below w.heap.size w w') : Own w' T g l := (hb.block g h.lt).trans h
theorem Own.new (w : World) (T : TypeId) (l : List Va) : Own (w.alloc (.cells (rowCells l) T)) T w.heap.size l := heap_alloc_new w _
theorem Own.drew (h : Own w T g l) : Own w.drew T g l := h
theorem Own.put (h : Own w T g l) {i : Nat} (hi : i < l.length) (v : Va) :
    Own (((w.setCell ⟨g, i * 3, none⟩ (.int .i64 v.k)).setCell ⟨g, i * 3 + 1, none⟩ (.int .i64 v.n)).setCell ⟨g, i * 3 + 2, none⟩ (.string v.s)) T g (l.set i v) := by
  unfold Own at h ⊢
  simp only [World.setCell, Array.getElem?_modify, if_true, h, Option.map_some]
  simp only [rowCells, List.setIfInBounds_toArray, Option.isSome_none, Bool.false_eq_true, if_false]
  rw [rowList_set l i v hi]
theorem Own.row (h : Own w T g l) : RowAt w (some ⟨g, 0, none⟩) l := by
  refine .inr ⟨g, 0, rfl, h.lt, fun i v hv => ?_⟩
  obtain ⟨a, b, c⟩ := h.at hv
  exact ⟨by rw [Nat.zero_add]; exact a, by rw [Nat.zero_add]; exact b, by rw [Nat.zero_add]; exact c⟩
end

/-- A row that is owned as append's laws say it is one that can be read. -/
theorem row_of_owns {w : World} {base : Nat} {e : TypeId} {A : Option Addr} {c : Nat} {l : List Va} (h : w.ownsRow base e 3 (.slice A l.length c) l.length (rowList l)) : RowAt w A l := by
  rcases h.2 with ⟨hv, hn⟩ | ⟨g, cap, cur, hv, hb, hg, _, _, _, ht⟩
  · exact .inl (List.eq_nil_of_length_eq_zero hn)
  · refine .inr ⟨g, 0, by injection hv, ?_, fun i v hi => ?_⟩
    · rcases Nat.lt_or_ge g w.heap.size with hl | hg'
      · exact hl
      · rw [Array.getElem?_eq_none hg'] at hg; cases hg
    · have hil : i < l.length := (List.getElem?_eq_some_iff.1 hi).1
      have key : ∀ o u, o < l.length * 3 → (rowList l)[o]? = some u → w.cell? ⟨g, 0 + o, none⟩ = some u := by
        intro o u ho hu
        rw [← ht, List.getElem?_take_of_lt ho, Array.getElem?_toList] at hu
        rw [Nat.zero_add]
        simp [World.cell?, hg, hu]
      obtain ⟨a, b, c⟩ := rowList_at l i v hi
      exact ⟨key _ _ (by omega) a, key _ _ (by omega) b, key _ _ (by omega) c⟩

/-- What make lays, of values that are null. -/
theorem made_nulls (n : Nat) : madeCells #[.int .i64 0, .int .i64 0, .string ⟨#[]⟩] (n * 3) = rowCells (List.replicate n nullA) := by
  apply Array.ext'
  apply List.ext_getElem?
  intro o
  by_cases ho : o < n * 3
  · have hq : (List.replicate n nullA)[o / 3]? = some nullA := by
      rw [List.getElem?_replicate]; simp; omega
    obtain ⟨a, b, c⟩ := rowList_at _ _ _ hq
    have e1 : (madeCells #[.int .i64 0, .int .i64 0, .string ⟨#[]⟩] (n * 3)).toList[o]? = some (#[Value.int .i64 0, .int .i64 0, .string ⟨#[]⟩][o % 3]!) := by
      simp [madeCells, ho]
    rw [e1]
    show _ = (rowList _)[o]?
    have hm : o % 3 = 0 ∨ o % 3 = 1 ∨ o % 3 = 2 := by omega
    rcases hm with hm | hm | hm
    · rw [hm, show o = o / 3 * 3 by omega, a]; rfl
    · rw [hm, show o = o / 3 * 3 + 1 by omega, b]; rfl
    · rw [hm, show o = o / 3 * 3 + 2 by omega, c]; rfl
  · rw [List.getElem?_eq_none (by simp [size_madeCells]; omega), List.getElem?_eq_none]
    show (rowList _).length ≤ o
    rw [rowList_length]; simp; omega

end Go.Proofs.Ytdjhoiamongdaaa
