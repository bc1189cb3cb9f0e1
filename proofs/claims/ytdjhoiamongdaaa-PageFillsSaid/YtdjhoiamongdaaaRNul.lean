/-
  Contracts of row.Nulls and row.Pick, and of the document's own Pick.
-/
import Derived.Test.YtdjhoiamongdaaaROwn
import Derived.Test.YtdjhoiamongdaaaRBy
import Derived.Deep.AppendLies
namespace Go.Proofs.Ytdjhoiamongdaaa
open Go.RowKit Go.Shelf

/-- A row that is told, in new memory, beside a number. -/
def RowEnd (w : World) (r : List Va) (k : Int) (e : Ending) (w' : World) : Prop :=
  ∃ (A : Option Addr) (c : Nat), e = .returned (.tuple #[.slice A r.length c, .int .i64 k]) ∧ RowAt w' A r ∧ Below w.heap.size w w'

theorem info_val : (Try.prog.info? 94).map (fun i => (i.zero, i.size, i.bytes)) = some (some (VV 0 0 ⟨#[]⟩), 3, 32) := by kernel_rfl

theorem make_row (n : Nat) (hn : n ≤ 65536) (w : World) : (Instr.makeSlice 30 (.int .i64 n) (.int .i64 n)).run Try.prog w =
    .ok (.slice (some ⟨w.heap.size, 0, none⟩) n n) (w.alloc (.cells (rowCells (List.replicate n nullA)) 94)) := by
  obtain ⟨i0, hi, hz0, hz1, hz2⟩ := info_parts info_val
  have h := run_make (P := Try.prog) w 30 94 i0 _ Try.underlying30 hi hz0 .i64 .i64 n n (by omega) (Int.le_refl _) (by rw [hz2]; omega) (by omega)
  rw [hz1] at h
  simp only [Int.toNat_natCast] at h
  have e : madeCells (VV 0 0 ⟨#[]⟩).cells (n * 3) = rowCells (List.replicate n nullA) := made_nulls n
  rw [e] at h
  exact h

/-- Is a place none of the row's? -/
def lackV (r : List Va) (c : Int) : Bool := !(hasV r c)

def PlaceEnd (b : Bool) (w : World) (e : Ending) (w' : World) : Prop := ∃ i : Int, -1 ≤ i ∧ decide (0 ≤ i) = b ∧ e = .returned (.int .i64 i) ∧ w = w'

theorem anyi_take_succ (p : Int → Bool) (l : List Int) (i : Nat) (hi : i < l.length) : (l.take (i + 1)).any p = ((l.take i).any p || p l[i]) := by
  rw [List.take_succ_eq_append_getElem hi, List.any_append]
  simp

/-- What has been picked so far, and nulls. -/
def pickTo (r : List Va) (cols : List Int) (j : Nat) : List Va := (cols.take j).map (atV r) ++ List.replicate (cols.length - j) nullA
theorem pickTo_len (r : List Va) (cols : List Int) (j : Nat) (h : j ≤ cols.length) : (pickTo r cols j).length = cols.length := by
  simp [pickTo]; omega
theorem pickTo_zero (r : List Va) (cols : List Int) : pickTo r cols 0 = List.replicate cols.length nullA := by simp [pickTo]
theorem pickTo_all (r : List Va) (cols : List Int) : pickTo r cols cols.length = cols.map (atV r) := by simp [pickTo]
theorem pickTo_next (r : List Va) (cols : List Int) (j : Nat) (h : j < cols.length) : (pickTo r cols j).set j (atV r cols[j]) = pickTo r cols (j + 1) := by
  unfold pickTo
  have hl : ((cols.take j).map (atV r)).length = j := by simp; omega
  rw [List.set_append_right _ _ (by omega), hl, Nat.sub_self, List.take_succ_eq_append_getElem h, List.map_append, List.append_assoc]
  congr 1
  obtain ⟨m, hm⟩ : ∃ m, cols.length - j = m + 1 := ⟨cols.length - j - 1, by omega⟩
  rw [hm, show cols.length - (j + 1) = m by omega]
  rfl
theorem pickTo_at (r : List Va) (cols : List Int) (j : Nat) (h : j < cols.length) : (pickTo r cols j)[j]? = some nullA := by
  unfold pickTo
  have hl : ((cols.take j).map (atV r)).length = j := by simp; omega
  rw [List.getElem?_append_right (by omega), hl, Nat.sub_self, List.getElem?_replicate]
  simp; omega

/-- A row that is told, in new memory, beside a bool. -/
def RowEndB (w : World) (r : List Va) (k : Bool) (e : Ending) (w' : World) : Prop :=
  ∃ (A : Option Addr) (c : Nat), e = .returned (.tuple #[.slice A r.length c, .bool k]) ∧ RowAt w' A r ∧ Below w.heap.size w w'
/-- A row refused: nothing is told, and false. -/
def NoneEndB (w : World) (e : Ending) (w' : World) : Prop := e = .returned (.tuple #[.slice none 0 0, .bool false]) ∧ Below w.heap.size w w'

theorem owns_form {w : World} {base : Nat} {e : TypeId} {v : Value} {l : List Va} (h : w.ownsRow base e 3 v l.length (rowList l)) : ∃ A c, v = .slice A l.length c ∧ RowAt w A l := by
  rcases h.2 with ⟨hv, hn⟩ | ⟨g, cap, cur, hv, _⟩
  · refine ⟨none, 0, ?_, .inl (List.eq_nil_of_length_eq_zero hn)⟩
    rw [hn]; exact hv
  · subst hv
    exact ⟨_, _, rfl, row_of_owns h⟩

end Go.Proofs.Ytdjhoiamongdaaa
