/-
  Plain: rows of values in memory. Nothing of the program stands here.
-/
import Derived.Test.YtdjhoiamongdaaaOrd
import Derived.Lib.Hide
namespace Go.Proofs.Ytdjhoiamongdaaa
open Go.RowKit

/-- A value, by its three parts. -/
structure Va where
  k : Int
  n : Int
  s : ByteArray

def Va.val (v : Va) : Value := VV v.k v.n v.s
def Va.ok (v : Va) : Bool := okV v.k v.n v.s
def cmpA (a b : Va) : Int := cmpV a.k a.n a.s b.k b.n b.s

/-- A slice's address, at which a row's values lie, three cells each. -/
def RowAt (w : World) (A : Option Addr) (r : List Va) : Prop :=
  r = [] ∨ ∃ b off : Nat, A = some ⟨b, off, none⟩ ∧ b < w.heap.size ∧ ∀ (i : Nat) (v : Va), r[i]? = some v →
    w.cell? ⟨b, off + i * 3, none⟩ = some (.int .i64 v.k) ∧ w.cell? ⟨b, off + i * 3 + 1, none⟩ = some (.int .i64 v.n) ∧ w.cell? ⟨b, off + i * 3 + 2, none⟩ = some (.string v.s)

theorem RowAt.kept {w w' : World} {A : Option Addr} {r : List Va} (h : RowAt w A r) (hb : Below w.heap.size w w') : RowAt w' A r := by
  rcases h with h | ⟨b, off, hA, hlt, hc⟩
  · exact .inl h
  · refine .inr ⟨b, off, hA, Nat.lt_of_lt_of_le hlt hb.size, fun i v hv => ?_⟩
    obtain ⟨c0, c1, c2⟩ := hc i v hv
    exact ⟨(hb.cell (p := ⟨b, _, none⟩) hlt).trans c0, (hb.cell (p := ⟨b, _, none⟩) hlt).trans c1, (hb.cell (p := ⟨b, _, none⟩) hlt).trans c2⟩

theorem RowAt.at {w : World} {A : Option Addr} {r : List Va} (h : RowAt w A r) {i : Nat} (hi : i < r.length) :
    ∃ b off : Nat, A = some ⟨b, off, none⟩ ∧ b < w.heap.size ∧ w.cell? ⟨b, off + i * 3, none⟩ = some (.int .i64 r[i].k) ∧ w.cell? ⟨b, off + i * 3 + 1, none⟩ = some (.int .i64 r[i].n) ∧ w.cell? ⟨b, off + i * 3 + 2, none⟩ = some (.string r[i].s) := by
  rcases h with h | ⟨b, off, hA, hlt, hc⟩
  · subst h; simp at hi
  · obtain ⟨c0, c1, c2⟩ := hc i r[i] (List.getElem?_eq_getElem hi)
    exact ⟨b, off, hA, hlt, c0, c1, c2⟩

/-- No text of a row is too long for an int. -/
def Fine (r : List Va) : Prop := ∀ v ∈ r, v.s.size ≤ 9223372036854775807
theorem Fine.at {r : List Va} (h : Fine r) {i : Nat} (hi : i < r.length) : r[i].s.size ≤ 9223372036854775807 := h _ (List.getElem_mem hi)

theorem any_take_succ (p : Va → Bool) (r : List Va) (i : Nat) (hi : i < r.length) : (r.take (i + 1)).any p = ((r.take i).any p || p r[i]) := by
  rw [List.take_succ_eq_append_getElem hi, List.any_append]
  simp

/-- A slice's address, at which values of one cell each lie. -/
def CellsAt (w : World) (A : Option Addr) (xs : List Value) : Prop :=
  xs = [] ∨ ∃ b off : Nat, A = some ⟨b, off, none⟩ ∧ b < w.heap.size ∧ ∀ (i : Nat) (v : Value), xs[i]? = some v → w.cell? ⟨b, off + i, none⟩ = some v
theorem CellsAt.kept {w w' : World} {A : Option Addr} {xs : List Value} (h : CellsAt w A xs) (hb : Below w.heap.size w w') : CellsAt w' A xs := by
  rcases h with h | ⟨b, off, hA, hlt, hc⟩
  · exact .inl h
  · exact .inr ⟨b, off, hA, Nat.lt_of_lt_of_le hlt hb.size, fun i v hv => (hb.cell (p := ⟨b, _, none⟩) hlt).trans (hc i v hv)⟩
theorem CellsAt.at {w : World} {A : Option Addr} {xs : List Value} (h : CellsAt w A xs) {i : Nat} {v : Value} (hi : xs[i]? = some v) :
    ∃ b off : Nat, A = some ⟨b, off, none⟩ ∧ b < w.heap.size ∧ w.cell? ⟨b, off + i, none⟩ = some v := by
  rcases h with h | ⟨b, off, hA, hlt, hc⟩
  · subst h; simp at hi
  · exact ⟨b, off, hA, hlt, hc i v hi⟩
abbrev IntsAt (w : World) (A : Option Addr) (l : List Int) : Prop := CellsAt w A (l.map (Value.int .i64))
abbrev BoolsAt (w : World) (A : Option Addr) (l : List Bool) : Prop := CellsAt w A (l.map Value.bool)

/-- The order of rows. -/
def cmpR : List Va → List Va → Int
  | [], [] => 0
  | [], _ :: _ => -1
  | _ :: _, [] => 1
  | a :: r, b :: r' => if cmpA a b = 0 then cmpR r r' else cmpA a b
theorem cmpR_range : ∀ r r' : List Va, -1 ≤ cmpR r r' ∧ cmpR r r' ≤ 1
  | [], [] => by simp [cmpR]
  | [], _ :: _ => by simp [cmpR]
  | _ :: _, [] => by simp [cmpR]
  | a :: r, b :: r' => by
    rw [cmpR]
    split
    · exact cmpR_range r r'
    · exact cmpV_range ..
theorem cmpA_anti (a b : Va) : cmpA b a = - cmpA a b := cmpV_anti ..
theorem cmpR_anti : ∀ r r' : List Va, cmpR r' r = - cmpR r r'
  | [], [] => rfl
  | [], _ :: _ => rfl
  | _ :: _, [] => rfl
  | a :: r, b :: r' => by
    rw [cmpR, cmpR, cmpA_anti a b, cmpR_anti r r']
    by_cases h : cmpA a b = 0
    · rw [if_pos (by omega), if_pos h]
    · rw [if_neg (by omega), if_neg h]
theorem cmpR_step (r r' : List Va) (j : Nat) (h : j < r.length) (h' : j < r'.length) :
    cmpR (r.drop j) (r'.drop j) = if cmpA r[j] r'[j] = 0 then cmpR (r.drop (j + 1)) (r'.drop (j + 1)) else cmpA r[j] r'[j] := by
  rw [List.drop_eq_getElem_cons h, List.drop_eq_getElem_cons h', cmpR]
theorem cmpR_short (r r' : List Va) (j : Nat) (h : j < r.length) (h' : r'.length ≤ j) : cmpR (r.drop j) (r'.drop j) = 1 := by
  rw [List.drop_eq_getElem_cons h, List.drop_eq_nil_of_le h']; rfl
theorem cmpR_long (r r' : List Va) (j : Nat) (h : r.length ≤ j) (h' : j < r'.length) : cmpR (r.drop j) (r'.drop j) = -1 := by
  rw [List.drop_eq_nil_of_le h, List.drop_eq_getElem_cons h']; rfl
theorem cmpR_both (r r' : List Va) (j : Nat) (h : r.length ≤ j) (h' : r'.length ≤ j) : cmpR (r.drop j) (r'.drop j) = 0 := by
  rw [List.drop_eq_nil_of_le h, List.drop_eq_nil_of_le h']; rfl

/-- A row's value at a place, or null; the order by places. -/
def nullA : Va := ⟨0, 0, ⟨#[]⟩⟩
def atV (r : List Va) (c : Int) : Va := if 0 ≤ c then r.getD c.toNat nullA else nullA
def byV (a b : List Va) : List Int → List Bool → Int
  | [], _ => 0
  | c :: cs, ds => if cmpA (atV a c) (atV b c) = 0 then byV a b cs ds.tail else if ds.headD false then - cmpA (atV a c) (atV b c) else cmpA (atV a c) (atV b c)
theorem byV_step (a b : List Va) (cols : List Int) (down : List Bool) (j : Nat) (h : j < cols.length) :
    byV a b (cols.drop j) (down.drop j) = if cmpA (atV a cols[j]) (atV b cols[j]) = 0 then byV a b (cols.drop (j + 1)) (down.drop (j + 1))
      else if down.getD j false then - cmpA (atV a cols[j]) (atV b cols[j]) else cmpA (atV a cols[j]) (atV b cols[j]) := by
  rw [List.drop_eq_getElem_cons h, byV, List.tail_drop]
  have e : (down.drop j).headD false = down.getD j false := by
    rw [List.headD_eq_head?_getD, List.head?_drop, List.getD_eq_getElem?_getD]
  rw [e]
theorem byV_end (a b : List Va) (cols : List Int) (down : List Bool) (j : Nat) (h : cols.length ≤ j) : byV a b (cols.drop j) (down.drop j) = 0 := by
  rw [List.drop_eq_nil_of_le h]; rfl
end Go.Proofs.Ytdjhoiamongdaaa
