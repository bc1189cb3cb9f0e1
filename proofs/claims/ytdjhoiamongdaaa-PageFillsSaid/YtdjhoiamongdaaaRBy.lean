/-
  Contracts of row.By and what it calls, and of the document's own By.
-/
import Derived.Test.YtdjhoiamongdaaaRCmp
namespace Go.Proofs.Ytdjhoiamongdaaa
open Go.RowKit Go.Shelf

theorem atV_in (r : List Va) (i : Nat) (h : i < r.length) : atV r (i : Int) = r[i] := by
  unfold atV
  rw [if_pos (Int.natCast_nonneg _), Int.toNat_natCast, List.getD_eq_getElem?_getD, List.getElem?_eq_getElem h]; rfl
theorem atV_neg (r : List Va) (c : Int) (h : c < 0) : atV r c = nullA := by unfold atV; rw [if_neg (by omega)]
theorem atV_out (r : List Va) (c : Int) (h : (r.length : Int) ≤ c) : atV r c = nullA := by
  unfold atV
  rw [if_pos (by omega), List.getD_eq_getElem?_getD, List.getElem?_eq_none (by omega)]; rfl

def hasV (r : List Va) (c : Int) : Bool := decide (0 ≤ c) && decide (c < r.length)

theorem map_at (l : List Int) (j : Nat) (h : j < l.length) : (l.map (Value.int .i64))[j]? = some (.int .i64 l[j]) := by
  rw [List.getElem?_map, List.getElem?_eq_getElem h]; rfl
theorem mapb_at (l : List Bool) (j : Nat) (h : j < l.length) : (l.map Value.bool)[j]? = some (.bool l[j]) := by
  rw [List.getElem?_map, List.getElem?_eq_getElem h]; rfl

end Go.Proofs.Ytdjhoiamongdaaa
