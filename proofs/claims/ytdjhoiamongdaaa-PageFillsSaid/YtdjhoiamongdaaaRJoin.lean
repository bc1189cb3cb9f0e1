/-
  Contracts of the library's Grow and Concat over values, and of row.Join.
-/
import Derived.Test.YtdjhoiamongdaaaRNul
import Derived.Laws.AppendOwnNone
namespace Go.Proofs.Ytdjhoiamongdaaa
open Go.RowKit Go.Shelf

/-- A row that is told, in new memory. -/
def RowBack (w : World) (r : List Va) (e : Ending) (w' : World) : Prop :=
  ∃ (A : Option Addr) (c : Nat), e = .returned (.slice A r.length c) ∧ RowAt w' A r ∧ Below w.heap.size w w'

/-- What lies at a slice's address, as append's laws ask it. -/
theorem news_of_row {w : World} {ad : Addr} {r : List Va} (h : RowAt w (some ad) r) : ∀ j u, (rowList r)[j]? = some u → w.cell? (ad.add j) = some u := by
  intro j u hu
  rcases h with h | ⟨b, off, hA, _, hc⟩
  · subst h; simp [rowList] at hu
  · have hA' : ad = ⟨b, off, none⟩ := by injection hA
    subst hA'
    have hj : j < r.length * 3 := by rw [← rowList_length]; exact (List.getElem?_eq_some_iff.1 hu).1
    have hi : j / 3 < r.length := by omega
    have hq := List.getElem?_eq_getElem hi
    obtain ⟨c0, c1, c2⟩ := hc _ _ hq
    obtain ⟨a0, a1, a2⟩ := rowList_at r _ _ hq
    have hadd : (⟨b, off, none⟩ : Addr).add j = ⟨b, off + j, none⟩ := by
      unfold Addr.add
      split
      · rename_i h0; subst h0; rfl
      · rfl
    rw [hadd]
    have hm : j % 3 = 0 ∨ j % 3 = 1 ∨ j % 3 = 2 := by omega
    rcases hm with hm | hm | hm
    · rw [show j = j / 3 * 3 by omega] at hu ⊢; rw [a0] at hu; rw [c0]; exact hu
    · rw [show j = j / 3 * 3 + 1 by omega] at hu ⊢; rw [a1] at hu; rw [← Nat.add_assoc, c1]; exact hu
    · rw [show j = j / 3 * 3 + 2 by omega] at hu ⊢; rw [a2] at hu; rw [← Nat.add_assoc, c2]; exact hu

def sumTo (n n' j : Nat) : Nat := if j = 0 then 0 else if j = 1 then n else n + n'
def catTo (r r' : List Va) (j : Nat) : List Va := if j = 0 then [] else if j = 1 then r else r ++ r'

end Go.Proofs.Ytdjhoiamongdaaa
