/-
  Contract of the document's own Sort: the rows in order, by halves.
-/
import Derived.Test.YtdjhoiamongdaaaLst2
import Derived.Deep.LoopGhost
import Derived.IntWalk
import Derived.Deep.QuietTactic
import Derived.BigQuiet
namespace Go.Proofs.Ytdjhoiamongdaaa
open Go.RowKit Go.Shelf

def leR (a b : List Va) : Bool := decide (cmpR a b ≤ 0)
def InOrder (l : List (List Va)) : Prop := l.Pairwise (fun a b => leR a b = true)
theorem leR_trans (a b c : List Va) (h1 : leR a b = true) (h2 : leR b c = true) : leR a c = true := by
  simp [leR] at *; exact cmpR_trans h1 h2
theorem leR_total (a b : List Va) : (leR a b || leR b a) = true := by
  have := cmpR_anti a b
  simp [leR]; omega
theorem InOrder.merge {a b : List (List Va)} (ha : InOrder a) (hb : InOrder b) : InOrder (a.merge b leR) := List.pairwise_merge leR_trans leR_total a b ha hb
theorem InOrder.eq {a b : List (List Va)} (ha : InOrder a) (hb : InOrder b) (hp : a.Perm b) : a = b :=
  hp.eq_of_pairwise (fun x y _ _ h1 h2 => by
    have := cmpR_anti x y
    simp [leR] at h1 h2
    exact cmpR_eq (by omega)) ha hb

/-- The end of the document's own Sort. -/
def RefSortEnd (w : World) (rs : List (List Va)) (e : Ending) (w' : World) : Prop :=
  Below w.heap.size w w' ∧ ∃ A c rs', e = .returned (.slice A rs.length c) ∧ RowsAt w' A rs' ∧ rs'.Perm rs ∧ InOrder rs' ∧ (A = none → c = 0) ∧ rs.length ≤ c

theorem own_drewN {w : World} {B : Nat} {v : Value} {p : List (List Va)} (q : Nat) (h : ListOwn w B v p) : ListOwn (w.drewN q) B v p :=
  h.same (w' := w.drewN q) ⟨⟨rfl, rfl, rfl, Nat.le_refl _, fun _ _ => rfl⟩, fun _ _ _ h => h⟩ (fun _ _ => rfl)

def lenOf : Value → Nat
  | .slice _ n _ => n
  | _ => 0

theorem own_end {w : World} {B : Nat} {v : Value} {p : List (List Va)} (h : ListOwn w B v p) : ∃ A c, v = .slice A p.length c ∧ RowsAt w A p ∧ (A = none → c = 0) ∧ p.length ≤ c := by
  obtain ⟨A, c, rfl, hr, hA⟩ := h.inB
  refine ⟨A, c, rfl, hr.rows, hA, ?_⟩
  obtain ⟨xs, ho, _⟩ := h
  rcases ho.2 with ⟨hv, hn⟩ | ⟨g, cap, cur, hv, _, _, hnc, _⟩
  · omega
  · cases hv; exact hnc

end Go.Proofs.Ytdjhoiamongdaaa
