/-
  The contracts at the rows that the law's own 'lives' looks at.
-/
import Derived.Test.YtlobgdfmgbedgaaRSort
import Derived.Test.YtlobgdfmgbedgaaRApp
namespace Go.Proofs.Ytlobgdfmgbedgaa
open Go.RowKit Go.Shelf

def five : Va := ⟨2, 5, ⟨#[]⟩⟩
def four : Va := ⟨2, 4, ⟨#[]⟩⟩
def ra : List Va := [five, nullA]
def rb : List Va := [four]
def rab : List Int := [2, 2, 32, 0, 0, 0, 0, 0, 5, 0]

theorem ra_ok : okR ra = true := by decide +kernel
theorem ra_fine : Fine ra := by
  intro v hv
  simp [ra] at hv
  rcases hv with rfl | rfl <;> decide
theorem ra_sum : 1 + sumV ra = 10 := by decide +kernel
theorem ra_put : putR ra = rab := by decide +kernel
theorem rab_byte : ∀ x ∈ rab, 0 ≤ x ∧ x < 256 := by decide
theorem ra_got : getRow (rab ++ [9]) = some (ra, 10) := by kernel_rfl
theorem rab_str : strOfNums rab = ⟨#[2, 2, 32, 0, 0, 0, 0, 0, 5, 0]⟩ := by kernel_rfl
theorem ra_rb : cmpR ra rb = 1 := by decide +kernel

theorem live_put (A : Option Addr) (W : World) (h : RowAt W A ra) :
    Calls Try.prog 18 #[.slice A 2 2] W fun e w' => ∃ g, e = .returned (.tuple #[.slice (some ⟨g, 0, none⟩) 10 10, .int .i64 0]) ∧ BytesAt w' (some ⟨g, 0, none⟩) rab ∧ Below W.heap.size W w' := by
  refine (put_ok A 2 ra W h ra_fine ra_ok).mono ?_
  rintro e w' ⟨g, rfl, hb, hB⟩
  rw [ra_sum, ra_put] at hb
  refine ⟨g, by rw [ra_sum], hb.bytes rab_byte, hB⟩
theorem live_get (A : Option Addr) (c : Nat) (W : World) (h : BytesAt W A (rab ++ [9])) (hc : 11 ≤ c) :
    Calls Try.prog 22 #[.slice A 11 c] W fun e w' => ∃ A' c', e = .returned (.tuple #[.slice A' 2 c', .int .i64 10, .int .i64 0]) ∧ RowAt w' A' ra ∧ Below W.heap.size W w' := by
  refine (get_any A 11 c (rab ++ [9]) W h rfl hc (by omega)).mono ?_
  rintro e w' ⟨hB, hr⟩
  rw [ra_got] at hr
  obtain ⟨A', c', rfl, hr⟩ := hr
  exact ⟨A', c', rfl, hr, hB⟩
theorem live_pick (A C : Option Addr) (W : World) (h : RowAt W A ra) (hC : IntsAt W C [1, 0]) :
    Calls Try.prog 60 #[.slice A 2 2, .slice C 2 2] W fun e w' => ∃ A' c', e = .returned (.tuple #[.slice A' 2 c', .int .i64 0]) ∧ RowAt w' A' [nullA, five] ∧ Below W.heap.size W w' :=
  pick_ok A C 2 2 ra [1, 0] W h hC (by decide) (by decide +kernel)
theorem live_pick2 (A C : Option Addr) (W : World) (hC : IntsAt W C [2]) :
    Calls Try.prog 60 #[.slice A 2 2, .slice C 1 1] W fun e w' => e = .returned (.tuple #[.slice none 0 0, .int .i64 1]) ∧ Below W.heap.size W w' :=
  pick_no A C 2 1 ra [2] W hC (by decide) (.inr (by decide +kernel))
theorem live_join (ad : Addr) (W : World) (h : RowAt W (some ad) ra) :
    Calls Try.prog 61 #[.slice (some ad) 2 2, .slice (some ad) 2 2] W fun e w' => ∃ A' c', e = .returned (.tuple #[.slice A' 4 c', .int .i64 0]) ∧ RowAt w' A' (ra ++ ra) ∧ Below W.heap.size W w' :=
  join_ok (some ad) (some ad) 2 2 ra ra W h h (fun hh => by cases hh) (fun hh => by cases hh) (by decide)
theorem live_nulls (W : World) :
    Calls Try.prog 62 #[.int .i64 2] W fun e w' => ∃ A' c', e = .returned (.tuple #[.slice A' 2 c', .int .i64 0]) ∧ RowAt w' A' [nullA, nullA] ∧ Below W.heap.size W w' :=
  nulls_ok 2 W (by decide)
theorem two_sorted {rs : List (List Va)} (hp : rs.Perm [ra, rb]) (hs : rs.Pairwise (fun a b => cmpR a b ≤ 0)) : rs = [rb, ra] := by
  have hl := hp.length_eq
  match rs, hl with
  | [x, y], _ =>
    have hx : x ∈ [ra, rb] := hp.mem_iff.1 (by simp)
    simp at hx
    rcases hx with rfl | rfl
    · have := List.perm_singleton.1 (List.Perm.cons_inv hp)
      simp at this; subst this
      simp [ra_rb] at hs
    · have h2 : [y].Perm [ra] := List.Perm.cons_inv (hp.trans (List.Perm.swap _ _ _))
      have := List.perm_singleton.1 h2
      simp at this; subst this
      rfl
theorem live_sort (B : Option Addr) (W : World) (h : ListAt W B [ra, rb]) :
    Calls Try.prog 27 #[.slice B 2 2] W fun e w' => ∃ g A c, e = .returned (.slice (some ⟨g, 0, none⟩) 2 2) ∧ w'.cell? ⟨g, 0, none⟩ = some (.slice A 1 c) ∧ RowAt w' A rb ∧ Below W.heap.size W w' := by
  refine (sort_any B 2 [ra, rb] W h (by decide) (by decide)).mono ?_
  rintro e w' ⟨g, rs', rfl, hl, hp, hs, hB⟩
  obtain rfl := two_sorted hp hs
  rcases hl with hl | ⟨b, off, hA, _, hc⟩
  · cases hl
  · cases hA
    obtain ⟨A, c, hcell, hr, _⟩ := hc 0 rb rfl
    exact ⟨g, A, c, rfl, hcell, hr, hB⟩
theorem live_same (A A' : Option Addr) (c : Nat) (W : World) (h : RowAt W A ra) (h' : RowAt W A' ra) :
    Calls Try.prog 24 #[.slice A 2 c, .slice A' 2 2] W fun e w' => e = .returned (.bool true) ∧ Below W.heap.size W w' := by
  have := rowSame_any A A' c 2 ra ra W h h' (by decide) (by decide)
  rw [cmpR_self] at this
  exact this
theorem live_size (A : Option Addr) (W : World) (h : RowAt W A ra) :
    Calls Try.prog 21 #[.slice A 2 2] W fun e w' => e = .returned (.int .i64 10) ∧ Below W.heap.size W w' := by
  have := size_any A 2 ra W h ra_fine ra_ok
  rw [show ((1 : Int) + (sumV ra : Nat)) = 10 by have := ra_sum; omega] at this
  exact this
theorem live_by (A A' C D : Option Addr) (c : Nat) (W : World) (h : RowAt W A ra) (h' : RowAt W A' rb) (hC : IntsAt W C [0]) (hD : BoolsAt W D [true]) :
    Calls Try.prog 63 #[.slice A 2 2, .slice A' 1 c, .slice C 1 1, .slice D 1 1] W fun e w' => e = .returned (.int .i64 (-1)) ∧ Below W.heap.size W w' := by
  have := by_any A A' C D 2 c 1 1 ra rb [0] [true] W h h' hC hD (by decide)
  rw [show byV ra rb [0] [true] = -1 by decide +kernel] at this
  exact this
theorem live_check (A : Option Addr) (W : World) (h : RowAt W A (List.replicate 33 nullA)) :
    Calls Try.prog 20 #[.slice A 33 33] W fun e w' => e = .returned (.int .i64 20) ∧ Below W.heap.size W w' :=
  rowCheck_b false A 33 (List.replicate 33 nullA) W h (fun v hv => by rw [List.eq_of_mem_replicate hv]; decide) (by decide) (by decide +kernel)

end Go.Proofs.Ytlobgdfmgbedgaa
