/-
  Package disk: a list of numbers that comes in, opened.
-/
import Derived.Test.YthimgldohhaimabDka
import Derived.Deep.Grids
import Derived.Deep.SlicePairs
import Derived.ChangeSlices
import Derived.Lib.SmallJoins
namespace Go.Proofs.Ythimgldohhaimab
open Go.ChangeShapes Go.WideShapes Go.ChangeAt Go.RowKit Go.Joins Go.Deep
section
variable {H : Type} {enc : TypeId × Value → H}
theorem cIntD : Try.prog.cellsOf 3 = 1 := by kernel_rfl
theorem spotD {W : World} {a : Addr} {v : Value} (h : W.cell? (a.add 0) = some v) : a = ⟨a.block, a.off, none⟩ := by
  obtain ⟨b, o, s⟩ := a
  have : s = none := by simpa [Addr.add] using World.cell?_spot h
  subst this; rfl
theorem plainD (b o i : Nat) : (⟨b, o, none⟩ : Addr).add i = ⟨b, o + i, none⟩ := by unfold Addr.add; split <;> simp_all
theorem numsAt_of {W : World} {a : Addr} {l : List Int} (h : ∀ i v, l[i]? = some v → W.cell? (a.add i) = some (.int .i64 v)) : NumsAt W (some a) l := by
  cases l with
  | nil => exact .inl rfl
  | cons u l =>
    have h0 := h 0 u rfl
    have ha := spotD h0
    generalize a.block = b at ha
    generalize a.off = o at ha
    subst ha
    refine .inr ⟨b, o, rfl, ?_, fun i v hv => ?_⟩
    · have := World.block_lt_of_cell? W _ h0
      rw [plainD] at this
      exact this
    · have := h i v hv
      rwa [plainD] at this
set_option maxRecDepth 100000 in
theorem open_nums {W : World} {base : Nat} {v : Value} {d : DataW H} {p : List MemPlace} (hval : Value.okWide Try.prog W .any base 22 v) (h : DataW.Trod enc Try.prog W 0 (fun _ => true) true 22 v d p) :
    ∃ A c l, v = .slice A l.length c ∧ NumsAt W A l ∧ (∀ n ∈ l, (Lit.int .i64 n).wf = true) ∧ l.length ≤ c ∧ c ≤ maxLen := by
  obtain ⟨a, len, cap, rfl⟩ := okWide_slice Try.underlying22 hval
  obtain ⟨fuel, hf⟩ := h
  rcases open_ints Try.underlying22 Try.underlying3 cIntD hf with ⟨hcs, _⟩ | ⟨a', len', cap', zs, hcs, _, hl, hm, hz, _, hcell, hwf⟩
  · simp [Value.cells] at hcs
    obtain ⟨rfl, rfl, rfl⟩ := hcs
    exact ⟨none, 0, [], rfl, .inl rfl, (fun n hn => by cases hn), Nat.le_refl _, Nat.zero_le _⟩
  · simp [Value.cells] at hcs
    obtain ⟨rfl, rfl, rfl⟩ := hcs
    simp only [if_true] at hz
    refine ⟨some a', cap, zs.take len, by simp; omega, numsAt_of (fun i u hu => ?_), fun y hy => hwf y (List.mem_of_mem_take hy), by simp; omega, hm⟩
    have hil := (List.getElem?_eq_some_iff.1 hu).1
    rw [List.length_take] at hil
    rw [List.getElem?_take_of_lt (by omega)] at hu
    rw [hcell i (by omega)]
    simp [List.getD, hu]
end
end Go.Proofs.Ythimgldohhaimab
