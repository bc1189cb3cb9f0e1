/-
  Ints that come in, opened.
-/
import Derived.Test.YtofhaokaldpmaaaGreatDoorZ14
import Derived.Lib.SmallJoins
section
namespace Go.Proofs.YtofhaokaldpmaaaGreatDoor
section
open Go.ChangeShapes Go.WideShapes Go.ChangeAt Go.RowKit Go.Joins Go.Deep
variable {H : Type} {enc : TypeId × Value → H}
set_option maxRecDepth 100000 in
theorem open_intsT {W : World} {base : Nat} {v : Value} {d : DataW H} {p : List MemPlace} (hval : Value.okWide Tryz.prog W .any base 42 v) (h : DataW.Trod enc Tryz.prog W 0 (fun _ => true) true 42 v d p) :
    ∃ A c l, v = .slice A l.length c ∧ InAt W A l := by
  obtain ⟨a, len, cap, rfl⟩ := okWide_slice Tryz.underlying42 hval
  obtain ⟨fuel, hf⟩ := h
  rcases open_ints Tryz.underlying42 Tryz.underlying3 cIntX hf with ⟨hcs, _⟩ | ⟨a', len', cap', zs, hcs, _, hl, hm, hz, _, hcell, _⟩
  · simp [Value.cells] at hcs
    obtain ⟨rfl, rfl, rfl⟩ := hcs
    exact ⟨none, 0, [], rfl, .inl rfl⟩
  · simp [Value.cells] at hcs
    obtain ⟨rfl, rfl, rfl⟩ := hcs
    simp only [if_true] at hz
    refine ⟨some a', cap, zs.take len, by simp; omega, ?_⟩
    cases hzs : zs.take len with
    | nil => exact .inl rfl
    | cons z r =>
      have hc : ∀ i u, (zs.take len)[i]? = some u → W.cell? (a'.add i) = some (.int .i64 u) := fun i u hu => by
        have hi := (List.getElem?_eq_some_iff.1 hu).1
        rw [List.length_take] at hi
        rw [List.getElem?_take_of_lt (by omega)] at hu
        rw [hcell i (by omega)]
        simp [List.getD, hu]
      have h0 := hc 0 z (by rw [hzs]; rfl)
      have ha := spotX h0
      have hlt := ltC_of_cell h0
      rw [← hzs]
      generalize a'.block = b at ha
      generalize a'.off = o at ha
      subst ha
      refine .inr ⟨b, o, rfl, ?_, fun i u hu => ?_⟩
      · rw [plainX] at hlt; exact hlt
      · have := hc i u hu
        rwa [plainX] at this
end
end Go.Proofs.YtofhaokaldpmaaaGreatDoor
end
