/-
  Package ledger: Accounts' closure: a list of numbers in a box, and one number more.
-/
import Derived.Test.YthfopabefknlkabLdd
import Derived.OwnWalk
import Derived.Laws.AppendOwn
namespace Go.Proofs.Ythfopabefknlkab
open Go.RowKit Go.Maps

/-- A box that holds a list of numbers of the call's own, laid at or above base. -/
def BoxL (w : World) (c base : Nat) (xs : List Int) : Prop :=
  c < base ∧ base ≤ w.heap.size ∧ ∃ v, w.heap[c]? = some (.cells #[v] 34 (0, 0)) ∧ w.ownsRow base 3 1 v xs.length (xs.map (Value.int .i64))
/-- All below base but one block is as it was. -/
structure Apart (c base : Nat) (w w' : World) : Prop where
  os : w'.os = w.os
  tape : w'.tape = w.tape
  output : w'.output = w.output
  size : w.heap.size ≤ w'.heap.size
  block : ∀ k, k < w.heap.size → k < base → k ≠ c → w'.heap[k]? = w.heap[k]?
theorem Apart.trans {c base : Nat} {w w1 w2 : World} (h : Apart c base w w1) (k : Apart c base w1 w2) : Apart c base w w2 :=
  ⟨k.os.trans h.os, k.tape.trans h.tape, k.output.trans h.output, Nat.le_trans h.size k.size, fun i hi h1 h2 => (k.block i (Nat.lt_of_lt_of_le hi h.size) h1 h2).trans (h.block i hi h1 h2)⟩
theorem info_intL : (Try.prog.info? 3).map (fun i => (i.zero, i.size, i.bytes)) = some (some (.int .i64 0), 1, 8) := by kernel_rfl
theorem BoxL.alloc {w : World} {c base : Nat} {xs : List Int} (h : BoxL w c base xs) (o : Obj) : BoxL (w.alloc o) c base xs := by
  obtain ⟨h1, h2, v, hb, ho⟩ := h
  exact ⟨h1, Nat.le_trans h2 (ba w o).size, v, ((ba w o).block c (by omega)).trans hb, ho.alloc o⟩
set_option maxRecDepth 100000 in
set_option maxHeartbeats 1000000 in
theorem accounts1_any (a : Ac) (xs : List Int) (c base : Nat) (w : World) (h : BoxL w c base xs) (hl : xs.length ≤ 100000) :
    Calls Try.prog 39 #[.int .i64 a.n, .agg #[.int .i64 a.u, .int .i64 a.g, .int .i64 a.h, .int .i64 a.p], .pointer (some ⟨c, 0, none⟩)] w fun e w' => e = .returned (.tuple #[]) ∧ BoxL w' c base (xs ++ [a.n]) ∧ Apart c base w w' := by
  obtain ⟨i0, hi, hz0, hz1, hz2⟩ := info_parts info_intL
  have HX := Lib.hid (h.alloc (.cells #[.int .i64 a.u, .int .i64 a.g, .int .i64 a.h, .int .i64 a.p] 65))
  have HA := Lib.hid (ba w (.cells #[.int .i64 a.u, .int .i64 a.g, .int .i64 a.h, .int .i64 a.p] 65))
  clear h
  go_enter Try.func39, Try.ntmps39
  go_upto_region 1 with fail
  generalize w.alloc (.cells #[.int .i64 a.u, .int .i64 a.g, .int .i64 a.h, .int .i64 a.p] 65) = W at HX HA ⊢
  obtain ⟨hcb, hbs, v, hb, hown⟩ := HX.out
  have HO := Lib.hid hown
  have HB := Lib.hid hb
  have HL := Lib.hid (And.intro hcb hbs)
  have hx0 : W.cell? ⟨c, 0, none⟩ = some v := by simp [World.cell?, hb]
  have hcs : c < W.heap.size := by omega
  clear hown hb hcb hbs HX
  go_wp2_with (at_builtin; refine wpList_append_own _ rfl _ _ 34 rfl base 3 i0 (.int .i64 0) 1 8 Try.underlying34 hi hz0 hz1 hz2 rfl (by decide) _ _ _ rfl (HO.out.alloc _) ⟨W.heap.size, 0, none⟩ 1 1 [.int .i64 a.n] rfl rfl ?c1 ?c2 ?c3 ?c4 ?c5 ?_)
  case c1 =>
    intro j u hj
    match j, hj with
    | 0, hj => simp at hj; subst hj; simp [Addr.add]
  case c2 => intro u hu; simp at hu; subst hu; rfl
  case c3 => unfold maxLen; omega
  case c4 => omega
  case c5 => have := HL.out.2; simp; omega
  · intro v' w1 hown' hg _
    obtain ⟨g, cap, hv, hgb⟩ : ∃ g cap, v' = .slice (some ⟨g, 0, none⟩) (xs.length + 1) cap ∧ base ≤ g := by
      rcases hown'.2 with ⟨_, h0⟩ | ⟨g, cap, cur, hv, hb, _⟩
      · omega
      · exact ⟨g, cap, hv, hb⟩
    subst hv
    have hne : v.ownBlock ≠ some c := fun e => by have := (HO.out.lt c e).1; have := HL.out.1; omega
    have hbc : w1.heap[c]? = some (.cells #[v] 34 (0, 0)) := (hg.block c (by simp; omega) (fun e => hne e.symm)).trans (((ba W _).block c hcs).trans HB.out)
    have hf1 : w1.frozen? ⟨c, 0, none⟩ = false := by simp [World.frozen?, hbc]
    have hc1 : w1.cell? ⟨c, 0, none⟩ = some v := by simp [World.cell?, hbc]
    have HO2 := Lib.hid hown'
    have HG := Lib.hid hg
    have HB2 := Lib.hid hbc
    clear hown' hg hbc hne
    go_wp2_with fail
    go_end0
    have hg := HG.out
    have hs := hg.size
    simp at hs
    refine ⟨rfl, ⟨HL.out.1, by have := HL.out.2; simp [World.setCell]; omega, .slice (some ⟨g, 0, none⟩) (xs.length + 1) cap, ?_, ?_⟩, ?_⟩
    · have hbc := HB2.out
      simp only [World.setCell, Array.getElem?_modify, hbc]
      rfl
    · rw [List.length_append, List.map_append]
      exact ownsRow_setCell_below HO2.out HL.out.1 _
    · have hA := HA.out
      refine ⟨hg.os.trans hA.os, hg.tape.trans hA.tape, hg.output.trans hA.output, by have := hA.size; simp [World.setCell]; omega, fun k hk hkb hkc => ?_⟩
      have hs2 := hA.size
      have e1 : some k ≠ v.ownBlock := fun e => by have := (HO.out.lt k e.symm).1; omega
      rw [show (w1.setCell ⟨c, 0, none⟩ (.slice (some ⟨g, 0, none⟩) (xs.length + 1) cap)).heap[k]? = w1.heap[k]? by simp [World.setCell, Array.getElem?_modify, Ne.symm hkc]]
      exact (hg.block k (by simp; omega) e1).trans (((ba W _).block k (by omega)).trans (hA.block k hk))
end Go.Proofs.Ythfopabefknlkab
