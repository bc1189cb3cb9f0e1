/-
  Package ledger: under, in any order.
-/
import Derived.Test.YthfopabefknlkabLd3
import Derived.Deep.CutRange
namespace Go.Proofs.Ythfopabefknlkab
open Go.RowKit Go.Maps

def BoxI (w : World) (b : Nat) (n : Int) : Prop := w.heap[b]? = some (.cells #[.int .i64 n] 3 (0, 0))
theorem BoxI.cell {w : World} {b : Nat} {n : Int} (h : BoxI w b n) : w.cell? ⟨b, 0, none⟩ = some (.int .i64 n) := by unfold BoxI at h; simp [World.cell?, h]
theorem BoxI.free {w : World} {b : Nat} {n : Int} (h : BoxI w b n) : w.frozen? ⟨b, 0, none⟩ = false := by unfold BoxI at h; simp [World.frozen?, h]
theorem BoxI.set {w : World} {b : Nat} {n : Int} (h : BoxI w b n) (k : Int) : BoxI (w.setCell ⟨b, 0, none⟩ (.int .i64 k)) b k := by
  unfold BoxI at h ⊢; simp [World.setCell, Array.getElem?_modify, h]
/-- All but two blocks is as it was. -/
structure Aloof (b c : Nat) (w w' : World) : Prop where
  os : w'.os = w.os
  tape : w'.tape = w.tape
  output : w'.output = w.output
  size : w.heap.size ≤ w'.heap.size
  block : ∀ k, k < w.heap.size → k ≠ b → k ≠ c → w'.heap[k]? = w.heap[k]?
theorem Aloof.refl (b c : Nat) (w : World) : Aloof b c w w := ⟨rfl, rfl, rfl, Nat.le_refl _, fun _ _ _ _ => rfl⟩
theorem Aloof.trans {b c : Nat} {w w1 w2 : World} (h : Aloof b c w w1) (k : Aloof b c w1 w2) : Aloof b c w w2 :=
  ⟨k.os.trans h.os, k.tape.trans h.tape, k.output.trans h.output, Nat.le_trans h.size k.size, fun i hi h1 h2 => (k.block i (Nat.lt_of_lt_of_le hi h.size) h1 h2).trans (h.block i hi h1 h2)⟩
theorem Aloof.below {b c B : Nat} {w w' : World} (h : Aloof b c w w') (hb : B ≤ b) (hc : B ≤ c) (hB : B ≤ w.heap.size) : Below B w w' :=
  ⟨h.os, h.tape, h.output, h.size, fun k hk => h.block k (by omega) (by omega) (by omega)⟩
theorem Aloof.of_below {b c : Nat} {w w' : World} (h : Below w.heap.size w w') : Aloof b c w w' := ⟨h.os, h.tape, h.output, h.size, fun k hk _ _ => h.block k hk⟩
theorem Aloof.set1 {b c : Nat} (w : World) (v : Value) : Aloof b c w (w.setCell ⟨b, 0, none⟩ v) :=
  ⟨rfl, rfl, rfl, by simp [World.setCell], fun k _ h1 _ => by simp [World.setCell, Array.getElem?_modify, Ne.symm h1]⟩
theorem Aloof.set2 {b c : Nat} (w : World) (v : Value) : Aloof b c w (w.setCell ⟨c, 0, none⟩ v) :=
  ⟨rfl, rfl, rfl, by simp [World.setCell], fun k _ _ h1 => by simp [World.setCell, Array.getElem?_modify, Ne.symm h1]⟩
theorem BoxI.kept {w w' : World} {b : Nat} {n : Int} (h : BoxI w b n) (hb : w'.heap[b]? = w.heap[b]?) : BoxI w' b n := hb.trans h
theorem BoxI.other {w : World} {b c : Nat} {n : Int} (h : BoxI w b n) (hne : b ≠ c) (v : Value) : BoxI (w.setCell ⟨c, 0, none⟩ v) b n := h.kept (by simp [World.setCell, Array.getElem?_modify, Ne.symm hne])

def cntU (n : Int) (a : Ac) : Int := if a.u = n then 1 else 0
def sumU (n : Int) (a : Ac) : Int := if a.u = n then a.g else 0
set_option maxRecDepth 100000 in
set_option maxHeartbeats 1000000 in
theorem under1_any (a : Ac) (n c t : Int) (bn bc bg : Nat) (w : World) (hn : BoxI w bn n) (hc : BoxI w bc c) (hg : BoxI w bg t) (h1 : bn ≠ bc) (h2 : bn ≠ bg) (h3 : bc ≠ bg) (c0 : 0 ≤ c) (c1 : c ≤ 1000000) (t0 : 0 ≤ t) (t1 : t ≤ 1000000000000) (g0 : 0 ≤ a.g) (g1 : a.g ≤ 1000000) :
    Calls Try.prog 49 #[.int .i64 a.n, .agg #[.int .i64 a.u, .int .i64 a.g, .int .i64 a.h, .int .i64 a.p], .pointer (some ⟨bn, 0, none⟩), .pointer (some ⟨bc, 0, none⟩), .pointer (some ⟨bg, 0, none⟩)] w fun e w' => e = .returned (.tuple #[]) ∧ BoxI w' bc (c + cntU n a) ∧ BoxI w' bg (t + sumU n a) ∧ BoxI w' bn n ∧ Aloof bc bg w w' := by
  have ln := block_lt hn
  have lc := block_lt hc
  have lg := block_lt hg
  have HN := Lib.hid (hn.kept ((ba w (.cells #[.int .i64 a.u, .int .i64 a.g, .int .i64 a.h, .int .i64 a.p] 65)).block bn ln))
  have HC := Lib.hid (hc.kept ((ba w (.cells #[.int .i64 a.u, .int .i64 a.g, .int .i64 a.h, .int .i64 a.p] 65)).block bc lc))
  have HG := Lib.hid (hg.kept ((ba w (.cells #[.int .i64 a.u, .int .i64 a.g, .int .i64 a.h, .int .i64 a.p] 65)).block bg lg))
  have hbx : (w.alloc (.cells #[.int .i64 a.u, .int .i64 a.g, .int .i64 a.h, .int .i64 a.p] 65)).heap[w.heap.size]? = some (.cells #[.int .i64 a.u, .int .i64 a.g, .int .i64 a.h, .int .i64 a.p] 65 (0, 0)) := MapKept.heap_alloc w _ |>.1
  have HA := Lib.hid (Aloof.of_below (b := bc) (c := bg) (ba w (.cells #[.int .i64 a.u, .int .i64 a.g, .int .i64 a.h, .int .i64 a.p] 65)))
  clear hn hc hg
  go_enter Try.func49, Try.ntmps49
  go_upto_region 1 with fail
  generalize w.alloc (.cells #[.int .i64 a.u, .int .i64 a.g, .int .i64 a.h, .int .i64 a.p] 65) = W at HN HC HG HA hbx ⊢
  obtain ⟨B, hB⟩ : ∃ B, B = w.heap.size := ⟨_, rfl⟩
  rw [← hB] at hbx ln lc lg ⊢
  have x0 : W.cell? ⟨B, 0, none⟩ = some (.int .i64 a.u) := by simp only [World.cell?, hbx]; rfl
  have x1 : W.cell? ⟨B, 1, none⟩ = some (.int .i64 a.g) := by simp only [World.cell?, hbx]; rfl
  have e1 : B ≠ bc := by omega
  have e2 : B ≠ bg := by omega
  have en := HN.out.cell
  have ec := HC.out.cell
  have eg := HG.out.cell
  have fc := HC.out.free
  have fg := HG.out.free
  clear hB hbx ln lc lg
  by_cases hu : a.u = n
  · have hub : (a.u == n) = true := beq_iff_eq.2 hu
    have HU := Lib.hid hu
    clear hu
    go_wp2_with fail
    go_end0
    refine ⟨rfl, ?_, ?_, (HN.out.other h1 _).other h2 _, (HA.out.trans (Aloof.set1 _ _)).trans (Aloof.set2 _ _)⟩
    · unfold cntU; rw [if_pos HU.out]; exact (HC.out.set _).other h3 _
    · unfold sumU; rw [if_pos HU.out]; exact (HG.out.other (Ne.symm h3) _).set _
  · have hub : (a.u == n) = false := beq_eq_false_iff_ne.2 hu
    have HU := Lib.hid hu
    clear hu
    go_wp2_with fail
    go_end0
    refine ⟨rfl, ?_, ?_, HN.out, HA.out⟩
    · unfold cntU; rw [if_neg HU.out, Int.add_zero]; exact HC.out
    · unfold sumU; rw [if_neg HU.out, Int.add_zero]; exact HG.out
end Go.Proofs.Ythfopabefknlkab
