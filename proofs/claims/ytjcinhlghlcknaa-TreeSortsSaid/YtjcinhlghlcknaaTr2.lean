/-
  Package tree: a tree in memory; what its calls may do to a world.
-/
import Derived.Test.YtjcinhlghlcknaaProg
import Derived.Test.YtjcinhlghlcknaaTr1
namespace Go.Proofs.Ytjcinhlghlcknaa
open Go.RowKit

theorem block_ltT {w : World} {k : Nat} {o : Obj} (h : w.heap[k]? = some o) : k < w.heap.size := by
  rcases Nat.lt_or_ge k w.heap.size with hl | hg
  · exact hl
  · rw [Array.getElem?_eq_none hg] at h; cases h
/-- All but some blocks is as it was. -/
structure Ofs (S : Nat → Prop) (w w' : World) : Prop where
  os : w'.os = w.os
  tape : w'.tape = w.tape
  output : w'.output = w.output
  size : w.heap.size ≤ w'.heap.size
  block : ∀ k, k < w.heap.size → ¬ S k → w'.heap[k]? = w.heap[k]?
theorem Ofs.refl (S : Nat → Prop) (w : World) : Ofs S w w := ⟨rfl, rfl, rfl, Nat.le_refl _, fun _ _ _ => rfl⟩
theorem Ofs.trans {S : Nat → Prop} {w w1 w2 : World} (h : Ofs S w w1) (k : Ofs S w1 w2) : Ofs S w w2 :=
  ⟨k.os.trans h.os, k.tape.trans h.tape, k.output.trans h.output, Nat.le_trans h.size k.size, fun i hi h1 => (k.block i (Nat.lt_of_lt_of_le hi h.size) h1).trans (h.block i hi h1)⟩
theorem Ofs.of_below {S : Nat → Prop} {w w' : World} (h : Below w.heap.size w w') : Ofs S w w' := ⟨h.os, h.tape, h.output, h.size, fun k hk _ => h.block k hk⟩
theorem Ofs.mono {S T : Nat → Prop} {w w' : World} (h : Ofs S w w') (hs : ∀ k, S k → T k) : Ofs T w w' := ⟨h.os, h.tape, h.output, h.size, fun k hk hn => h.block k hk (fun hh => hn (hs k hh))⟩
theorem Ofs.below {S : Nat → Prop} {B : Nat} {w w' : World} (h : Ofs S w w') (hs : ∀ k, S k → B ≤ k) (hB : B ≤ w.heap.size) : Below B w w' :=
  ⟨h.os, h.tape, h.output, h.size, fun k hk => h.block k (by omega) (fun hh => by have := hs k hh; omega)⟩
theorem Ofs.all {w w' : World} (h : Ofs (fun _ => False) w w') : Below w.heap.size w w' := h.below (fun _ hh => hh.elim) (Nat.le_refl _)
theorem Ofs.set {S : Nat → Prop} {w w' : World} (h : Ofs S w w') {b o : Nat} (hb : S b) (v : Value) : Ofs S w (w'.setCell ⟨b, o, none⟩ v) :=
  ⟨h.os, h.tape, h.output, by simp [World.setCell]; exact h.size, fun k hk hn => by
    have e : b ≠ k := fun e => hn (e ▸ hb)
    rw [show (w'.setCell ⟨b, o, none⟩ v).heap[k]? = w'.heap[k]? by simp [World.setCell, Array.getElem?_modify, e]]
    exact h.block k hk hn⟩

/-- Pairs lie in two cells each. -/
def thC (L : List Lf) : List Value := L.flatMap fun l => [.int .i64 l.k, .int .i64 l.t]
def wnC (W : List Int) : List Value := W.map (Value.int .i64)
theorem thC_len (L : List Lf) : (thC L).length = L.length * 2 := by
  induction L with
  | nil => rfl
  | cons l L ih => simp only [thC, List.flatMap_cons] at ih ⊢; simp [ih]; omega
theorem thC_get (L : List Lf) : ∀ i, i < L.length → (thC L)[i * 2]? = some (.int .i64 (L.getD i noLf).k) ∧ (thC L)[i * 2 + 1]? = some (.int .i64 (L.getD i noLf).t) := by
  induction L with
  | nil => intro i hi; simp at hi
  | cons l L ih =>
    intro i hi
    cases i with
    | zero => exact ⟨rfl, rfl⟩
    | succ i =>
      have := ih i (by simpa using hi)
      rw [show (i + 1) * 2 = i * 2 + 1 + 1 by omega]
      exact this
theorem thC_set (L : List Lf) : ∀ (i : Nat) (l : Lf), ((thC L).set (i * 2) (.int .i64 l.k)).set (i * 2 + 1) (.int .i64 l.t) = thC (L.set i l) := by
  induction L with
  | nil => intro i l; simp [thC]
  | cons x L ih =>
    intro i l
    cases i with
    | zero => rfl
    | succ i =>
      rw [show (i + 1) * 2 = i * 2 + 1 + 1 by omega]
      simp only [thC, List.flatMap_cons, List.cons_append, List.nil_append, List.set_cons_succ] at ih ⊢
      rw [ih i l]
def ptrT (p : Nat) : Value := .pointer (some ⟨p, 0, none⟩)
/-- A tree in memory: its box, its things, its winners. -/
structure TrAt (B : Nat) (w : World) (t a b : Nat) (ov : Value) (L : List Lf) (W : List Int) : Prop where
  box : w.heap[t]? = some (.cells #[ov, .slice (some ⟨a, 0, none⟩) L.length L.length, .slice (some ⟨b, 0, none⟩) W.length W.length] 59 (0, 0))
  things : w.heap[a]? = some (.cells (thC L).toArray 28 (0, 0))
  wins : w.heap[b]? = some (.cells (wnC W).toArray 3 (0, 0))
  lo : B ≤ t ∧ B ≤ a ∧ B ≤ b
section
variable {B : Nat} {w w' : World} {t a b : Nat} {ov : Value} {L : List Lf} {W : List Int}
theorem TrAt.c0 (h : TrAt B w t a b ov L W) : w.cell? ⟨t, 0, none⟩ = some ov := by simp [World.cell?, h.box]
theorem TrAt.c1 (h : TrAt B w t a b ov L W) : w.cell? ⟨t, 1, none⟩ = some (.slice (some ⟨a, 0, none⟩) L.length L.length) := by simp [World.cell?, h.box]
theorem TrAt.c2 (h : TrAt B w t a b ov L W) : w.cell? ⟨t, 2, none⟩ = some (.slice (some ⟨b, 0, none⟩) W.length W.length) := by simp [World.cell?, h.box]
theorem TrAt.th (h : TrAt B w t a b ov L W) {i : Nat} (hi : i < L.length) : w.cell? ⟨a, i * 2, none⟩ = some (.int .i64 (L.getD i noLf).k) ∧ w.cell? ⟨a, i * 2 + 1, none⟩ = some (.int .i64 (L.getD i noLf).t) := by
  have := thC_get L i hi
  simp only [World.cell?, h.things]
  simpa using this
theorem TrAt.wn (h : TrAt B w t a b ov L W) {j : Nat} (hj : j < W.length) : w.cell? ⟨b, j, none⟩ = some (.int .i64 (W.getD j (-1))) := by
  simp [World.cell?, h.wins, wnC, List.getD_eq_getElem?_getD, List.getElem?_eq_getElem hj]
theorem TrAt.fa (h : TrAt B w t a b ov L W) (i : Nat) : w.frozen? ⟨a, i, none⟩ = false := by simp [World.frozen?, h.things]
theorem TrAt.fb (h : TrAt B w t a b ov L W) (i : Nat) : w.frozen? ⟨b, i, none⟩ = false := by simp [World.frozen?, h.wins]
theorem TrAt.ne (h : TrAt B w t a b ov L W) : t ≠ a ∧ t ≠ b ∧ a ≠ b := by
  have h1 := h.box
  have h2 := h.things
  have h3 := h.wins
  refine ⟨fun e => ?_, fun e => ?_, fun e => ?_⟩
  · rw [e, h2] at h1; simp at h1
  · rw [e, h3] at h1; simp at h1
  · rw [e, h3] at h2; simp at h2
theorem TrAt.lt (h : TrAt B w t a b ov L W) : B ≤ w.heap.size := by have := block_ltT h.box; have := h.lo.1; omega
theorem TrAt.same (h : TrAt B w t a b ov L W) (h1 : w'.heap[t]? = w.heap[t]?) (h2 : w'.heap[a]? = w.heap[a]?) (h3 : w'.heap[b]? = w.heap[b]?) : TrAt B w' t a b ov L W :=
  ⟨h1.trans h.box, h2.trans h.things, h3.trans h.wins, h.lo⟩
theorem TrAt.kept (h : TrAt B w t a b ov L W) (hb : Below w.heap.size w w') : TrAt B w' t a b ov L W :=
  h.same (hb.block t (block_ltT h.box)) (hb.block a (block_ltT h.things)) (hb.block b (block_ltT h.wins))
/-- A thing is set. -/
theorem TrAt.put (h : TrAt B w t a b ov L W) (i : Nat) (l : Lf) :
    TrAt B ((w.setCell ⟨a, i * 2, none⟩ (.int .i64 l.k)).setCell ⟨a, i * 2 + 1, none⟩ (.int .i64 l.t)) t a b ov (L.set i l) W := by
  obtain ⟨n1, n2, n3⟩ := h.ne
  have ho : ∀ k, a ≠ k → ((w.setCell ⟨a, i * 2, none⟩ (.int .i64 l.k)).setCell ⟨a, i * 2 + 1, none⟩ (.int .i64 l.t)).heap[k]? = w.heap[k]? := fun k hk => by
    simp [World.setCell, Array.getElem?_modify, hk]
  refine ⟨?_, ?_, (ho b n3).trans h.wins, h.lo⟩
  · rw [List.length_set]; exact (ho t (Ne.symm n1)).trans h.box
  · have hth := h.things
    simp only [World.setCell, Array.getElem?_modify, if_true, hth]
    rw [← thC_set]
    simp
/-- A winner is set. -/
theorem TrAt.win (h : TrAt B w t a b ov L W) (j : Nat) (v : Int) : TrAt B (w.setCell ⟨b, j, none⟩ (.int .i64 v)) t a b ov L (W.set j v) := by
  obtain ⟨n1, n2, n3⟩ := h.ne
  have ho : ∀ k, b ≠ k → (w.setCell ⟨b, j, none⟩ (.int .i64 v)).heap[k]? = w.heap[k]? := fun k hk => by
    simp [World.setCell, Array.getElem?_modify, hk]
  refine ⟨?_, (ho a (Ne.symm n3)).trans h.things, ?_, h.lo⟩
  · rw [List.length_set]; exact (ho t (Ne.symm n2)).trans h.box
  · have hth := h.wins
    simp only [World.setCell, Array.getElem?_modify, if_true, hth]
    simp [wnC, List.map_set]
end
/-- What is known of an order: its value, the blocks that it may turn, and how often it was asked. -/
structure Ord8 where
  ov : Value
  S : Nat → Prop
  J : World → Int → Prop
def pairV (k t : Int) : Value := .agg #[.int .i64 k, .int .i64 t]
structure OrdOk (O : Ord8) : Prop where
  keep : ∀ w w' c, O.J w c → (∀ k, O.S k → w'.heap[k]? = w.heap[k]?) → O.J w' c
  typ : ∀ w c k, O.J w c → O.S k → ∃ v, w.heap[k]? = some (.cells #[v] 50 (0, 0))
  stand : ∀ (B : Nat) (w : World) (t a b : Nat) (L : List Lf) (W : List Int) (c k1 t1 k2 t2 : Int), TrAt B w t a b O.ov L W → O.J w c → c ≤ 100000 →
    Calls Try.prog 33 #[.pointer (some ⟨t, 0, none⟩), .agg #[.int .i64 k1, .int .i64 t1], .agg #[.int .i64 k2, .int .i64 t2]] w
      fun e w' => e = .returned (.int .i64 (cmpI k1 k2)) ∧ Ofs O.S w w' ∧ ∃ c', O.J w' c' ∧ c ≤ c' ∧ c' ≤ c + 1
theorem OrdOk.below {O : Ord8} (hO : OrdOk O) {w w' : World} {c : Int} (h : O.J w c) (hb : Below w.heap.size w w') : O.J w' c :=
  hO.keep w w' c h fun k hk => by
    obtain ⟨v, hv⟩ := hO.typ w c k h hk
    exact hb.block k (block_ltT hv)
theorem OrdOk.off {O : Ord8} (hO : OrdOk O) {w w' : World} {c : Int} (h : O.J w c) (hb : Ofs O.S w w') {B t a b : Nat} {L : List Lf} {W : List Int} (hT : TrAt B w t a b O.ov L W) : TrAt B w' t a b O.ov L W := by
  have n : ∀ k, O.S k → k ≠ t ∧ k ≠ a ∧ k ≠ b := fun k hk => by
    obtain ⟨v, hv⟩ := hO.typ w c k h hk
    refine ⟨fun e => ?_, fun e => ?_, fun e => ?_⟩
    · rw [e, hT.box] at hv; simp at hv
    · rw [e, hT.things] at hv; simp at hv
    · rw [e, hT.wins] at hv; simp at hv
  exact hT.same (hb.block t (block_ltT hT.box) fun hh => (n t hh).1 rfl) (hb.block a (block_ltT hT.things) fun hh => (n a hh).2.1 rfl) (hb.block b (block_ltT hT.wins) fun hh => (n b hh).2.2 rfl)
theorem OrdOk.apart {O : Ord8} (hO : OrdOk O) {w : World} {c : Int} (h : O.J w c) {B t a b : Nat} {L : List Lf} {W : List Int} (hT : TrAt B w t a b O.ov L W) : ∀ k, O.S k → k ≠ t ∧ k ≠ a ∧ k ≠ b := fun k hk => by
  obtain ⟨v, hv⟩ := hO.typ w c k h hk
  refine ⟨fun e => ?_, fun e => ?_, fun e => ?_⟩
  · rw [e, hT.box] at hv; simp at hv
  · rw [e, hT.things] at hv; simp at hv
  · rw [e, hT.wins] at hv; simp at hv
end Go.Proofs.Ytjcinhlghlcknaa
