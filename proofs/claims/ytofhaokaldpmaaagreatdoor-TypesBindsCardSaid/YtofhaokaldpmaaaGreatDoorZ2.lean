/-
  Expressions: plainly, and how they lie in memory.
Expressions copied; made.
copyAll, copyOf; Lit, Column, Op, Agg.
put, its closure and each: an expression whose columns are put at places.
Tokens, plainly: blanks and remarks, cuts of texts, what a token's text is and what may follow it.
The tokens of a text, plainly; of two texts with a line's end between; of tokens that are shown.
Bytes: which are blanks, letters, digits; how far a text runs.
How far a text runs; where blanks and remarks end; texts cut.
Where blanks and remarks end.
The tables of reserved words and signs; which words are reserved; cuts of words, of signs.
-/
import Derived.Test.YtofhaokaldpmaaaGreatDoorZ1
import Derived.OwnWalk
import Derived.Laws.AppendOwn
import Derived.Lib.Hide
import Derived.Maps.AppendAt
import Derived.Deep.Cut
import Derived.Test.YtofhaokaldpmaaaGreatDoorProg
import Derived.WalkKit
import Derived.WalkSpells
import Derived.WalkLawsBesides
import Derived.WalkMore
section
namespace Go.Proofs.YtofhaokaldpmaaaGreatDoor
open Go.RowKit Go.Shelf

/-- What an expression holds beside its parts. -/
structure Hd where
  k : Int
  n : Int
  vk : Int
  vn : Int
  vs : ByteArray
  tab : ByteArray
  col : ByteArray
inductive Ex where
  | mk (h : Hd) (l : List Ex)
def Ex.hd : Ex → Hd | .mk h _ => h
def Ex.kids : Ex → List Ex | .mk _ l => l
theorem Ex.kid_lt {h : Hd} {l : List Ex} {x : Ex} (hx : x ∈ l) : SizeOf.sizeOf x < SizeOf.sizeOf (Ex.mk h l) := by
  have := List.sizeOf_lt_of_mem hx
  simp only [Ex.mk.sizeOf_spec]
  omega

/-- An expression as the program hands it about. -/
abbrev XV (h : Hd) (A : Option Addr) (len cap : Nat) : Value :=
  .agg #[.int .i64 h.k, .int .i64 h.n, .int .i64 h.vk, .int .i64 h.vn, .string h.vs, .string h.tab, .string h.col, .slice A len cap]
abbrev xbox (h : Hd) (A : Option Addr) (len cap : Nat) : Obj := .cells #[.int .i64 h.k, .int .i64 h.n, .int .i64 h.vk, .int .i64 h.vn, .string h.vs, .string h.tab, .string h.col, .slice A len cap] 35
/-- Its cells. -/
structure XC (w : World) (g o : Nat) (h : Hd) (A : Option Addr) (len cap : Nat) : Prop where
  c0 : w.cell? ⟨g, o, none⟩ = some (.int .i64 h.k)
  c1 : w.cell? ⟨g, o + 1, none⟩ = some (.int .i64 h.n)
  c2 : w.cell? ⟨g, o + 2, none⟩ = some (.int .i64 h.vk)
  c3 : w.cell? ⟨g, o + 3, none⟩ = some (.int .i64 h.vn)
  c4 : w.cell? ⟨g, o + 4, none⟩ = some (.string h.vs)
  c5 : w.cell? ⟨g, o + 5, none⟩ = some (.string h.tab)
  c6 : w.cell? ⟨g, o + 6, none⟩ = some (.string h.col)
  c7 : w.cell? ⟨g, o + 7, none⟩ = some (.slice A len cap)
theorem XC.of {w w' : World} {g o : Nat} {h : Hd} {A : Option Addr} {len cap : Nat} (hb : w'.heap[g]? = w.heap[g]?) (c : XC w g o h A len cap) : XC w' g o h A len cap := by
  have e : ∀ o, w'.cell? ⟨g, o, none⟩ = w.cell? ⟨g, o, none⟩ := fun o => World.cell?_of_block hb
  exact ⟨(e _).trans c.c0, (e _).trans c.c1, (e _).trans c.c2, (e _).trans c.c3, (e _).trans c.c4, (e _).trans c.c5, (e _).trans c.c6, (e _).trans c.c7⟩
/-- Expressions in memory, in blocks of B. -/
def XsB (B : Nat → Prop) (w : World) : List Ex → Option Addr → Prop
  | [], _ => True
  | .mk h l :: r, A => ∃ g o, A = some ⟨g, o, none⟩ ∧ B g ∧ (∃ A' cap, XC w g o h A' l.length cap ∧ l.length ≤ cap ∧ XsB B w l A') ∧ XsB B w r (some ⟨g, o + 8, none⟩)
termination_by l => SizeOf.sizeOf l
theorem XsB.go {B B' : Nat → Prop} {w w' : World} (hb : ∀ k, B k → w'.heap[k]? = w.heap[k]?) (hB : ∀ k, B k → B' k) : ∀ (l : List Ex) (A : Option Addr), XsB B w l A → XsB B' w' l A
  | [], _, _ => by rw [XsB]; trivial
  | .mk h l :: r, A, H => by
    rw [XsB] at H ⊢
    obtain ⟨g, o, e, hg, ⟨A', cap, hc, hl, h1⟩, h2⟩ := H
    exact ⟨g, o, e, hB g hg, ⟨A', cap, hc.of (hb g hg), hl, XsB.go hb hB l A' h1⟩, XsB.go hb hB r _ h2⟩
termination_by l => SizeOf.sizeOf l
abbrev XsAt (n : Nat) (w : World) (l : List Ex) (A : Option Addr) : Prop := XsB (fun k => k < n) w l A
theorem XsAt.kept {n : Nat} {w w' : World} {l : List Ex} {A : Option Addr} (hb : Below n w w') (H : XsAt n w l A) : XsAt n w' l A :=
  XsB.go (fun k hk => hb.block k hk) (fun _ h => h) l A H
theorem XsAt.up {n m : Nat} {w : World} {l : List Ex} {A : Option Addr} (hm : n ≤ m) (H : XsAt n w l A) : XsAt m w l A :=
  XsB.go (fun _ _ => rfl) (fun _ h => Nat.lt_of_lt_of_le h hm) l A H
/-- Behind a call. -/
theorem XsAt.next {w w' : World} {l : List Ex} {A : Option Addr} (H : XsAt w.heap.size w l A) (hb : Below w.heap.size w w') : XsAt w'.heap.size w' l A :=
  (H.kept hb).up hb.size
theorem XsB.at {B : Nat → Prop} {w : World} : ∀ {l : List Ex} {A : Option Addr}, XsB B w l A → ∀ {i : Nat} {h : Hd} {l' : List Ex}, l[i]? = some (.mk h l') →
    ∃ g o A' cap, A = some ⟨g, o, none⟩ ∧ B g ∧ XC w g (o + i * 8) h A' l'.length cap ∧ l'.length ≤ cap ∧ XsB B w l' A'
  | [], _, _, i, h, l', hi => by simp at hi
  | .mk h l :: r, A, H, 0, h', l', hi => by
    rw [XsB] at H
    obtain ⟨g, o, e, hg, ⟨A', cap, hc, hl, h1⟩, _⟩ := H
    simp only [List.getElem?_cons_zero, Option.some.injEq, Ex.mk.injEq] at hi
    obtain ⟨rfl, rfl⟩ := hi
    exact ⟨g, o, A', cap, e, hg, by simpa using hc, hl, h1⟩
  | .mk h l :: r, A, H, i + 1, h', l', hi => by
    rw [XsB] at H
    obtain ⟨g, o, e, hg, _, h2⟩ := H
    obtain ⟨g', o', A', cap, e', hg', hc, hl, h1⟩ := XsB.at h2 (i := i) (by simpa using hi)
    simp only [Option.some.injEq, Addr.mk.injEq] at e'
    obtain ⟨rfl, rfl, _⟩ := e'
    exact ⟨g, o, A', cap, e, hg, by rw [show o + (i + 1) * 8 = o + 8 + i * 8 by omega]; exact hc, hl, h1⟩
theorem XsB.drop {B : Nat → Prop} {w : World} : ∀ {l : List Ex} {g o : Nat}, XsB B w l (some ⟨g, o, none⟩) → ∀ (k : Nat), XsB B w (l.drop k) (some ⟨g, o + k * 8, none⟩)
  | l, g, o, H, 0 => by simpa using H
  | [], g, o, H, k + 1 => by rw [List.drop_nil, XsB]; trivial
  | .mk h l :: r, g, o, H, k + 1 => by
    rw [XsB] at H
    obtain ⟨g', o', e, _, _, h2⟩ := H
    simp only [Option.some.injEq, Addr.mk.injEq] at e
    obtain ⟨rfl, rfl, _⟩ := e
    have := XsB.drop h2 k
    rw [List.drop_succ_cons, show o + (k + 1) * 8 = o + 8 + k * 8 by omega]
    exact this
/-- An expression, as a value with its parts in memory. -/
def XvB (B : Nat → Prop) (w : World) (e : Ex) (v : Value) : Prop :=
  ∃ A cap, v = XV e.hd A e.kids.length cap ∧ e.kids.length ≤ cap ∧ XsB B w e.kids A
abbrev XAt (n : Nat) (w : World) (e : Ex) (v : Value) : Prop := XvB (fun k => k < n) w e v
theorem XvB.go {B B' : Nat → Prop} {w w' : World} (hb : ∀ k, B k → w'.heap[k]? = w.heap[k]?) (hB : ∀ k, B k → B' k) {e : Ex} {v : Value} (H : XvB B w e v) : XvB B' w' e v := by
  obtain ⟨A, cap, rfl, hl, h⟩ := H
  exact ⟨A, cap, rfl, hl, XsB.go hb hB _ _ h⟩
theorem XAt.next {w w' : World} {e : Ex} {v : Value} (H : XAt w.heap.size w e v) (hb : Below w.heap.size w w') : XAt w'.heap.size w' e v :=
  XvB.go (fun k hk => hb.block k hk) (fun _ h => Nat.lt_of_lt_of_le h hb.size) H
/-- Blocks that came between two worlds. -/
abbrev Bn (b : Nat) (W : World) (k : Nat) : Prop := b ≤ k ∧ k < W.heap.size

/-! Lists of expressions of the call's own. -/
abbrev XQ := Hd × Option Addr × Nat × Nat
def xcell (x : XQ) : List Value := [.int .i64 x.1.k, .int .i64 x.1.n, .int .i64 x.1.vk, .int .i64 x.1.vn, .string x.1.vs, .string x.1.tab, .string x.1.col, .slice x.2.1 x.2.2.1 x.2.2.2]
def xcells (l : List XQ) : List Value := l.flatMap xcell
theorem xcells_len (l : List XQ) : (xcells l).length = l.length * 8 := by
  induction l with
  | nil => rfl
  | cons v l ih => show (xcell v ++ xcells l).length = _; rw [List.length_append, ih]; simp [xcell]; omega
theorem xcells_app (l r : List XQ) : xcells (l ++ r) = xcells l ++ xcells r := by simp [xcells]
theorem xcell_one (x : XQ) : ∀ u ∈ xcell x, u.oneCell' = true := by
  intro u hu
  simp [xcell] at hu
  rcases hu with rfl | rfl | rfl | rfl | rfl | rfl | rfl | rfl <;> rfl
theorem xcells_one (l : List XQ) : ∀ u ∈ xcells l, u.oneCell' = true := by
  intro u hu
  obtain ⟨v, _, hv⟩ := List.mem_flatMap.1 hu
  exact xcell_one v u hv
/-- What a cell row's entries stand for. -/
def XR (B : Nat → Prop) (w : World) (e : Ex) (x : XQ) : Prop := x.1 = e.hd ∧ x.2.2.1 = e.kids.length ∧ e.kids.length ≤ x.2.2.2 ∧ XsB B w e.kids x.2.1
inductive XRs (B : Nat → Prop) (w : World) : List Ex → List XQ → Prop
  | nil : XRs B w [] []
  | cons {e x l q} : XR B w e x → XRs B w l q → XRs B w (e :: l) (x :: q)
theorem XRs.len {B : Nat → Prop} {w : World} {l : List Ex} {q : List XQ} (h : XRs B w l q) : q.length = l.length := by
  induction h with
  | nil => rfl
  | cons _ _ ih => simp [ih]
theorem XRs.snoc {B : Nat → Prop} {w : World} {l : List Ex} {q : List XQ} (h : XRs B w l q) {e : Ex} {x : XQ} (hx : XR B w e x) : XRs B w (l ++ [e]) (q ++ [x]) := by
  induction h with
  | nil => exact .cons hx .nil
  | cons h1 _ ih => exact .cons h1 ih
theorem XRs.app {B : Nat → Prop} {w : World} {l l' : List Ex} {q q' : List XQ} (h : XRs B w l q) (h' : XRs B w l' q') : XRs B w (l ++ l') (q ++ q') := by
  induction h with
  | nil => exact h'
  | cons h1 _ ih => exact .cons h1 ih
theorem XR.go {B B' : Nat → Prop} {w w' : World} (hb : ∀ k, B k → w'.heap[k]? = w.heap[k]?) (hB : ∀ k, B k → B' k) {e : Ex} {x : XQ} (h : XR B w e x) : XR B' w' e x :=
  ⟨h.1, h.2.1, h.2.2.1, XsB.go hb hB _ _ h.2.2.2⟩
theorem XRs.go {B B' : Nat → Prop} {w w' : World} (hb : ∀ k, B k → w'.heap[k]? = w.heap[k]?) (hB : ∀ k, B k → B' k) {l : List Ex} {q : List XQ} (h : XRs B w l q) : XRs B' w' l q := by
  induction h with
  | nil => exact .nil
  | cons h1 _ ih => exact .cons (h1.go hb hB) ih
theorem XRs.xsB {B : Nat → Prop} {w : World} {g : Nat} (hg : B g) : ∀ {l : List Ex} {q : List XQ} {o : Nat}, XRs B w l q → (∀ j u, (xcells q)[j]? = some u → w.cell? ⟨g, o + j, none⟩ = some u) → XsB B w l (some ⟨g, o, none⟩)
  | _, _, _, .nil, _ => by rw [XsB]; trivial
  | _, _, o, .cons (e := .mk h l) (x := x) (q := q) h1 h2, H => by
    rw [XsB]
    obtain ⟨e1, e2, e3, e4⟩ := h1
    have e : xcells (x :: q) = xcell x ++ xcells q := rfl
    have e8 : (xcell x).length = 8 := rfl
    rw [e] at H
    refine ⟨g, o, rfl, hg, ⟨x.2.1, x.2.2.2, ?_, e3, e4⟩, ?_⟩
    · have k := fun j u (hj : (xcell x)[j]? = some u) => H j u (by rw [List.getElem?_append_left (List.getElem?_eq_some_iff.1 hj).1]; exact hj)
      simp only [Ex.hd, Ex.kids] at e1 e2
      rw [← e2, ← e1]
      exact ⟨k 0 _ rfl, k 1 _ rfl, k 2 _ rfl, k 3 _ rfl, k 4 _ rfl, k 5 _ rfl, k 6 _ rfl, k 7 _ rfl⟩
    · refine XRs.xsB hg h2 fun j u hj => ?_
      have := H (8 + j) u (by rw [List.getElem?_append_right (by omega), e8, Nat.add_sub_cancel_left]; exact hj)
      rwa [show o + (8 + j) = o + 8 + j by omega] at this
/-- A list of expressions of the call's own: in one row, the parts in other blocks. -/
abbrev Ot (base : Nat) (W : World) (v : Value) (k : Nat) : Prop := base ≤ k ∧ k < W.heap.size ∧ v.ownBlock ≠ some k
def Xrow (base : Nat) (W : World) (v : Value) (l : List Ex) (q : List XQ) : Prop := XRs (Ot base W v) W l q ∧ W.ownsRow base 35 8 v l.length (xcells q)
structure Xown (base : Nat) (W1 W : World) (v : Value) (l : List Ex) : Prop where
  row : ∃ q, Xrow base W v l q
  bel : Below base W1 W
  le : base ≤ W.heap.size
theorem Xown.slice {base : Nat} {W1 W : World} {v : Value} {l : List Ex} (h : Xown base W1 W v l) : ∃ A cap, v = .slice A l.length cap := by
  obtain ⟨q, _, ho⟩ := h.row
  rcases ho.2 with ⟨rfl, h0⟩ | ⟨g, cap, cur, hv, _⟩
  · rw [h0]; exact ⟨none, 0, rfl⟩
  · exact ⟨_, cap, hv⟩
theorem Xown.nil (W : World) : Xown W.heap.size W W (.slice none 0 0) [] :=
  ⟨⟨[], .nil, World.ownsRow_nil _ _ _ _⟩, Below.refl _ _, Nat.le_refl _⟩
theorem Xown.below {base : Nat} {W1 W W' : World} {v : Value} {l : List Ex} (h : Xown base W1 W v l) (hb : Below W.heap.size W W') : Xown base W1 W' v l := by
  obtain ⟨q, hq, ho⟩ := h.row
  refine ⟨⟨q, hq.go (fun k hk => hb.block k hk.2.1) (fun k hk => ⟨hk.1, Nat.lt_of_lt_of_le hk.2.1 hb.size, hk.2.2⟩), ho.1, ?_⟩, h.bel.trans (hb.mono h.le), Nat.le_trans h.le hb.size⟩
  rcases ho.2 with hn | ⟨g, cap, cur, hv, hb1, hg, hc, hm, hsz, ht⟩
  · exact .inl hn
  · exact .inr ⟨g, cap, cur, hv, hb1, (hb.block g (by
      rcases Nat.lt_or_ge g W.heap.size with h | h
      · exact h
      · rw [Array.getElem?_eq_none h] at hg; cases hg)).trans hg, hc, hm, hsz, ht⟩
/-- What such a list reads as. -/
theorem Xown.xsB {base : Nat} {W1 W : World} {v : Value} {l : List Ex} (h : Xown base W1 W v l) : ∃ A cap, v = .slice A l.length cap ∧ l.length ≤ cap ∧ XsB (Bn base W) W l A := by
  obtain ⟨q, hq, ho⟩ := h.row
  rcases ho.2 with ⟨rfl, h0⟩ | ⟨g, cap, cur, hv, hb1, hg, hc, hm, hsz, ht⟩
  · obtain rfl : l = [] := List.eq_nil_of_length_eq_zero h0
    exact ⟨none, 0, rfl, Nat.le_refl _, by rw [XsB]; trivial⟩
  · have hgl : g < W.heap.size := by
      rcases Nat.lt_or_ge g W.heap.size with h | h
      · exact h
      · rw [Array.getElem?_eq_none h] at hg; cases hg
    refine ⟨_, cap, hv, by omega, (hq.go (B' := Bn base W) (fun _ _ => rfl) (fun k hk => ⟨hk.1, hk.2.1⟩)).xsB ⟨hb1, hgl⟩ fun j u hj => ?_⟩
    have hjl := (List.getElem?_eq_some_iff.1 hj).1
    rw [xcells_len, hq.len] at hjl
    have e : cur.toList[j]? = (xcells q)[j]? := by rw [← ht, List.getElem?_take_of_lt (by omega)]
    rw [Nat.zero_add]
    simp only [World.cell?, hg]
    rw [← Array.getElem?_toList, e, hj]
    simp
/-- One more, appended. -/
theorem Xown.grow {base : Nat} {W1 W : World} {v : Value} {l : List Ex} (h : Xown base W1 W v l) {q : List XQ} (hq : Xrow base W v l q) {e : Ex} {x : XQ} (hx : XR (Ot base W v) W e x)
    {o : Obj} {v' : Value} {w' : World} (ho : w'.ownsRow base 35 8 v' (l.length + 1) (xcells q ++ xcell x)) (hg : (W.alloc o).grownBy w' v.ownBlock) (hat : v'.ownBlock = v.ownBlock ∨ v'.ownBlock = some (W.alloc o).heap.size) : Xown base W1 w' v' (l ++ [e]) := by
  have hle := h.le
  have hs := hg.size
  rw [World.size_alloc] at hs hat
  have hb : ∀ k, Ot base W v k → w'.heap[k]? = W.heap[k]? := fun k hk => (hg.block k (by rw [World.size_alloc]; have := hk.2.1; omega) (fun e => hk.2.2 e.symm)).trans ((ba W o).block k hk.2.1)
  have hB : ∀ k, Ot base W v k → Ot base w' v' k := fun k hk => ⟨hk.1, by have := hk.2.1; omega, fun e => by
    rcases hat with h1 | h1
    · exact hk.2.2 (h1.symm.trans e)
    · rw [h1] at e; have := hk.2.1; simp at e; omega⟩
  refine ⟨⟨q ++ [x], (hq.1.go hb hB).snoc (hx.go hb hB), ?_⟩, h.bel.trans (((Below.refl base W).alloc hle _).trans ((Below.refl base (W.alloc o)).grown hg (by rw [World.size_alloc]; omega) (fun k hk => (hq.2.lt k hk).1))), by omega⟩
  have e1 : xcells (q ++ [x]) = xcells q ++ xcell x := by rw [xcells_app]; simp [xcells]
  rw [e1, List.length_append]
  exact ho
theorem info_expr : (Tryz.prog.info? 35).map (fun i => (i.zero, i.size, i.bytes)) = some (some (XV ⟨0, 0, 0, 0, ⟨#[]⟩, ⟨#[]⟩, ⟨#[]⟩⟩ none 0 0), 8, 104) := by kernel_rfl
theorem infoE_parts {t : TypeId} {z : Value} {n b : Nat} (h : (Tryz.prog.info? t).map (fun i => (i.zero, i.size, i.bytes)) = some (some z, n, b)) :
    ∃ i, Tryz.prog.info? t = some i ∧ i.zero = some z ∧ i.size = n ∧ i.bytes = b := by
  cases hi : Tryz.prog.info? t with
  | none => rw [hi] at h; cases h
  | some i => rw [hi] at h; simp at h; exact ⟨i, rfl, h.1, h.2.1, h.2.2⟩
end Go.Proofs.YtofhaokaldpmaaaGreatDoor
end
section
namespace Go.Proofs.YtofhaokaldpmaaaGreatDoor
open Go.RowKit Go.Shelf

/-! A box of eight cells. -/
abbrev set8 (W : World) (U : Nat) (b0 b1 b2 b3 b4 b5 b6 b7 : Value) : World := ((((((((W.setCell ⟨U, 0, none⟩ b0).setCell ⟨U, 1, none⟩ b1).setCell ⟨U, 2, none⟩ b2).setCell ⟨U, 3, none⟩ b3).setCell ⟨U, 4, none⟩ b4).setCell ⟨U, 5, none⟩ b5).setCell ⟨U, 6, none⟩ b6).setCell ⟨U, 7, none⟩ b7)
theorem setc_box {W : World} {U : Nat} {cs : Array Value} {T : TypeId} {f : Nat × Nat} (h : W.heap[U]? = some (.cells cs T f)) (j : Nat) (b : Value) :
    (W.setCell ⟨U, j, none⟩ b).heap[U]? = some (.cells (cs.setIfInBounds j b) T f) := by
  simp only [World.setCell, Array.getElem?_modify, if_true, h]
  rfl
theorem set8_box {W : World} {U : Nat} {a0 a1 a2 a3 a4 a5 a6 a7 : Value} {T : TypeId} (h : W.heap[U]? = some (.cells #[a0, a1, a2, a3, a4, a5, a6, a7] T (0, 0))) (b0 b1 b2 b3 b4 b5 b6 b7 : Value) :
    (set8 W U b0 b1 b2 b3 b4 b5 b6 b7).heap[U]? = some (.cells #[b0, b1, b2, b3, b4, b5, b6, b7] T (0, 0)) := by
  refine ((setc_box (setc_box (setc_box (setc_box (setc_box (setc_box (setc_box (setc_box h 0 b0) 1 b1) 2 b2) 3 b3) 4 b4) 5 b5) 6 b6) 7 b7)).trans ?_
  simp
theorem set8_other {W : World} {U k : Nat} (hk : k ≠ U) (b0 b1 b2 b3 b4 b5 b6 b7 : Value) : (set8 W U b0 b1 b2 b3 b4 b5 b6 b7).heap[k]? = W.heap[k]? := by
  simp only [set8, World.setCell, Array.getElem?_modify]
  simp [Ne.symm hk]
theorem set8_size (W : World) (U : Nat) (b0 b1 b2 b3 b4 b5 b6 b7 : Value) : (set8 W U b0 b1 b2 b3 b4 b5 b6 b7).heap.size = W.heap.size := by simp [set8, World.setCell]
theorem set8_below {B U : Nat} {w W : World} (h : Below B w W) (hU : B ≤ U) (b0 b1 b2 b3 b4 b5 b6 b7 : Value) : Below B w (set8 W U b0 b1 b2 b3 b4 b5 b6 b7) :=
  ((((((((h.setCell (p := ⟨U, 0, none⟩) hU b0).setCell (p := ⟨U, 1, none⟩) hU b1).setCell (p := ⟨U, 2, none⟩) hU b2).setCell (p := ⟨U, 3, none⟩) hU b3).setCell (p := ⟨U, 4, none⟩) hU b4).setCell (p := ⟨U, 5, none⟩) hU b5).setCell (p := ⟨U, 6, none⟩) hU b6).setCell (p := ⟨U, 7, none⟩) hU b7)
theorem cell8 {w : World} {U : Nat} {b0 b1 b2 b3 b4 b5 b6 b7 : Value} {T : TypeId} (e : w.heap[U]? = some (.cells #[b0, b1, b2, b3, b4, b5, b6, b7] T (0, 0))) :
    (w.cell? ⟨U, 0, none⟩ = some b0 ∧ w.cell? ⟨U, 1, none⟩ = some b1 ∧ w.cell? ⟨U, 2, none⟩ = some b2 ∧ w.cell? ⟨U, 3, none⟩ = some b3 ∧ w.cell? ⟨U, 4, none⟩ = some b4 ∧ w.cell? ⟨U, 5, none⟩ = some b5 ∧ w.cell? ⟨U, 6, none⟩ = some b6 ∧ w.cell? ⟨U, 7, none⟩ = some b7) ∧
    w.frozen? ⟨U, 0, none⟩ = false ∧ w.frozen? ⟨U, 1, none⟩ = false ∧ w.frozen? ⟨U, 2, none⟩ = false ∧ w.frozen? ⟨U, 3, none⟩ = false ∧ w.frozen? ⟨U, 4, none⟩ = false ∧ w.frozen? ⟨U, 5, none⟩ = false ∧ w.frozen? ⟨U, 6, none⟩ = false ∧ w.frozen? ⟨U, 7, none⟩ = false :=
  ⟨⟨by simp only [World.cell?, e]; rfl, by simp only [World.cell?, e]; rfl, by simp only [World.cell?, e]; rfl, by simp only [World.cell?, e]; rfl, by simp only [World.cell?, e]; rfl, by simp only [World.cell?, e]; rfl, by simp only [World.cell?, e]; rfl, by simp only [World.cell?, e]; rfl⟩,
    by simp only [World.frozen?, e]; rfl, by simp only [World.frozen?, e]; rfl, by simp only [World.frozen?, e]; rfl, by simp only [World.frozen?, e]; rfl, by simp only [World.frozen?, e]; rfl, by simp only [World.frozen?, e]; rfl, by simp only [World.frozen?, e]; rfl, by simp only [World.frozen?, e]; rfl⟩
theorem set7_box {W : World} {U : Nat} {a0 a1 a2 a3 a4 a5 a6 a7 : Value} {T : TypeId} (h : W.heap[U]? = some (.cells #[a0, a1, a2, a3, a4, a5, a6, a7] T (0, 0))) (b : Value) :
    (W.setCell ⟨U, 7, none⟩ b).heap[U]? = some (.cells #[a0, a1, a2, a3, a4, a5, a6, b] T (0, 0)) := by
  simp only [World.setCell, Array.getElem?_modify, if_true, h]
  rfl
theorem setc_other {W : World} {U k j : Nat} (hk : k ≠ U) (b : Value) : (W.setCell ⟨U, j, none⟩ b).heap[k]? = W.heap[k]? := by
  simp only [World.setCell, Array.getElem?_modify]
  simp [Ne.symm hk]
theorem setc_size (W : World) (p : Addr) (b : Value) : (W.setCell p b).heap.size = W.heap.size := by simp [World.setCell]

theorem xnews (wr : World) (q : XQ) (t : TypeId) (j : Nat) (u : Value) (h : (xcell q)[j]? = some u) : (wr.alloc (.cells (xcell q).toArray t)).cell? ((⟨wr.heap.size, 0, none⟩ : Addr).add j) = some u := by
  have e2 : (⟨wr.heap.size, 0, none⟩ : Addr).add j = ⟨wr.heap.size, j, none⟩ := by simp only [Addr.add]; split <;> simp_all
  have hn := (MapKept.heap_alloc wr (.cells (xcell q).toArray t)).1
  rw [e2]
  unfold World.cell?
  rw [hn]
  simp [h]
/-- What copyAll and copyOf hand back. -/
def CopyL (w : World) (l : List Ex) (e : Ending) (w' : World) : Prop :=
  ∃ A cap, e = .returned (.slice A l.length cap) ∧ l.length ≤ cap ∧ XsB (Bn w.heap.size w') w' l A ∧ Below w.heap.size w w'
def CopyE (w : World) (x : Ex) (e : Ending) (w' : World) : Prop :=
  ∃ A cap, e = .returned (XV x.hd A x.kids.length cap) ∧ x.kids.length ≤ cap ∧ XsB (Bn w.heap.size w') w' x.kids A ∧ Below w.heap.size w w'
abbrev x0 : Obj := .cells #[.int .i64 0, .int .i64 0, .int .i64 0, .int .i64 0, .string ⟨#[]⟩, .string ⟨#[]⟩, .string ⟨#[]⟩, .slice none 0 0] 35
theorem copyOf_of (h : Hd) (l : List Ex) (w : World) (A : Option Addr) (cap : Nat)
    (ih : ∀ w1, Below w.heap.size w w1 → Calls Tryz.prog 99 #[.slice A l.length cap] w1 (CopyL w1 l)) :
    Calls Tryz.prog 72 #[XV h A l.length cap] w (CopyE w (.mk h l)) := by
  have hb1 := bt (ba w (xbox h A l.length cap)) (ba _ x0)
  have HI := Lib.hid (ih _ hb1)
  have HB1 := Lib.hid hb1
  have HX0 := Lib.hid (((ba (w.alloc (xbox h A l.length cap)) x0).block w.heap.size (by rw [World.size_alloc]; omega)).trans (MapKept.heap_alloc w (xbox h A l.length cap)).1)
  have HX1 := Lib.hid ((MapKept.heap_alloc (w.alloc (xbox h A l.length cap)) x0).1)
  have HSz := Lib.hid (show ((w.alloc (xbox h A l.length cap)).alloc x0).heap.size = w.heap.size + 1 + 1 by simp)
  clear ih hb1
  go_enter Tryz.func72, Tryz.ntmps72
  go_wp2_with fail
  rw [World.size_alloc] at HX1
  obtain ⟨W1, hW1⟩ : ∃ W1, (w.alloc (xbox h A l.length cap)).alloc x0 = W1 := ⟨_, rfl⟩
  obtain ⟨U, hU⟩ : ∃ U, w.heap.size = U := ⟨_, rfl⟩
  rw [hW1] at HI HB1 HX0 HX1 HSz
  refine (show Calls Tryz.prog 99 #[.slice A l.length cap] ((w.alloc (xbox h A l.length cap)).alloc x0) (CopyL W1 l) by rw [hW1]; exact HI.out).mono ?_
  rintro e w2 ⟨A', cap', rfl, hle, hx, hb⟩
  have hX0 := (hb.block _ (by rw [HSz.out]; omega)).trans HX0.out
  have hX1 := (hb.block _ (by rw [HSz.out]; omega)).trans HX1.out
  have HB2 := Lib.hid (HB1.out.trans (hb.mono HB1.out.size))
  have HS2 := Lib.hid hb.size
  have HXB := Lib.hid hx
  have HLE := Lib.hid hle
  have HY0 := Lib.hid (set7_box hX0 (.slice A' l.length cap'))
  have HX0' := Lib.hid hX0
  have HX1' := Lib.hid ((setc_other (W := w2) (U := w.heap.size) (k := w.heap.size + 1) (j := 7) (by omega) (.slice A' l.length cap')).trans hX1)
  clear HX0 HX1 hb hx hle HI hW1
  rw [hU] at HB2 HY0 HX0' HX1' hX0 hX1 HSz ⊢
  obtain ⟨⟨c0, c1, c2, c3, c4, c5, c6, c7⟩, f0, f1, f2, f3, f4, f5, f6, f7⟩ := cell8 hX0
  obtain ⟨⟨d0, d1, d2, d3, d4, d5, d6, d7⟩, g0, g1, g2, g3, g4, g5, g6, g7⟩ := cell8 hX1
  clear hX0 hX1
  have HZ := Lib.hid (set8_box HX1'.out (.int .i64 h.k) (.int .i64 h.n) (.int .i64 h.vk) (.int .i64 h.vn) (.string h.vs) (.string h.tab) (.string h.col) (.slice A' l.length cap'))
  go_wp2_with fail
  obtain ⟨⟨q0, q1, q2, q3, q4, q5, q6, q7⟩, _⟩ := cell8 HZ.out
  refine bodyPost_ret (v := XV h A' l.length cap') (by simp [results, Tryz.results72, go_sem, q0, q1, q2, q3, q4, q5, q6, q7]) rfl ⟨A', cap', rfl, HLE.out, ?_, ?_⟩
  · refine XsB.go (fun k hk => (set8_other (by have := hk.1; have := HSz.out; omega) _ _ _ _ _ _ _ _).trans (setc_other (by have := hk.1; have := HSz.out; omega) _)) (fun k hk => ⟨by have := hk.1; have := HSz.out; omega, ?_⟩) _ _ HXB.out
    rw [set8_size, setc_size]; exact hk.2
  · rw [hU]
    exact set8_below (HB2.out.setCell (p := ⟨U, 7, none⟩) (Nat.le_refl _) _) (by omega) _ _ _ _ _ _ _ _
end Go.Proofs.YtofhaokaldpmaaaGreatDoor
end
section
namespace Go.Proofs.YtofhaokaldpmaaaGreatDoor
open Go.RowKit Go.Shelf

mutual
/-- How many expressions stand in one, in a list. -/
def cnt : Ex → Nat
  | .mk _ l => 1 + cntL l
def cntL : List Ex → Nat
  | [] => 0
  | x :: r => cnt x + cntL r
end
theorem cnt_mk (h : Hd) (l : List Ex) : cnt (.mk h l) = 1 + cntL l := by rw [cnt]
theorem cnt_pos (x : Ex) : 1 ≤ cnt x := by cases x; rw [cnt]; omega
theorem cntL_len : ∀ l : List Ex, l.length ≤ cntL l
  | [] => by simp
  | x :: r => by have := cntL_len r; have := cnt_pos x; rw [cntL, List.length_cons]; omega
theorem cntL_mem : ∀ {l : List Ex} {i : Nat} {x : Ex}, l[i]? = some x → cnt x ≤ cntL l
  | [], i, x, h => by simp at h
  | y :: r, 0, x, h => by
    obtain rfl : y = x := by simpa using h
    rw [cntL]; omega
  | y :: r, i + 1, x, h => by
    have := cntL_mem (l := r) (i := i) (x := x) (by simpa using h)
    rw [cntL]; omega

set_option maxHeartbeats 4000000 in
theorem copyAll_n : ∀ (n : Nat) (l : List Ex), cntL l ≤ n → n ≤ 1000000 → ∀ (w : World) (A : Option Addr) (cap : Nat), XsAt w.heap.size w l A →
    Calls Tryz.prog 99 #[.slice A l.length cap] w (CopyL w l) := by
  intro n
  induction n with
  | zero =>
    intro l hl _ w A cap hX
    have h0 := cntL_len l
    obtain rfl : l = [] := List.eq_nil_of_length_eq_zero (by omega)
    clear hX hl h0
    go_enter Tryz.func99, Tryz.ntmps99
    go_wp2_with fail
    go_loopw [8, 3] (fun i v W => i = .int .i64 0 ∧ v = .slice none 0 0 ∧ W = w) (fun _ _ _ => 0)
    case atStart => exact ⟨rfl, rfl, rfl⟩
    case round =>
      obtain ⟨rfl, rfl, rfl⟩ := hrel
      go_wp2_with fail
      go_ret
      exact ⟨none, 0, rfl, Nat.le_refl _, by rw [XsB]; trivial, Below.refl _ _⟩
  | succ n ih =>
    intro l hl hn w A cap hX
    obtain ⟨i0, hi, hz0, hz1, hz2⟩ := infoE_parts info_expr
    have hlen := cntL_len l
    have HI := Lib.hid ih
    have HXs := Lib.hid hX
    have HL := Lib.hid hl
    clear ih hX hl
    have hll : l.length ≤ 1000000 := by have := HL.out; omega
    go_enter Tryz.func99, Tryz.ntmps99
    go_wp2_with fail
    go_loopw [8, 3] (fun i v W => ∃ k : Nat, k ≤ l.length ∧ i = .int .i64 k ∧ Hid (Xown w.heap.size w W v (l.take k))) (fun i _ _ => l.length - (intOf i).toNat)
    case atStart => exact ⟨0, Nat.zero_le _, rfl, Lib.hid (by rw [List.take_zero]; exact Xown.nil _)⟩
    case round =>
      obtain ⟨k, hk, rfl, HW⟩ := hrel
      have hkl : (l.take k).length = k := by rw [List.length_take]; omega
      obtain ⟨AS, capS, hv⟩ := HW.out.slice
      rw [hkl] at hv
      subst hv
      by_cases hkn : k < l.length
      · obtain ⟨x, hx⟩ : ∃ x, l[k]? = some x := ⟨_, List.getElem?_eq_getElem hkn⟩
        obtain ⟨h, l'⟩ := x
        have HT := Lib.hid (show l.take (k + 1) = l.take k ++ [.mk h l'] by rw [List.take_add_one, hx]; rfl)
        have hc := cntL_mem hx
        rw [cnt_mk] at hc
        obtain ⟨g, off, A', cap', rfl, hg, hX, hle', hl'⟩ := HXs.out.at hx
        have hXr := hX.of (HW.out.bel.block g hg)
        have hgr : g < wr.heap.size := Nat.lt_of_lt_of_le hg HW.out.bel.size
        obtain ⟨c0, c1, c2, c3, c4, c5, c6, c7⟩ := hXr
        have HC := Lib.hid (copyOf_of h l' (wr.alloc (xbox h A' l'.length cap')) A' cap' (fun w1 hb1 => HI.out l' (by have := HL.out; omega) (by omega) w1 A' cap' (by
          have hb := HW.out.bel.trans ((ba wr (xbox h A' l'.length cap')).mono HW.out.bel.size |>.trans (hb1.mono (by rw [World.size_alloc]; have := HW.out.bel.size; omega)))
          exact XsB.go (fun k hk => hb.block k hk) (fun k hk => Nat.lt_of_lt_of_le hk hb.size) _ _ hl')))
        clear hX hl' hx hc hg
        go_wp2_with fail
        refine HC.out.mono ?_
        rintro e w3 ⟨A3, cap3, rfl, hle3, hx3, hb3⟩
        have hb13 := bt (ba wr (xbox h A' l'.length cap')) hb3
        have H3 := HW.out.below hb13
        obtain ⟨q, hq⟩ := H3.row
        have hq2 := hq.2
        rw [hkl] at hq2
        have hxr : XR (Ot w.heap.size w3 (.slice AS k capS)) w3 (.mk h l') (h, A3, l'.length, cap3) := by
          refine ⟨rfl, rfl, hle3, XsB.go (fun _ _ => rfl) (fun j hj => ⟨?_, hj.2, fun e => ?_⟩) _ _ hx3⟩
          · have := hj.1; rw [World.size_alloc] at this; have := HW.out.bel.size; omega
          · obtain ⟨q0, hq0⟩ := HW.out.row
            have := (hq0.2.lt j e).2
            have h2 := hj.1; rw [World.size_alloc] at h2; omega
        have HQ2 := Lib.hid hq2
        have HH3 := Lib.hid (show ∀ o v' w', w'.ownsRow w.heap.size 35 8 v' (k + 1) (xcells q ++ xcell (h, A3, l'.length, cap3)) → (w3.alloc o).grownBy w' (Value.ownBlock (.slice AS k capS)) →
            (v'.ownBlock = Value.ownBlock (.slice AS k capS) ∨ v'.ownBlock = some (w3.heap.size + 1)) → Xown w.heap.size w w' v' (l.take (k + 1)) from fun o v' w' ho hg hat => by
          rw [HT.out]
          exact H3.grow hq hxr (by rw [hkl]; exact ho) hg (by rw [World.size_alloc]; exact hat))
        have HLE := Lib.hid H3.le
        clear hq2 hxr hq H3 hb13 hb3 hx3 hle3 c0 c1 c2 c3 c4 c5 c6 c7
        go_wp2_with (at_builtin; refine wpList_append_own_at _ rfl _ _ 33 rfl w.heap.size 35 i0 _ 8 104 Tryz.underlying33 hi hz0 hz1 hz2 rfl (by decide) _ _ _ rfl (HQ2.out.alloc _) ⟨w3.heap.size, 0, none⟩ 1 1 (xcell (h, A3, l'.length, cap3)) rfl rfl (xnews _ _ _) (xcell_one _) ?c3 ?c4 ?c5 ?_)
        case c3 => unfold maxLen; omega
        case c4 => omega
        case c5 => have := HLE.out; simp; omega
        intro v' w4 hown' hg4 _ hat
        have HG := Lib.hid (HH3.out _ _ _ hown' hg4 hat)
        clear hown' hg4 hat
        go_wp2_with fail
        go_roundw
        case rel => exact ⟨k + 1, by omega, by go_num, HG⟩
        case measure => simp [intOf]; omega
      · obtain rfl : k = l.length := by omega
        obtain ⟨A2, cap2, hv2, hle2, hx2⟩ := HW.out.xsB
        rw [List.take_length] at hv2 hle2 hx2
        have HE := Lib.hid hx2
        have HB := Lib.hid HW.out.bel
        obtain ⟨rfl, _, rfl⟩ := Value.slice.inj hv2
        clear hx2 hv2
        go_wp2_with fail
        go_ret
        exact ⟨AS, capS, rfl, hle2, HE.out, HB.out⟩
theorem copyAll_any (l : List Ex) (w : World) (A : Option Addr) (cap : Nat) (hc : cntL l ≤ 1000000) (hX : XsAt w.heap.size w l A) :
    Calls Tryz.prog 99 #[.slice A l.length cap] w (CopyL w l) := copyAll_n _ l hc (Nat.le_refl _) w A cap hX
theorem copyOf_any (h : Hd) (l : List Ex) (w : World) (A : Option Addr) (cap : Nat) (hc : cntL l ≤ 1000000) (hX : XsAt w.heap.size w l A) :
    Calls Tryz.prog 72 #[XV h A l.length cap] w (CopyE w (.mk h l)) :=
  copyOf_of h l w A cap fun w1 hb => copyAll_any l w1 A cap hc (XsB.go (fun k hk => hb.block k hk) (fun _ hk => Nat.lt_of_lt_of_le hk hb.size) _ _ hX)
/-! Made. -/
abbrev hdL (k n : Int) (s : ByteArray) : Hd := ⟨1, 0, k, n, s, ⟨#[]⟩, ⟨#[]⟩⟩
abbrev hdC (t c : ByteArray) : Hd := ⟨2, 0, 0, 0, ⟨#[]⟩, t, c⟩
abbrev hdO (n : Int) : Hd := ⟨3, n, 0, 0, ⟨#[]⟩, ⟨#[]⟩, ⟨#[]⟩⟩
abbrev hdA (n : Int) : Hd := ⟨4, n, 0, 0, ⟨#[]⟩, ⟨#[]⟩, ⟨#[]⟩⟩
theorem refColumn_any (t c : ByteArray) (w : World) :
    Calls Tryz.prog 24 #[.string t, .string c] w fun e w' => e = .returned (XV (hdC t c) none 0 0) ∧ Below w.heap.size w w' := by
  go_enter Tryz.func24, Tryz.ntmps24
  go_wp2
  refine bodyPost_ret (v := XV (hdC t c) none 0 0) (by simp [results, Tryz.results24, go_sem]) rfl ⟨rfl, ?_⟩
  exact ba w _
theorem refOp_any (n : Int) (A : Option Addr) (len cap : Nat) (w : World) :
    Calls Tryz.prog 25 #[.int .i64 n, .slice A len cap] w fun e w' => e = .returned (XV (hdO n) A len cap) ∧ Below w.heap.size w w' := by
  go_enter Tryz.func25, Tryz.ntmps25
  go_wp2
  refine bodyPost_ret (v := XV (hdO n) A len cap) (by simp [results, Tryz.results25, go_sem]) rfl ⟨rfl, ?_⟩
  exact ba w _
end Go.Proofs.YtofhaokaldpmaaaGreatDoor
end
section
namespace Go.Proofs.YtofhaokaldpmaaaGreatDoor
open Go.RowKit Go.Shelf
attribute [local go_sem] Oper.semAt_some

/-- A head, its column put at a place. -/
def headX (pl : Hd → Option Nat) (h : Hd) : Option Hd := if h.k = 2 then (pl h).map (fun n => ⟨h.k, (n : Nat), h.vk, h.vn, h.vs, h.tab, h.col⟩) else some h
mutual
def putX (pl : Hd → Option Nat) : Ex → Option Ex
  | .mk h l => match headX pl h, putXs pl l with
    | some h', some l' => some (.mk h' l')
    | _, _ => none
def putXs (pl : Hd → Option Nat) : List Ex → Option (List Ex)
  | [] => some []
  | x :: r => match putX pl x, putXs pl r with
    | some y, some r' => some (y :: r')
    | _, _ => none
end
theorem putXs_len {pl : Hd → Option Nat} : ∀ {l l' : List Ex}, putXs pl l = some l' → l'.length = l.length
  | [], l', h => by rw [putXs] at h; obtain rfl := Option.some.inj h; rfl
  | x :: r, l', h => by
    rw [putXs] at h
    split at h
    · rename_i y r' h1 h2
      obtain rfl := Option.some.inj h
      rw [List.length_cons, List.length_cons, putXs_len h2]
    · cases h
theorem putXs_app {pl : Hd → Option Nat} : ∀ (l : List Ex) (x : Ex), putXs pl (l ++ [x]) = match putXs pl l, putX pl x with | some a, some y => some (a ++ [y]) | _, _ => none
  | [], x => by
    rw [List.nil_append, putXs, putXs]
    cases putX pl x <;> rfl
  | z :: r, x => by
    rw [List.cons_append, putXs, putXs_app r x, putXs]
    cases putX pl z <;> cases putXs pl r <;> cases putX pl x <;> rfl
theorem putXs_none {pl : Hd → Option Nat} : ∀ {l : List Ex} {k : Nat} {x : Ex}, l[k]? = some x → putX pl x = none → putXs pl l = none
  | [], k, x, h, _ => by simp at h
  | y :: r, 0, x, h, hx => by
    obtain rfl : y = x := by simpa using h
    rw [putXs, hx]
  | y :: r, k + 1, x, h, hx => by
    rw [putXs, putXs_none (l := r) (k := k) (by simpa using h) hx]
    cases putX pl y <;> rfl
abbrev zHd : Hd := ⟨0, 0, 0, 0, ⟨#[]⟩, ⟨#[]⟩, ⟨#[]⟩⟩
/-- What put answers. -/
def PutE (w : World) (o : Option Ex) (e : Ending) (w' : World) : Prop := match o with
  | some x => ∃ A cap, e = .returned (.tuple #[XV x.hd A x.kids.length cap, .nilIface]) ∧ x.kids.length ≤ cap ∧ XsB (Bn w.heap.size w') w' x.kids A ∧ Below w.heap.size w w'
  | none => e = .returned (.tuple #[XV zHd none 0 0, errV 140]) ∧ Below w.heap.size w w'
/-- What each answers. -/
def EachE (w : World) (o : Option (List Ex)) (e : Ending) (w' : World) : Prop := match o with
  | some l => ∃ A cap, e = .returned (.tuple #[.slice A l.length cap, .nilIface]) ∧ l.length ≤ cap ∧ XsB (Bn w.heap.size w') w' l A ∧ Below w.heap.size w w'
  | none => e = .returned (.tuple #[.slice none 0 0, errV 140]) ∧ Below w.heap.size w w'
set_option maxRecDepth 100000 in
set_option maxHeartbeats 8000000 in
theorem each_of (pl : Hd → Option Nat) (p3 : Nat) (l : List Ex) (hll : l.length ≤ 1000000) (w : World) (A : Option Addr) (cap : Nat) (hX : XsAt w.heap.size w l A)
    (hC : ∀ (i : Nat) (h' : Hd) (l' : List Ex), l[i]? = some (.mk h' l') → ∀ W1, Below w.heap.size w W1 → ∀ A' cap', XsAt W1.heap.size W1 l' A' → l'.length ≤ cap' →
      Calls Tryz.prog 65 #[XV h' A' l'.length cap', .pointer (some ⟨p3, 0, none⟩)] W1 (PutE W1 (putX pl (.mk h' l')))) :
    Calls Tryz.prog 64 #[.slice A l.length cap, .func (.func 65) #[] #[.pointer (some ⟨p3, 0, none⟩)]] w (EachE w (putXs pl l)) := by
  have eg := enters_of Tryz.func65 (by kernel_rfl) rfl
  unfold Enters at eg
  obtain ⟨i0, hi, hz0, hz1, hz2⟩ := infoE_parts info_expr
  have HXs := Lib.hid hX
  have HI := Lib.hid hC
  obtain ⟨F, hF⟩ : ∃ F, putXs pl l = F := ⟨_, rfl⟩
  have HF := Lib.hid hF
  rw [hF]
  clear hX hC hF
  go_enter Tryz.func64, Tryz.ntmps64
  go_wp2_with fail
  go_loopw [13, 6] (fun i v W => ∃ (k : Nat) (l' : List Ex), k ≤ l.length ∧ i = .int .i64 k ∧ Hid (putXs pl (l.take k) = some l') ∧ Hid (Xown w.heap.size w W v l')) (fun i _ _ => l.length - (intOf i).toNat)
  case atStart => exact ⟨0, [], Nat.zero_le _, rfl, Lib.hid (by rw [List.take_zero, putXs]), Lib.hid (Xown.nil _)⟩
  case round =>
    obtain ⟨k, la, hk, rfl, HP, HW⟩ := hrel
    have hkl : la.length = k := by rw [putXs_len HP.out, List.length_take]; omega
    obtain ⟨AS, capS, hv⟩ := HW.out.slice
    rw [hkl] at hv
    subst hv
    by_cases hkn : k < l.length
    · obtain ⟨x, hx⟩ : ∃ x, l[k]? = some x := ⟨_, List.getElem?_eq_getElem hkn⟩
      obtain ⟨h, l'⟩ := x
      have hT : l.take (k + 1) = l.take k ++ [.mk h l'] := by rw [List.take_add_one, hx]; rfl
      have HT := Lib.hid (show putXs pl (l.take (k + 1)) = match some la, putX pl (.mk h l') with | some a, some y => some (a ++ [y]) | _, _ => none by rw [hT, putXs_app, HP.out])
      have HNo := Lib.hid (fun e => putXs_none (pl := pl) hx e)
      obtain ⟨g, off, A', cap', rfl, hg, hX, hle', hl'⟩ := HXs.out.at hx
      have hXr := hX.of (HW.out.bel.block g hg)
      obtain ⟨c0, c1, c2, c3, c4, c5, c6, c7⟩ := hXr
      have hb1 := HW.out.bel
      have hba := ba wr (xbox h A' l'.length cap')
      have hC1 := HI.out k h l' hx (wr.alloc (xbox h A' l'.length cap')) (bt hb1 hba) A' cap' (XsAt.next hl' (bt hb1 hba)) hle'
      have HXb := Lib.hid (MapKept.heap_alloc wr (xbox h A' l'.length cap')).1
      obtain ⟨⟨x0, x1, x2, x3, x4, x5, x6, x7⟩, _⟩ := cell8 HXb.out
      have HW1 := Lib.hid (HW.out.below hba)
      have hws : w.heap.size ≤ wr.heap.size := hb1.size
      clear hX hl' hx hg hT hb1 hba
      cases hpx : putX pl (.mk h l') with
      | none =>
        rw [hpx] at hC1
        have HC := Lib.hid hC1
        obtain rfl : F = none := HF.out.symm.trans (HNo.out hpx)
        clear hC1 hpx
        go_wp2_with fail
        refine HC.out.mono ?_
        rintro e w3 ⟨rfl, hb3⟩
        have HB3 := Lib.hid ((HW1.out.bel.trans (hb3.mono (by rw [World.size_alloc]; omega))).trans ((ba w3 (xbox zHd none 0 0)).mono (by have := hb3.size; rw [World.size_alloc] at this; omega)))
        clear hb3 c0 c1 c2 c3 c4 c5 c6 c7 x0 x1 x2 x3 x4 x5 x6 x7
        go_wp2_with fail
        exact bodyPost_ret (v := .tuple #[.slice none 0 0, errV 140]) (by simp [results, Tryz.results64, go_sem]) rfl ⟨rfl, HB3.out⟩
      | some y =>
        obtain ⟨hy, ly⟩ := y
        rw [hpx] at hC1 HT
        have HC := Lib.hid hC1
        have HT2 := Lib.hid (show putXs pl (l.take (k + 1)) = some (la ++ [.mk hy ly]) from HT.out)
        clear hC1 hpx HT HNo
        go_wp2_with fail
        refine HC.out.mono ?_
        rintro e w3 ⟨A3, cap3, rfl, hle3, hx3, hb3⟩
        simp only [Ex.hd, Ex.kids] at hle3 hx3 ⊢
        have hbx := ba w3 (xbox hy A3 ly.length cap3)
        have hs3 : w.heap.size ≤ w3.heap.size := by have := hb3.size; rw [World.size_alloc] at this; omega
        have H3 := Lib.hid ((HW1.out.below hb3).below hbx)
        have HX3 := Lib.hid (show XsB (Ot w.heap.size (w3.alloc (xbox hy A3 ly.length cap3)) (.slice AS k capS)) (w3.alloc (xbox hy A3 ly.length cap3)) ly A3 from
          XsB.go (fun j hj => hbx.block j hj.2) (fun j hj => ⟨by have := hj.1; rw [World.size_alloc] at this; omega, by rw [World.size_alloc]; have := hj.2; omega, fun e => by
            obtain ⟨q0, hq0⟩ := HW.out.row
            have := (hq0.2.lt j e).2
            have h2 := hj.1; rw [World.size_alloc] at h2; omega⟩) _ _ hx3)
        have HXt := Lib.hid (MapKept.heap_alloc w3 (xbox hy A3 ly.length cap3)).1
        have HLE3 := Lib.hid hle3
        have HS3 := Lib.hid hs3
        clear hb3 hbx hx3 hle3 hs3 c0 c1 c2 c3 c4 c5 c6 c7 x0 x1 x2 x3 x4 x5 x6 x7 HC HXb
        go_upto_region 6 with fail
        generalize hW4 : w3.alloc (.cells #[.int .i64 hy.k, .int .i64 hy.n, .int .i64 hy.vk, .int .i64 hy.vn, .string hy.vs, .string hy.tab, .string hy.col, .slice A3 ly.length cap3] 35) = W4 at H3 HX3 HXt ⊢
        generalize hu9 : w3.heap.size = p9 at HXt HS3 ⊢
        clear hW4 hu9
        obtain ⟨⟨y0, y1, y2, y3, y4, y5, y6, y7⟩, _⟩ := cell8 HXt.out
        obtain ⟨q, hq⟩ := H3.out.row
        have hq2 := hq.2
        rw [hkl] at hq2
        have HQ2 := Lib.hid hq2
        have HH3 := Lib.hid (show ∀ o v' w', w'.ownsRow w.heap.size 35 8 v' (k + 1) (xcells q ++ xcell (hy, A3, ly.length, cap3)) → (W4.alloc o).grownBy w' (Value.ownBlock (.slice AS k capS)) →
            (v'.ownBlock = Value.ownBlock (.slice AS k capS) ∨ v'.ownBlock = some (W4.heap.size + 1)) → Xown w.heap.size w w' v' (la ++ [.mk hy ly]) from fun o v' w' ho hg hat =>
          H3.out.grow hq (e := .mk hy ly) (x := (hy, A3, ly.length, cap3)) ⟨rfl, rfl, HLE3.out, HX3.out⟩ (by rw [hkl]; exact ho) hg (by rw [World.size_alloc]; exact hat))
        have HLE := Lib.hid H3.out.le
        clear hq2 hq
        go_wp2_with (at_builtin; refine wpList_append_own_at _ rfl _ _ 33 rfl w.heap.size 35 i0 _ 8 104 Tryz.underlying33 hi hz0 hz1 hz2 rfl (by decide) _ _ _ rfl (HQ2.out.alloc _) ⟨W4.heap.size, 0, none⟩ 1 1 (xcell (hy, A3, ly.length, cap3)) rfl rfl (xnews _ _ _) (xcell_one _) ?c3 ?c4 ?c5 ?_)
        case c3 => unfold maxLen; omega
        case c4 => omega
        case c5 => have := HLE.out; simp; omega
        intro v' w4 hown' hg4 _ hat
        have HG := Lib.hid (HH3.out _ _ _ hown' hg4 hat)
        clear hown' hg4 hat
        go_wp2_with fail
        go_roundw
        case rel => exact ⟨k + 1, _, by omega, by go_num, HT2, HG⟩
        case measure => simp [intOf]; omega
    · obtain rfl : k = l.length := by omega
      have hP := HP.out
      rw [List.take_length] at hP
      obtain rfl : F = some la := HF.out.symm.trans hP
      obtain ⟨A2, cap2, hv2, hle2, hx2⟩ := HW.out.xsB
      rw [hkl] at hv2 hle2
      have HE := Lib.hid hx2
      have HB := Lib.hid HW.out.bel
      obtain ⟨rfl, _, rfl⟩ := Value.slice.inj hv2
      have HKL := Lib.hid hkl
      clear hx2 hv2 hP
      go_wp2_with fail
      refine bodyPost_ret (v := .tuple #[.slice AS l.length capS, .nilIface]) (by simp [results, Tryz.results64, go_sem]) rfl ⟨AS, capS, by rw [HKL.out], by rw [HKL.out]; exact hle2, HE.out, HB.out⟩
end Go.Proofs.YtofhaokaldpmaaaGreatDoor
end
section
namespace Go.Proofs.YtofhaokaldpmaaaGreatDoor.Lx
abbrev B := List UInt8

def blank (c : UInt8) : Bool := decide (c = 32 ∨ c = 9 ∨ c = 10 ∨ c = 13)
def letter (c : UInt8) : Bool := decide (c = 95 ∨ (97 ≤ c.toNat ∧ c.toNat ≤ 122) ∨ (65 ≤ c.toNat ∧ c.toNat ≤ 90))
def digit (c : UInt8) : Bool := decide (48 ≤ c.toNat ∧ c.toNat ≤ 57)
def wordy (c : UInt8) : Bool := letter c || digit c

/-- Where blanks and remarks end; true: within a remark. -/
def sk : Bool → B → Nat
  | _, [] => 0
  | true, c :: r => if c = 10 then sk false r + 1 else sk true r + 1
  | false, c :: r => if blank c then sk false r + 1 else if c = 45 ∧ r.head? = some 45 then sk true r + 1 else 0

structure Tok where
  k : Nat
  s : B
  n : Nat
  deriving DecidableEq

def keys : List B := ["ALL", "AND", "ANTI", "AS", "BY", "COUNT", "DESC", "DISTINCT", "FALSE", "FROM", "GROUP", "IS", "JOIN", "LEFT", "LIMIT", "MAX", "MIN", "NOT", "NULL", "ON", "OR", "ORDER", "SELECT", "SEMI", "SUM", "TRUE", "UNION", "WHERE"].map fun s => s.toUTF8.data.toList
def signs : List B := [[60, 61], [62, 61], [60, 62], [40], [41], [44], [46], [42], [43], [45], [47], [37], [61], [60], [62]]
def key (w : B) : Bool := keys.contains w
def val (w : B) : Nat := w.foldl (fun n c => 10 * n + (c.toNat - 48)) 0

def cutWord (l : B) : Option (Tok × Nat) :=
  let w := l.takeWhile wordy
  if 24 < w.length then none else some (⟨if key w then 2 else 1, w, 0⟩, w.length)
def cutNum (l : B) : Option (Tok × Nat) :=
  let w := l.takeWhile digit
  if ((l.drop w.length).head?.any letter) = true then none else if 9007199254740991 < val w then none else some (⟨3, w, val w⟩, w.length)
/-- What a text says from a place on, and what is left; true: a quote has just been read. -/
def txq : Bool → B → B → Option (B × B)
  | true, [], s => some (s, [])
  | true, c :: r, s => if c = 39 then txq false r (s ++ [39]) else some (s, c :: r)
  | false, [], _ => none
  | false, c :: r, s => if 64 < s.length then none else if c = 39 then txq true r s else txq false r (s ++ [c])
def cutText (l : B) : Option (Tok × Nat) := (txq false (l.drop 1) []).map fun x => (⟨4, x.1, 0⟩, l.length - x.2.length)
def cutSign (l : B) : Option (Tok × Nat) := (signs.find? (·.isPrefixOf l)).map fun w => (⟨5, w, 0⟩, w.length)
def cut (l : B) : Option (Tok × Nat) :=
  match l with
  | [] => some (⟨6, [], 0⟩, 0)
  | c :: r => if letter c then cutWord (c :: r) else if digit c then cutNum (c :: r) else if c = 39 then cutText (c :: r) else cutSign (c :: r)

def dbl (s : B) : B := s.flatMap fun c => if c = 39 then [39, 39] else [c]
/-- A token's text. -/
inductive TokOf : B → Tok → Prop
  | word {w : B} {c : UInt8} {r : B} : w = c :: r → letter c = true → (∀ x ∈ w, wordy x = true) → w.length ≤ 24 → TokOf w ⟨if key w then 2 else 1, w, 0⟩
  | num {w : B} {c : UInt8} {r : B} : w = c :: r → (∀ x ∈ w, digit x = true) → val w ≤ 9007199254740991 → TokOf w ⟨3, w, val w⟩
  | text {s : B} : s.length ≤ 64 → TokOf (39 :: (dbl s ++ [39])) ⟨4, s, 0⟩
  | sign {w : B} : w ∈ signs → TokOf w ⟨5, w, 0⟩
/-- What may follow a token's text. -/
def Foll (w : B) (o : Option UInt8) : Prop :=
  ∀ x, o = some x → ((∃ c r, w = c :: r ∧ wordy c = true) → wordy x = false) ∧ ((∃ r, w = 39 :: r) → x ≠ 39) ∧ (w = [60] → x ≠ 61 ∧ x ≠ 62) ∧ (w = [62] → x ≠ 61)

def show1 (t : Tok) : B := if t.k = 4 then 39 :: (dbl t.s ++ [39]) else if t.k = 6 then [] else t.s

theorem foll_blank {w : B} {x : UInt8} (h : x = 10 ∨ x = 32) : Foll w (some x) := by
  intro y hy
  obtain rfl : x = y := by simpa using hy
  rcases h with rfl | rfl <;> exact ⟨fun _ => by decide, fun _ => by decide, fun _ => by decide, fun _ => by decide⟩

theorem show_tok {w : B} {t : Tok} (h : TokOf w t) : show1 t = w := by
  cases h with
  | word hw hl ha hn => simp only [show1]; split <;> rfl
  | num hw ha hn => rfl
  | text hs => rfl
  | sign hs => rfl

theorem digit_letter {c : UInt8} (h : digit c = true) : letter c = false := by
  simp only [digit, letter, decide_eq_true_eq, decide_eq_false_iff_not] at *
  rintro (rfl | h' | h')
  · simp at h
  · omega
  · omega

theorem sign_head {w : B} (h : w ∈ signs) : ∃ c r, w = c :: r ∧ letter c = false ∧ digit c = false ∧ c ≠ 39 ∧ blank c = false := by
  simp only [signs, List.mem_cons, List.mem_nil_iff, or_false] at h
  rcases h with rfl | rfl | rfl | rfl | rfl | rfl | rfl | rfl | rfl | rfl | rfl | rfl | rfl | rfl | rfl <;> exact ⟨_, _, rfl, by decide, by decide, by decide, by decide⟩

theorem wordy_nblank {c : UInt8} (h : wordy c = true) : blank c = false ∧ c ≠ 45 := by
  simp only [wordy, letter, digit, blank, Bool.or_eq_true, decide_eq_true_eq, decide_eq_false_iff_not] at *
  constructor
  · rintro (rfl | rfl | rfl | rfl) <;> simp at h
  · rintro rfl; simp at h

theorem takeWhile_all {p : UInt8 → Bool} {w r : B} (ha : ∀ x ∈ w, p x = true) (hr : ∀ x, r.head? = some x → p x = false) : (w ++ r).takeWhile p = w := by
  induction w with
  | nil =>
    cases r with
    | nil => rfl
    | cons c r => simp [hr c rfl]
  | cons c w ih => simp [ha c (by simp), ih fun x hx => ha x (by simp [hx])]

theorem takeWhile_take (p : UInt8 → Bool) (l : B) : l.take (l.takeWhile p).length = l.takeWhile p := by
  induction l with
  | nil => rfl
  | cons c l ih => by_cases h : p c = true <;> simp [h, ih]
theorem takeWhile_next (p : UInt8 → Bool) (l : B) (x : UInt8) (h : (l.drop (l.takeWhile p).length).head? = some x) : p x = false := by
  induction l with
  | nil => simp at h
  | cons c l ih =>
    by_cases hc : p c = true
    · simp only [List.takeWhile_cons, hc, if_true, List.length_cons, List.drop_succ_cons] at h; exact ih h
    · simp only [List.takeWhile_cons, hc, Bool.false_eq_true, if_false, List.length_nil, List.drop_zero, List.head?_cons, Option.some.injEq] at h
      subst h; simpa using hc
theorem takeWhile_mem (p : UInt8 → Bool) (l : B) : ∀ x ∈ l.takeWhile p, p x = true := by
  induction l with
  | nil => simp
  | cons c l ih =>
    by_cases hc : p c = true
    · simp only [List.takeWhile_cons, hc, if_true, List.mem_cons]; rintro x (rfl | hx); exact hc; exact ih x hx
    · simp [hc]
theorem takeWhile_le (p : UInt8 → Bool) (l : B) : (l.takeWhile p).length ≤ l.length := by
  induction l with
  | nil => simp
  | cons c l ih =>
    by_cases hc : p c = true
    · simp only [List.takeWhile_cons, hc, if_true, List.length_cons]; omega
    · simp [hc]

/-! The texts of texts -/
theorem txq_done (body s left : B) (h : (s ++ body).length ≤ 64) (hl : left.head? ≠ some 39) : txq false (dbl body ++ 39 :: left) s = some (s ++ body, left) := by
  induction body generalizing s with
  | nil =>
    simp only [dbl, List.flatMap_nil, List.nil_append, List.append_nil] at *
    rw [txq, if_neg (by omega), if_pos rfl]
    cases left with
    | nil => rfl
    | cons c l => rw [txq, if_neg (by simpa using hl)]
  | cons c b ih =>
    have hn : ¬ 64 < s.length := by simp only [List.length_append, List.length_cons] at h; omega
    by_cases hc : c = 39
    · subst hc
      simp only [dbl, List.flatMap_cons, if_true, List.cons_append, List.nil_append] at *
      rw [txq, if_neg hn, if_pos rfl, txq, if_pos rfl, ih (s ++ [39]) (by simpa using h)]
      simp
    · simp only [dbl, List.flatMap_cons, if_neg hc, List.cons_append, List.nil_append] at *
      rw [txq, if_neg hn, if_neg hc, ih (s ++ [c]) (by simpa using h)]
      simp

theorem txq_inv : ∀ (l : B) (q : Bool) (s S left : B), (q = true → s.length ≤ 64) → txq q l s = some (S, left) →
    left.head? ≠ some 39 ∧ S.length ≤ 64 ∧ (q = false → ∃ body, S = s ++ body ∧ l = dbl body ++ 39 :: left) ∧ (q = true → (S = s ∧ left = l) ∨ ∃ body r, l = 39 :: r ∧ S = s ++ 39 :: body ∧ r = dbl body ++ 39 :: left)
  | [], true, s, S, left, hq, h => by
    simp only [txq, Option.some.injEq, Prod.mk.injEq] at h
    obtain ⟨rfl, rfl⟩ := h
    exact ⟨by simp, hq rfl, by simp, fun _ => .inl ⟨rfl, rfl⟩⟩
  | c :: r, true, s, S, left, hq, h => by
    rw [txq] at h
    by_cases hc : c = 39
    · rw [if_pos hc] at h
      obtain ⟨h1, h2, h3, _⟩ := txq_inv r false _ S left (by simp) h
      obtain ⟨body, e1, e2⟩ := h3 rfl
      exact ⟨h1, h2, by simp, fun _ => .inr ⟨body, r, by rw [hc], by simpa using e1, e2⟩⟩
    · rw [if_neg hc] at h
      simp only [Option.some.injEq, Prod.mk.injEq] at h
      obtain ⟨rfl, rfl⟩ := h
      exact ⟨by simpa using hc, hq rfl, by simp, fun _ => .inl ⟨rfl, rfl⟩⟩
  | [], false, s, S, left, hq, h => by simp [txq] at h
  | c :: r, false, s, S, left, hq, h => by
    rw [txq] at h
    by_cases hn : 64 < s.length
    · rw [if_pos hn] at h; cases h
    rw [if_neg hn] at h
    by_cases hc : c = 39
    · rw [if_pos hc] at h
      obtain ⟨h1, h2, _, h4⟩ := txq_inv r true s S left (fun _ => by omega) h
      refine ⟨h1, h2, fun _ => ?_, by simp⟩
      rcases h4 rfl with ⟨rfl, rfl⟩ | ⟨body, r', rfl, rfl, rfl⟩
      · exact ⟨[], by simp, by simp [dbl, hc]⟩
      · exact ⟨39 :: body, rfl, by simp [dbl, hc]⟩
    · rw [if_neg hc] at h
      obtain ⟨h1, h2, h3, _⟩ := txq_inv r false (s ++ [c]) S left (by simp) h
      obtain ⟨body, rfl, rfl⟩ := h3 rfl
      exact ⟨h1, h2, fun _ => ⟨c :: body, by simp, by simp [dbl, hc]⟩, by simp⟩

/-! A cut, both ways -/
theorem cut_of {w r : B} {t : Tok} (h : TokOf w t) (hf : Foll w r.head?) : cut (w ++ r) = some (t, w.length) := by
  cases h with
  | @word w c r' hw hl ha hn =>
    have hx : (w ++ r).takeWhile wordy = w := takeWhile_all ha fun x hx => (hf x hx).1 ⟨c, r', hw, ha c (by simp [hw])⟩
    have : cut (w ++ r) = cutWord (w ++ r) := by rw [hw]; simp [cut, hl]
    rw [this, cutWord, hx]
    rw [if_neg (by omega)]
  | @num w c r' hw ha hn =>
    have hwy : wordy c = true := by simp [wordy, ha c (by simp [hw])]
    have hnx : ∀ x, r.head? = some x → wordy x = false := fun x hx => (hf x hx).1 ⟨c, r', hw, hwy⟩
    have hx : (w ++ r).takeWhile digit = w := takeWhile_all ha fun x hx => by have := hnx x hx; simp only [wordy, Bool.or_eq_false_iff] at this; exact this.2
    have hl : letter c = false := digit_letter (ha c (by simp [hw]))
    have : cut (w ++ r) = cutNum (w ++ r) := by rw [hw]; simp [cut, hl, ha c (by simp [hw])]
    rw [this, cutNum, hx]
    simp only [List.drop_left]
    rw [if_neg (by
      intro h
      cases hr : r.head? with
      | none => simp [hr] at h
      | some x => have := hnx x hr; simp only [hr, Option.any_some] at h; simp [wordy, h] at this), if_neg (by omega)]
  | @text s hs =>
    have : cut (39 :: (dbl s ++ [39]) ++ r) = cutText (39 :: (dbl s ++ [39]) ++ r) := by
      rw [List.cons_append, cut, if_neg (by decide), if_neg (by decide), if_pos rfl]
    rw [this, cutText]
    have hq : txq false (dbl s ++ 39 :: r) [] = some ([] ++ s, r) := txq_done s [] r (by simpa using hs) (by
      intro hh
      exact (hf 39 hh).2.1 ⟨_, rfl⟩ rfl)
    simp only [List.cons_append, List.drop_succ_cons, List.drop_zero, List.append_assoc, List.nil_append] at hq ⊢
    rw [hq]
    simp
    omega
  | @sign w hs =>
    obtain ⟨c, r', hw, h1, h2, h3, h4⟩ := sign_head hs
    have : cut (w ++ r) = cutSign (w ++ r) := by rw [hw]; simp [cut, h1, h2, h3]
    rw [this]
    clear this h1 h2 h3 h4 hw
    simp only [signs, List.mem_cons, List.mem_nil_iff, or_false] at hs
    cases r with
    | nil => rcases hs with rfl | rfl | rfl | rfl | rfl | rfl | rfl | rfl | rfl | rfl | rfl | rfl | rfl | rfl | rfl <;> rfl
    | cons x r =>
      have hf := hf x rfl
      rcases hs with rfl | rfl | rfl | rfl | rfl | rfl | rfl | rfl | rfl | rfl | rfl | rfl | rfl | rfl | rfl
      case inr.inr.inr.inr.inr.inr.inr.inr.inr.inr.inr.inr.inr.inl =>
        have := hf.2.2.1 rfl
        simp [cutSign, signs, List.isPrefixOf, Ne.symm this.1, Ne.symm this.2]
      case inr.inr.inr.inr.inr.inr.inr.inr.inr.inr.inr.inr.inr.inr =>
        have := hf.2.2.2 rfl
        simp [cutSign, signs, List.isPrefixOf, Ne.symm this]
      all_goals simp [cutSign, signs, List.isPrefixOf]

theorem cut_inv {l : B} {t : Tok} {n : Nat} (hl : l ≠ []) (h : cut l = some (t, n)) : n ≤ l.length ∧ TokOf (l.take n) t ∧ Foll (l.take n) (l.drop n).head? := by
  cases l with
  | nil => exact absurd rfl hl
  | cons c r =>
    rw [cut] at h
    by_cases h1 : letter c = true
    · rw [if_pos h1, cutWord] at h
      by_cases h2 : 24 < ((c :: r).takeWhile wordy).length
      · rw [if_pos h2] at h; cases h
      rw [if_neg h2] at h
      simp only [Option.some.injEq, Prod.mk.injEq] at h
      obtain ⟨rfl, rfl⟩ := h
      have hc : wordy c = true := by simp [wordy, h1]
      refine ⟨takeWhile_le _ _, ?_, ?_⟩
      · rw [takeWhile_take]
        exact .word (c := c) (r := r.takeWhile wordy) (by simp [hc]) h1 (takeWhile_mem _ _) (by omega)
      · intro x hx
        have hx' := takeWhile_next _ _ _ hx
        have e : (c :: r).takeWhile wordy = c :: r.takeWhile wordy := by simp [hc]
        rw [takeWhile_take, e]
        refine ⟨fun _ => hx', ?_, ?_, ?_⟩
        · rintro ⟨r', h'⟩; obtain rfl : c = 39 := by simp at h'; exact h'.1
          simp [letter] at h1
        · intro h'; obtain rfl : c = 60 := by simp at h'; exact h'.1
          simp [letter] at h1
        · intro h'; obtain rfl : c = 62 := by simp at h'; exact h'.1
          simp [letter] at h1
    rw [if_neg h1] at h
    by_cases h2 : digit c = true
    · rw [if_pos h2, cutNum] at h
      split at h
      · cases h
      rename_i h3
      split at h
      · cases h
      rename_i h4
      simp only [Option.some.injEq, Prod.mk.injEq] at h
      obtain ⟨rfl, rfl⟩ := h
      have e : (c :: r).takeWhile digit = c :: r.takeWhile digit := by simp [h2]
      refine ⟨takeWhile_le _ _, ?_, ?_⟩
      · rw [takeWhile_take]
        exact .num (c := c) (r := r.takeWhile digit) e (takeWhile_mem _ _) (by omega)
      · intro x hx
        have hx' := takeWhile_next _ _ _ hx
        rw [takeWhile_take, e]
        rw [hx] at h3
        refine ⟨fun _ => by simp only [Option.any_some, Bool.not_eq_true] at h3; simp [wordy, h3, hx'], ?_, ?_, ?_⟩
        · rintro ⟨r', h'⟩; obtain rfl : c = 39 := by simp at h'; exact h'.1
          simp [digit] at h2
        · intro h'; obtain rfl : c = 60 := by simp at h'; exact h'.1
          simp [digit] at h2
        · intro h'; obtain rfl : c = 62 := by simp at h'; exact h'.1
          simp [digit] at h2
    rw [if_neg h2] at h
    by_cases h3 : c = 39
    · subst h3
      rw [if_pos rfl, cutText] at h
      simp only [List.drop_succ_cons, List.drop_zero, Option.map_eq_some_iff] at h
      obtain ⟨⟨S, left⟩, hq, he⟩ := h
      simp only [Prod.mk.injEq] at he
      obtain ⟨rfl, rfl⟩ := he
      obtain ⟨q1, q2, q3, _⟩ := txq_inv r false [] S left (by simp) hq
      obtain ⟨body, hb, hr⟩ := q3 rfl
      rw [show body = S by simpa using hb.symm] at hr
      subst hr
      have e1 : (39 :: (dbl S ++ 39 :: left)).length - left.length = (39 :: (dbl S ++ [39])).length := by simp only [List.length_cons, List.length_append, List.length_nil]; omega
      have e2 : (39 :: (dbl S ++ 39 :: left)) = (39 :: (dbl S ++ [39])) ++ left := by simp
      rw [e1, e2, List.take_left, List.drop_left]
      refine ⟨by simp only [List.length_append]; omega, .text q2, ?_⟩
      intro x hx
      refine ⟨?_, fun _ => ?_, ?_, ?_⟩
      · rintro ⟨c, r, h', hw⟩
        obtain rfl : 39 = c := by simp at h'; exact h'.1
        exact absurd hw (by decide)
      · rintro rfl; exact q1 hx
      · intro h'; simp at h'
      · intro h'; simp at h'
    · rw [if_neg h3, cutSign] at h
      simp only [Option.map_eq_some_iff, Prod.mk.injEq] at h
      obtain ⟨w, hfd, rfl, rfl⟩ := h
      have hp := List.find?_some hfd
      have hm := List.mem_of_find?_eq_some hfd
      obtain ⟨left, hl'⟩ := List.isPrefixOf_iff_prefix.1 hp
      rw [← hl', List.take_left, List.drop_left]
      rw [← hl'] at hfd
      refine ⟨by simp, .sign hm, ?_⟩
      intro x hx
      obtain ⟨c', r', hw, g1, g2, g3, g4⟩ := sign_head hm
      refine ⟨?_, ?_, ?_, ?_⟩
      · rintro ⟨c, r, h', hw'⟩
        rw [hw] at h'
        obtain rfl : c' = c := by simp at h'; exact h'.1
        simp [wordy, g1, g2] at hw'
      · rintro ⟨r, h'⟩
        rw [hw] at h'
        obtain rfl : c' = 39 := by simp at h'; exact h'.1
        exact absurd rfl g3
      · rintro rfl
        cases left with
        | nil => simp at hx
        | cons y left =>
          obtain rfl : y = x := by simpa using hx
          constructor <;> (rintro rfl; simp [signs, List.isPrefixOf] at hfd)
      · rintro rfl
        cases left with
        | nil => simp at hx
        | cons y left =>
          obtain rfl : y = x := by simpa using hx
          rintro rfl; simp [signs, List.isPrefixOf] at hfd

end Go.Proofs.YtofhaokaldpmaaaGreatDoor.Lx
end
section
namespace Go.Proofs.YtofhaokaldpmaaaGreatDoor.Lx

theorem sk_le : ∀ (q : Bool) (l : B), sk q l ≤ l.length
  | true, [] => by simp [sk]
  | false, [] => by simp [sk]
  | true, c :: r => by
    have h1 := sk_le true r
    have h2 := sk_le false r
    rw [sk]; split <;> simp only [List.length_cons] <;> omega
  | false, c :: r => by
    have h1 := sk_le true r
    have h2 := sk_le false r
    rw [sk]; split
    · simp only [List.length_cons]; omega
    · split <;> simp only [List.length_cons] <;> omega

theorem sk_join (t : B) : ∀ (q : Bool) (l : B), sk q l = l.length → sk q (l ++ 10 :: t) = l.length + 1 + sk false t
  | true, [], _ => by simp only [List.nil_append, sk, if_true, List.length_nil]; omega
  | false, [], _ => by
    simp only [List.nil_append, List.length_nil]
    rw [sk, if_pos (by decide)]; omega
  | true, c :: r, h => by
    rw [List.cons_append, sk]
    rw [sk] at h
    split at h
    · rename_i hc
      rw [if_pos hc, sk_join t false r (by simpa using h)]; simp only [List.length_cons]; omega
    · rename_i hc
      rw [if_neg hc, sk_join t true r (by simpa using h)]; simp only [List.length_cons]; omega
  | false, c :: r, h => by
    rw [List.cons_append, sk]
    rw [sk] at h
    split at h
    · rename_i hc
      rw [if_pos hc, sk_join t false r (by simpa using h)]; simp only [List.length_cons]; omega
    · rename_i hc
      rw [if_neg hc]
      split at h
      · rename_i hd
        rw [if_pos ⟨hd.1, by cases r with | nil => simp at hd | cons x r => simpa using hd.2⟩, sk_join t true r (by simpa using h)]; simp only [List.length_cons]; omega
      · simp at h

theorem sk_stop (t : B) : ∀ (q : Bool) (l : B), sk q l < l.length → sk q (l ++ 10 :: t) = sk q l
  | true, [], h => by simp at h
  | false, [], h => by simp at h
  | true, c :: r, h => by
    rw [sk] at h
    rw [List.cons_append, sk, sk]
    split at h
    · rename_i hc
      rw [if_pos hc, if_pos hc, sk_stop t false r (by simpa using h)]
    · rename_i hc
      rw [if_neg hc, if_neg hc, sk_stop t true r (by simpa using h)]
  | false, c :: r, h => by
    rw [sk] at h
    rw [List.cons_append, sk, sk]
    split at h
    · rename_i hc
      rw [if_pos hc, if_pos hc, sk_stop t false r (by simpa using h)]
    · rename_i hc
      rw [if_neg hc, if_neg hc]
      have hh : (c = 45 ∧ (r ++ 10 :: t).head? = some 45) ↔ (c = 45 ∧ r.head? = some 45) := by
        cases r with
        | nil => simp
        | cons x r => simp
      split at h
      · rename_i hd
        rw [if_pos (hh.2 hd), if_pos hd, sk_stop t true r (by simpa using h)]
      · rename_i hd
        rw [if_neg (fun x => hd (hh.1 x)), if_neg hd]

theorem tok_ne {w : B} {t : Tok} (h : TokOf w t) : ∃ c r, w = c :: r ∧ blank c = false ∧ (c = 45 → w = [45]) := by
  cases h with
  | @word _ c r hw hl ha hn =>
    have := wordy_nblank (ha c (by simp [hw]))
    exact ⟨c, r, hw, this.1, fun e => absurd e this.2⟩
  | @num _ c r hw ha hn =>
    have := wordy_nblank (c := c) (by simp [wordy, ha c (by simp [hw])])
    exact ⟨c, r, hw, this.1, fun e => absurd e this.2⟩
  | text hs => exact ⟨39, _, rfl, by decide, fun e => by simp at e⟩
  | sign hs =>
    obtain ⟨c, r, hw, _, _, _, h4⟩ := sign_head hs
    refine ⟨c, r, hw, h4, ?_⟩
    rintro rfl
    simp only [signs, List.mem_cons, List.mem_nil_iff, or_false] at hs
    rcases hs with rfl | rfl | rfl | rfl | rfl | rfl | rfl | rfl | rfl | rfl | rfl | rfl | rfl | rfl | rfl <;> simp at hw ⊢

theorem sk_tok {w r : B} {t : Tok} (h : TokOf w t) : sk false (w ++ 32 :: r) = 0 := by
  obtain ⟨c, w', rfl, hb, hc⟩ := tok_ne h
  rw [List.cons_append, sk, if_neg (by simp [hb]), if_neg]
  rintro ⟨rfl, hd⟩
  obtain rfl : w' = [] := by simpa using hc rfl
  simp at hd

theorem tok_k {w : B} {t : Tok} (h : TokOf w t) : t.k ≠ 6 ∧ t.k ≠ 0 := by
  cases h with
  | word => simp only; split <;> decide
  | num => exact ⟨by simp, by simp⟩
  | text => exact ⟨by simp, by simp⟩
  | sign => exact ⟨by simp, by simp⟩

inductive Toks : B → Nat → List (Tok × Nat) → Nat → Prop
  | fin {l : B} {a : Nat} : sk false l = l.length → Toks l a [(⟨6, [], 0⟩, a + l.length)] (a + l.length)
  | tok {l w r : B} {a : Nat} {t : Tok} {ts : List (Tok × Nat)} {n : Nat} : l.drop (sk false l) = w ++ r → TokOf w t → Foll w r.head? → Toks r (a + sk false l + w.length) ts n → Toks l a ((t, a + sk false l) :: ts) n

inductive Res
  | ok (ts : List (Tok × Nat)) (n : Nat)
  | bad (n e : Nat)

def lx : Nat → B → Nat → Nat → Res
  | 0, _, _, a => .bad a 0
  | f + 1, l, c, a =>
    match cut (l.drop (sk false l)) with
    | none => .bad (a + sk false l) 90
    | some (t, z) =>
      if c = 4096 then .bad (a + sk false l) 3 else if t.k = 6 then .ok [(t, a + sk false l)] (a + sk false l) else
        match lx f ((l.drop (sk false l)).drop z) (c + 1) (a + sk false l + z) with
        | .ok ts n => .ok ((t, a + sk false l) :: ts) n
        | .bad n e => .bad n e

theorem toks_of : ∀ (f : Nat) (l : B) (c a : Nat) (ts : List (Tok × Nat)) (n : Nat), c ≤ 4096 → lx f l c a = .ok ts n → Toks l a ts n ∧ c + ts.length ≤ 4096
  | 0, l, c, a, ts, n, _, h => by simp [lx] at h
  | f + 1, l, c, a, ts, n, hc, h => by
    rw [lx] at h
    split at h
    · cases h
    rename_i t z hcut
    split at h
    · cases h
    rename_i hc'
    by_cases hn : l.drop (sk false l) = []
    · rw [hn, cut] at hcut
      simp only [Option.some.injEq, Prod.mk.injEq] at hcut
      obtain ⟨rfl, rfl⟩ := hcut
      rw [if_pos rfl] at h
      simp only [Res.ok.injEq] at h
      obtain ⟨rfl, rfl⟩ := h
      have h1 := sk_le false l
      have h2 : sk false l = l.length := by have := List.drop_eq_nil_iff.1 hn; omega
      rw [h2]
      exact ⟨.fin h2, by simp only [List.length_cons, List.length_nil]; omega⟩
    · obtain ⟨h1, h2, h3⟩ := cut_inv hn hcut
      rw [if_neg (tok_k h2).1] at h
      split at h
      · rename_i ts' n' hx
        simp only [Res.ok.injEq] at h
        obtain ⟨rfl, rfl⟩ := h
        obtain ⟨i1, i2⟩ := toks_of f _ _ _ _ _ (by omega) hx
        refine ⟨.tok (w := (l.drop (sk false l)).take z) (r := (l.drop (sk false l)).drop z) (List.take_append_drop _ _).symm h2 h3 ?_, by simp only [List.length_cons]; omega⟩
        rw [List.length_take, Nat.min_eq_left h1]
        exact i1
      · cases h

theorem toks_lx {l : B} {a : Nat} {ts : List (Tok × Nat)} {n : Nat} (h : Toks l a ts n) : ∀ (f c : Nat), c + ts.length ≤ 4096 → l.length < f → lx f l c a = .ok ts n := by
  induction h with
  | @fin l a hs =>
    intro f c hc hf
    obtain ⟨f, rfl⟩ : ∃ g, f = g + 1 := ⟨f - 1, by omega⟩
    simp only [List.length_cons, List.length_nil] at hc
    rw [lx, hs, List.drop_length, cut]
    simp only
    rw [if_neg (by omega), if_pos trivial]
  | @tok l w r a t ts n hd ht hf hr ih =>
    intro f c hc hl
    obtain ⟨f, rfl⟩ : ∃ g, f = g + 1 := ⟨f - 1, by omega⟩
    simp only [List.length_cons] at hc
    rw [lx, hd, cut_of ht hf]
    simp only
    rw [if_neg (by omega), if_neg (tok_k ht).1, List.drop_left]
    have hlen : (w ++ r).length ≤ l.length := by rw [← hd, List.length_drop]; omega
    obtain ⟨x, w', hw, _, _⟩ := tok_ne ht
    have hw0 : 0 < w.length := by rw [hw]; simp
    rw [List.length_append] at hlen
    rw [ih f (c + 1) (by omega) (by omega)]

theorem Toks.shift {l : B} {a : Nat} {ts : List (Tok × Nat)} {n : Nat} (h : Toks l a ts n) (d : Nat) : Toks l (a + d) (ts.map fun x => (x.1, x.2 + d)) (n + d) := by
  induction h with
  | @fin l a hs =>
    have := Toks.fin (a := a + d) hs
    rw [show a + d + l.length = a + l.length + d by omega] at this
    exact this
  | @tok l w r a t ts n hd ht hf hr ih =>
    rw [show a + sk false l + w.length + d = a + d + sk false l + w.length by omega] at ih
    have := Toks.tok hd ht hf ih
    rw [show a + d + sk false l = a + sk false l + d by omega] at this
    exact this

theorem Toks.ne {l : B} {a : Nat} {ts : List (Tok × Nat)} {n : Nat} (h : Toks l a ts n) : ts ≠ [] := by cases h <;> simp

/-- More that is skipped before a text. -/
theorem Toks.skip {l l' : B} {a k : Nat} {ts : List (Tok × Nat)} {n : Nat} (h : Toks l (a + k) ts n) (hs : sk false l' = k + sk false l) (hd : l'.drop k = l) (hl : l'.length = k + l.length) : Toks l' a ts n := by
  cases h with
  | fin h =>
    have := Toks.fin (l := l') (a := a) (by omega)
    rw [hl, ← Nat.add_assoc] at this
    exact this
  | tok hd' ht hf hr =>
    rw [Nat.add_assoc, ← hs]
    refine .tok ?_ ht hf (by rw [hs, ← Nat.add_assoc]; exact hr)
    rw [hs, ← List.drop_drop, hd, hd']

theorem Toks.join {l : B} {a : Nat} {ts : List (Tok × Nat)} {n : Nat} (h : Toks l a ts n) {t : B} {us : List (Tok × Nat)} {m : Nat} (g : Toks t 0 us m) :
    Toks (l ++ 10 :: t) a (ts.dropLast ++ us.map fun x => (x.1, x.2 + (n + 1))) (n + 1 + m) := by
  induction h with
  | @fin l a hs =>
    have := g.shift (a + l.length + 1)
    rw [Nat.zero_add, Nat.add_comm m] at this
    simp only [List.dropLast_singleton, List.nil_append]
    refine Toks.skip (l := t) (k := l.length + 1) this (sk_join t false l hs) ?_ ?_
    · rw [show l ++ 10 :: t = (l ++ [10]) ++ t by simp]
      exact List.drop_left' (by simp)
    · simp only [List.length_append, List.length_cons]; omega
  | @tok l w r a t' ts n hd ht hf hr ih =>
    have hlt : sk false l < l.length := by
      obtain ⟨x, w', hw, _, _⟩ := tok_ne ht
      have := congrArg List.length hd
      rw [List.length_drop, hw] at this
      simp only [List.length_append, List.length_cons] at this
      omega
    have hs := sk_stop t false l hlt
    rw [List.dropLast_cons_of_ne_nil hr.ne, List.cons_append, ← hs]
    refine .tok (w := w) (r := r ++ 10 :: t) ?_ ht ?_ (by rw [hs]; exact ih)
    · rw [hs, List.drop_append_of_le_length (by omega), hd, List.append_assoc]
    · cases r with
      | nil => exact foll_blank (.inl rfl)
      | cons x r => exact hf

/-- Tokens shown: a blank between. -/
def shw : List Tok → B
  | [] => []
  | [t] => show1 t
  | t :: u :: r => show1 t ++ 32 :: shw (u :: r)

theorem Toks.shown {l : B} {a : Nat} {ts : List (Tok × Nat)} {n : Nat} (h : Toks l a ts n) :
    (shw (ts.map (·.1))).length ≤ 2 * l.length ∧ ∀ a', ∃ us m, Toks (shw (ts.map (·.1))) a' us m ∧ us.map (·.1) = ts.map (·.1) := by
  induction h with
  | @fin l a hs =>
    simp only [List.map_cons, List.map_nil, shw, show1]
    refine ⟨by simp, fun a' => ⟨_, _, .fin (l := []) (a := a') (by simp [sk]), by simp⟩⟩
  | @tok l w r a t ts n hd ht hf hr ih =>
    obtain ⟨ih1, ih2⟩ := ih
    obtain ⟨u, us, rfl⟩ : ∃ u us, ts = u :: us := by cases ts with | nil => exact absurd rfl hr.ne | cons u us => exact ⟨u, us, rfl⟩
    have e : shw (((t, a + sk false l) :: u :: us).map (·.1)) = w ++ 32 :: shw ((u :: us).map (·.1)) := by
      simp only [List.map_cons, shw, show_tok ht]
    rw [e]
    have hlen := congrArg List.length hd
    rw [List.length_drop, List.length_append] at hlen
    obtain ⟨x, w', hw, _, _⟩ := tok_ne ht
    have hw0 : 0 < w.length := by rw [hw]; simp
    refine ⟨by simp only [List.length_append, List.length_cons]; omega, fun a' => ?_⟩
    obtain ⟨vs, m, h1, h2⟩ := ih2 (a' + w.length + 1)
    have hs := sk_tok (r := shw ((u :: us).map (·.1))) ht
    refine ⟨(t, a') :: vs, m, ?_, by rw [List.map_cons, List.map_cons, h2]⟩
    have := Toks.tok (l := w ++ 32 :: shw ((u :: us).map (·.1))) (w := w) (r := 32 :: shw ((u :: us).map (·.1))) (a := a') (t := t) (ts := vs) (n := m) (by rw [hs]; rfl) ht (foll_blank (.inr rfl)) (by
      rw [hs]
      refine Toks.skip (k := 1) h1 ?_ rfl (by simp only [List.length_cons]; omega)
      rw [sk, if_pos (by decide)]; omega)
    rw [hs] at this
    exact this

end Go.Proofs.YtofhaokaldpmaaaGreatDoor.Lx
end
section
namespace Go.Proofs.YtofhaokaldpmaaaGreatDoor
open Go.RowKit

theorem ret_b {a b : Bool} (h : a = b) : Ending.returned (.bool a) = .returned (.bool b) := by rw [h]
theorem ret_i {k : IntKind} {a b : Int} (h : a = b) : Ending.returned (.int k a) = .returned (.int k b) := by rw [h]
theorem u8_eq (c : UInt8) (k : Nat) (hk : k < 256) : c = UInt8.ofNat k ↔ c.toNat = k := by
  constructor
  · rintro rfl; simp; omega
  · intro h; apply UInt8.toNat_inj.1; simp; omega

theorem isDigit_any (c : UInt8) (w : World) : Calls Tryz.prog 118 #[.int .u8 c.toNat] w fun e w' => e = .returned (.bool (Lx.digit c)) ∧ w' = w := by
  have h0 := c.toNat_lt
  rw [Lx.digit]
  generalize c.toNat = n at h0 ⊢
  by_cases h1 : 48 ≤ n
  · by_cases h2 : n ≤ 57
    · go_enter Tryz.func118, Tryz.ntmps118; go_wp2_with fail; go_ret; exact ⟨ret_b (by first | rfl | (rw [Bool.eq_iff_iff]; simp; done) | (rw [Bool.eq_iff_iff]; simp; omega)), rfl⟩
    · have HC := Lib.hid (show decide (48 ≤ n ∧ n ≤ 57) = false by simp; omega)
      go_enter Tryz.func118, Tryz.ntmps118; go_wp2_with fail; go_ret; exact ⟨ret_b (by first | rfl | (rw [Bool.eq_iff_iff]; simp; done) | (rw [Bool.eq_iff_iff]; simp; omega)), rfl⟩
  · have HC := Lib.hid (show decide (48 ≤ n ∧ n ≤ 57) = false by simp; omega)
    go_enter Tryz.func118, Tryz.ntmps118; go_wp2_with fail; go_ret; exact ⟨ret_b (by first | rfl | (rw [Bool.eq_iff_iff]; simp; done) | (rw [Bool.eq_iff_iff]; simp; omega)), rfl⟩

theorem isLetter_in (n : Nat) (b : Bool) (h0 : n < 256) (h : decide (n = 95 ∨ (97 ≤ n ∧ n ≤ 122) ∨ (65 ≤ n ∧ n ≤ 90)) = b) (w : World) : Calls Tryz.prog 116 #[.int .u8 n] w fun e w' => e = .returned (.bool b) ∧ w' = w := by
  have HC := Lib.hid h
  clear h
  by_cases h1 : n = 95
  · subst h1
    go_enter Tryz.func116, Tryz.ntmps116; go_wp2_with fail; go_ret; exact ⟨ret_b (by rw [← HC.out]; first | rfl | (rw [Bool.eq_iff_iff]; simp; done) | (rw [Bool.eq_iff_iff]; simp; omega)), rfl⟩
  by_cases h2 : 97 ≤ n
  · by_cases h3 : n ≤ 122
    · go_enter Tryz.func116, Tryz.ntmps116; go_wp2_with fail; go_ret; exact ⟨ret_b (by rw [← HC.out]; first | rfl | (rw [Bool.eq_iff_iff]; simp; done) | (rw [Bool.eq_iff_iff]; simp; omega)), rfl⟩
    · have h4 : 65 ≤ n := by omega
      have h5 : ¬ n ≤ 90 := by omega
      go_enter Tryz.func116, Tryz.ntmps116; go_wp2_with fail; go_ret; exact ⟨ret_b (by rw [← HC.out]; first | rfl | (rw [Bool.eq_iff_iff]; simp; done) | (rw [Bool.eq_iff_iff]; simp; omega)), rfl⟩
  · by_cases h4 : 65 ≤ n
    · by_cases h5 : n ≤ 90
      · go_enter Tryz.func116, Tryz.ntmps116; go_wp2_with fail; go_ret; exact ⟨ret_b (by rw [← HC.out]; first | rfl | (rw [Bool.eq_iff_iff]; simp; done) | (rw [Bool.eq_iff_iff]; simp; omega)), rfl⟩
      · go_enter Tryz.func116, Tryz.ntmps116; go_wp2_with fail; go_ret; exact ⟨ret_b (by rw [← HC.out]; first | rfl | (rw [Bool.eq_iff_iff]; simp; done) | (rw [Bool.eq_iff_iff]; simp; omega)), rfl⟩
    · go_enter Tryz.func116, Tryz.ntmps116; go_wp2_with fail; go_ret; exact ⟨ret_b (by rw [← HC.out]; first | rfl | (rw [Bool.eq_iff_iff]; simp; done) | (rw [Bool.eq_iff_iff]; simp; omega)), rfl⟩
theorem isLetter_any (c : UInt8) (w : World) : Calls Tryz.prog 116 #[.int .u8 c.toNat] w fun e w' => e = .returned (.bool (Lx.letter c)) ∧ w' = w := by
  refine isLetter_in _ _ c.toNat_lt ?_ w
  refine decide_eq_decide.2 ?_
  rw [show (95 : UInt8) = UInt8.ofNat 95 from rfl, u8_eq c _ (by decide)]

def Lx.noEnd (c : UInt8) : Bool := decide (c ≠ 10)
theorem wordy_any (c : UInt8) (w : World) : Calls Tryz.prog 123 #[.int .u8 c.toNat] w fun e w' => e = .returned (.bool (Lx.wordy c)) ∧ w' = w := by
  have h0 := c.toNat_lt
  rw [Lx.wordy]
  by_cases hl : Lx.letter c = true
  · go_enter Tryz.func123, Tryz.ntmps123; go_wp2_with fail
    refine (isLetter_any c _).mono ?_
    rintro e w' ⟨rfl, rfl⟩
    rw [hl]
    go_wp2_with fail; go_ret; exact ⟨ret_b (by rw [hl]; rfl), rfl⟩
  · have hl' : Lx.letter c = false := by simpa using hl
    rw [hl']
    go_enter Tryz.func123, Tryz.ntmps123; go_wp2_with fail
    refine (isLetter_any c _).mono ?_
    rintro e w' ⟨rfl, rfl⟩
    rw [hl']
    go_wp2_with fail
    refine (isDigit_any c _).mono ?_
    rintro e w' ⟨rfl, rfl⟩
    go_wp2_with fail; go_ret; exact ⟨rfl, rfl⟩
end Go.Proofs.YtofhaokaldpmaaaGreatDoor
end
section
namespace Go.Proofs.YtofhaokaldpmaaaGreatDoor
open Go.RowKit Go.Shelf

abbrev bs (s : ByteArray) : Lx.B := s.data.toList
theorem bs_len (s : ByteArray) : (bs s).length = s.size := by simp [bs]
theorem bs_extract (s : ByteArray) (a b : Nat) : bs (s.extract a b) = ((bs s).take b).drop a := by
  simp [bs, ByteArray.data_extract]
  rw [List.drop_take]
theorem bs_get (s : ByteArray) (k : Nat) (h : k < s.size) : (bs s)[k]? = some s[k] := by
  have : k < (bs s).length := by rw [bs_len]; exact h
  rw [List.getElem?_eq_getElem this]; rfl
theorem run_lt {p : UInt8 → Bool} : ∀ {l : Lx.B} {k : Nat}, (∀ j c, j < k → l[j]? = some c → p c = true) → k ≤ l.length → (∀ c, l[k]? = some c → p c = false) → (l.takeWhile p).length = k
  | [], k, _, h, _ => by simp at h; simp [h]
  | c :: r, 0, _, _, h => by simp [h c rfl]
  | c :: r, k + 1, h1, h2, h3 => by
    rw [List.takeWhile_cons, h1 0 c (by omega) rfl, if_pos rfl, List.length_cons]
    rw [run_lt (l := r) (k := k) (fun j c' hj hc => h1 (j + 1) c' (by omega) (by simpa using hc)) (by simpa using h2) (fun c' hc => h3 c' (by simpa using hc))]

set_option maxHeartbeats 1000000 in
theorem runW (s : ByteArray) (w : World) (hs : s.size ≤ 9223372036854775807) :
    Calls Tryz.prog 122 #[.string s, .func (.func 123) #[] #[]] w fun e w' => e = .returned (.int .i64 ((bs s).takeWhile Lx.wordy).length) ∧ w' = w := by
  go_enter Tryz.func122, Tryz.ntmps122
  go_wp2_with fail
  go_loop [8, 4] (fun i _ => ∃ k : Nat, k ≤ s.size ∧ i = .int .i64 k ∧ Hid (∀ j c, j < k → (bs s)[j]? = some c → Lx.wordy c = true)) (fun i _ => s.size - (intOf i).toNat)
  case atStart => exact ⟨0, Nat.zero_le _, rfl, Lib.hid (fun j c h => absurd h (by omega))⟩
  case round =>
    obtain ⟨k, hk, rfl, HA⟩ := hrel
    by_cases hlt : k < s.size
    · have HG := Lib.hid (bs_get s k hlt)
      go_wp2_with fail
      go_at_call 123
      refine (wordy_any s[k] _).mono ?_
      rintro e w' ⟨rfl, rfl⟩
      cases hpk : Lx.wordy s[k]
      · go_wp2_with fail
        go_ret
        refine ⟨ret_i ?_, rfl⟩
        rw [run_lt (p := Lx.wordy) HA.out (by rw [bs_len]; omega) (fun c hc => by rw [HG.out] at hc; obtain rfl := Option.some.inj hc; exact hpk)]
      · go_wp2_with fail
        go_round
        case rel =>
          refine ⟨k + 1, by omega, by go_num, Lib.hid (fun j c hj hc => ?_)⟩
          rcases Nat.lt_or_ge j k with h | h
          · exact HA.out j c h hc
          · obtain rfl : j = k := by omega
            rw [HG.out] at hc; obtain rfl := Option.some.inj hc; exact hpk
        case measure => simp [intOf]; omega
    · go_wp2_with fail
      go_ret
      refine ⟨ret_i ?_, rfl⟩
      rw [run_lt (p := Lx.wordy) (k := s.size) (fun j c hj hc => HA.out j c (by omega) hc) (by rw [bs_len]; omega) (fun c hc => by rw [List.getElem?_eq_none (by rw [bs_len]; omega)] at hc; cases hc)]
set_option maxHeartbeats 1000000 in
theorem runD (s : ByteArray) (w : World) (hs : s.size ≤ 9223372036854775807) :
    Calls Tryz.prog 122 #[.string s, .func (.func 118) #[] #[]] w fun e w' => e = .returned (.int .i64 ((bs s).takeWhile Lx.digit).length) ∧ w' = w := by
  go_enter Tryz.func122, Tryz.ntmps122
  go_wp2_with fail
  go_loop [8, 4] (fun i _ => ∃ k : Nat, k ≤ s.size ∧ i = .int .i64 k ∧ Hid (∀ j c, j < k → (bs s)[j]? = some c → Lx.digit c = true)) (fun i _ => s.size - (intOf i).toNat)
  case atStart => exact ⟨0, Nat.zero_le _, rfl, Lib.hid (fun j c h => absurd h (by omega))⟩
  case round =>
    obtain ⟨k, hk, rfl, HA⟩ := hrel
    by_cases hlt : k < s.size
    · have HG := Lib.hid (bs_get s k hlt)
      go_wp2_with fail
      go_at_call 118
      refine (isDigit_any s[k] _).mono ?_
      rintro e w' ⟨rfl, rfl⟩
      cases hpk : Lx.digit s[k]
      · go_wp2_with fail
        go_ret
        refine ⟨ret_i ?_, rfl⟩
        rw [run_lt (p := Lx.digit) HA.out (by rw [bs_len]; omega) (fun c hc => by rw [HG.out] at hc; obtain rfl := Option.some.inj hc; exact hpk)]
      · go_wp2_with fail
        go_round
        case rel =>
          refine ⟨k + 1, by omega, by go_num, Lib.hid (fun j c hj hc => ?_)⟩
          rcases Nat.lt_or_ge j k with h | h
          · exact HA.out j c h hc
          · obtain rfl : j = k := by omega
            rw [HG.out] at hc; obtain rfl := Option.some.inj hc; exact hpk
        case measure => simp [intOf]; omega
    · go_wp2_with fail
      go_ret
      refine ⟨ret_i ?_, rfl⟩
      rw [run_lt (p := Lx.digit) (k := s.size) (fun j c hj hc => HA.out j c (by omega) hc) (by rw [bs_len]; omega) (fun c hc => by rw [List.getElem?_eq_none (by rw [bs_len]; omega)] at hc; cases hc)]
end Go.Proofs.YtofhaokaldpmaaaGreatDoor
end
section
namespace Go.Proofs.YtofhaokaldpmaaaGreatDoor
open Go.RowKit Go.Shelf

theorem sk_true : ∀ r : Lx.B, Lx.sk true r = (r.takeWhile Lx.noEnd).length + Lx.sk false (r.drop (r.takeWhile Lx.noEnd).length)
  | [] => by simp [Lx.sk]
  | c :: r => by
    rw [Lx.sk]
    by_cases hc : c = 10
    · subst hc
      rw [if_pos rfl, List.takeWhile_cons, if_neg (by decide), List.length_nil, List.drop_zero, Lx.sk, if_pos (by decide)]; omega
    · rw [if_neg hc, List.takeWhile_cons, if_pos (by simpa [Lx.noEnd] using hc), List.length_cons, List.drop_succ_cons, sk_true r]; omega
theorem sk_blank {c : UInt8} {r : Lx.B} (h : Lx.blank c = true) : Lx.sk false (c :: r) = Lx.sk false r + 1 := by rw [Lx.sk, if_pos h]
theorem sk_rem {c : UInt8} {r : Lx.B} (h : Lx.blank c = false) (hp : Lib.hasPrefix (c :: r) [45, 45] = true) :
    Lx.sk false (c :: r) = ((c :: r).takeWhile Lx.noEnd).length + Lx.sk false ((c :: r).drop ((c :: r).takeWhile Lx.noEnd).length) := by
  have hh : c = 45 ∧ r.head? = some 45 := by
    cases r with
    | nil => simp [Lib.hasPrefix] at hp
    | cons x r => simp [Lib.hasPrefix] at hp; exact ⟨hp.1.symm, by simp [hp.2]⟩
  rw [Lx.sk, if_neg (by simp [h]), if_pos hh, List.takeWhile_cons, if_pos (by rw [hh.1]; decide), List.length_cons, List.drop_succ_cons, sk_true r]; omega
theorem sk_no {c : UInt8} {r : Lx.B} (h : Lx.blank c = false) (hp : Lib.hasPrefix (c :: r) [45, 45] = false) : Lx.sk false (c :: r) = 0 := by
  rw [Lx.sk, if_neg (by simp [h]), if_neg]
  rintro ⟨rfl, hr⟩
  cases r with
  | nil => simp at hr
  | cons x r => obtain rfl : x = 45 := by simpa using hr
                simp [Lib.hasPrefix] at hp
theorem bs_drop (s : ByteArray) (k : Nat) (h : k < s.size) : (bs s).drop k = s[k] :: (bs s).drop (k + 1) := by
  rw [List.drop_eq_getElem_cons (by rw [bs_len]; exact h)]; rfl
theorem bs_from (s : ByteArray) (k : Nat) : bs (s.extract k s.size) = (bs s).drop k := by
  rw [bs_extract, List.take_of_length_le (by rw [bs_len]; exact Nat.le_refl _)]

end Go.Proofs.YtofhaokaldpmaaaGreatDoor
end
section
namespace Go.Proofs.YtofhaokaldpmaaaGreatDoor
open Go.RowKit Go.Shelf

structure Tabs (w : World) : Prop where
  ks : ∀ (j : Nat) (b : Lx.B), Lx.keys[j]? = some b → w.cell? ⟨2, j, none⟩ = some (.string ⟨b.toArray⟩)
  sg : ∀ (j : Nat) (b : Lx.B), Lx.signs[j]? = some b → w.cell? ⟨1, j, none⟩ = some (.string ⟨b.toArray⟩)
  m : ∃ m : Nat, m = 0
theorem lt_of_cell {w : World} {p : Addr} {v : Value} (h : w.cell? p = some v) : p.block < w.heap.size := by
  rcases Nat.lt_or_ge p.block w.heap.size with hl | hg
  · exact hl
  · rw [World.cell?, Array.getElem?_eq_none hg] at h; cases h
theorem cell_kept {w w' : World} (hb : Below w.heap.size w w') {p : Addr} {v : Value} (h : w.cell? p = some v) : w'.cell? p = some v :=
  (hb.cell (lt_of_cell h)).trans h
theorem Tabs.kept {w w' : World} (h : Tabs w) (hb : Below w.heap.size w w') : Tabs w' := by
  obtain ⟨m, hm⟩ := h.m
  exact ⟨fun j b hj => cell_kept hb (h.ks j b hj), fun j b hj => cell_kept hb (h.sg j b hj), m, hm⟩
theorem keys_len : Lx.keys.length = 28 := by decide +kernel
theorem tl_bs (a b : ByteArray) : (a.toList == b.toList) = (bs a == bs b) := by rw [ByteArray.toList_eq, ByteArray.toList_eq]

set_option maxHeartbeats 1000000 in
theorem key_any (s : ByteArray) (w : World) (hT : Tabs w) :
    Calls Tryz.prog 124 #[.string s] w fun e w' => e = .returned (.bool (Lx.key (bs s))) ∧ w' = w := by
  have HT := Lib.hid hT
  clear hT
  go_enter Tryz.func124, Tryz.ntmps124
  go_wp2_with fail
  go_loop [4, 3] (fun i _ => ∃ k : Nat, k ≤ 28 ∧ i = .int .i64 k ∧ Hid (∀ j b, j < k → Lx.keys[j]? = some b → b ≠ bs s)) (fun i _ => 28 - (intOf i).toNat)
  case atStart => exact ⟨0, Nat.zero_le _, rfl, Lib.hid (fun j c h => absurd h (by omega))⟩
  case round =>
    obtain ⟨k, hk, rfl, HA⟩ := hrel
    by_cases hlt : k < 28
    · obtain ⟨b, hb⟩ : ∃ b, Lx.keys[k]? = some b := ⟨_, List.getElem?_eq_getElem (by rw [keys_len]; exact hlt)⟩
      have hc := HT.out.ks k b hb
      have HB := Lib.hid hb
      have hq : ((⟨b.toArray⟩ : ByteArray).toList == s.toList) = (b == bs s) := tl_bs _ _
      clear hb
      generalize (⟨b.toArray⟩ : ByteArray) = kb at hc hq
      cases he : b == bs s
      · rw [he] at hq
        go_wp2_with fail
        go_round
        case rel =>
          refine ⟨k + 1, by omega, by go_num, Lib.hid (fun j x hj hx => ?_)⟩
          rcases Nat.lt_or_ge j k with h | h
          · exact HA.out j x h hx
          · obtain rfl : j = k := by omega
            rw [HB.out] at hx; obtain rfl := Option.some.inj hx; simpa using he
        case measure => simp [intOf]; omega
      · rw [he] at hq
        go_wp2_with fail
        go_ret
        refine ⟨ret_b ?_, rfl⟩
        obtain rfl : b = bs s := by simpa using he
        symm; rw [Lx.key, List.contains_iff_mem]
        exact List.mem_of_getElem? HB.out
    · go_wp2_with fail
      go_ret
      refine ⟨ret_b ?_, rfl⟩
      symm; rw [Lx.key, Bool.eq_false_iff]
      intro h
      rw [List.contains_iff_mem] at h
      obtain ⟨j, hj⟩ := List.getElem?_of_mem h
      have : j < 28 := by have := (List.getElem?_eq_some_iff.1 hj).1; rw [keys_len] at this; exact this
      exact HA.out j _ (by omega) hj rfl

abbrev tokV (k : Int) (s : ByteArray) (n a : Int) : Value := .agg #[.int .i64 k, .string s, .int .i64 n, .int .i64 a]
abbrev noTok : Value := .tuple #[tokV 0 ⟨#[]⟩ 0 0, .int .i64 0]
/-- A cut as the program hands it back. -/
def CutV (s : ByteArray) (o : Option (Lx.Tok × Nat)) (v : Value) : Prop :=
  match o with
  | none => v = noTok
  | some (t, z) => z ≤ s.size ∧ ∃ b : ByteArray, bs b = t.s ∧ v = .tuple #[tokV t.k b t.n 0, .int .i64 z]

set_option maxHeartbeats 1000000 in
theorem cutWord_any (s : ByteArray) (w : World) (hs : s.size ≤ 16384) (hT : Tabs w) :
    Calls Tryz.prog 117 #[.string s] w fun e w' => ∃ v, e = .returned v ∧ CutV s (Lx.cutWord (bs s)) v ∧ Below w.heap.size w w' := by
  have HT := Lib.hid hT
  have HBel := Lib.hid (ba w (.cells #[.int .i64 0, .string ⟨#[]⟩, .int .i64 0, .int .i64 0] 162))
  obtain ⟨W, hz⟩ : ∃ W, (bs s).takeWhile Lx.wordy = W := ⟨_, rfl⟩
  obtain ⟨n, hn⟩ : ∃ n, W.length = n := ⟨_, rfl⟩
  have hr : n ≤ s.size := by rw [← hn, ← hz, ← bs_len]; exact Lx.takeWhile_le _ _
  have HX := Lib.hid (show bs (s.extract 0 n) = W by rw [bs_extract, List.drop_zero, ← hn, ← hz, Lx.takeWhile_take])
  have HZ := Lib.hid (show Lx.cutWord (bs s) = if 24 < n then none else some (⟨if Lx.key W then 2 else 1, W, 0⟩, n) by subst hz hn; rfl)
  have HW := Lib.hid (show ((bs s).takeWhile Lx.wordy).length = n by rw [hz, hn])
  clear hT hz hn
  go_enter Tryz.func117, Tryz.ntmps117
  go_wp2_with fail
  refine (runW _ _ (by omega)).mono ?_
  rintro e w' ⟨rfl, rfl⟩
  rw [HW.out]
  by_cases h24 : 24 < n
  · go_wp2_with fail
    refine bodyPost_ret (v := noTok) (by simp [results, Tryz.results117, go_sem]) rfl ⟨_, rfl, ?_, HBel.out⟩
    rw [HZ.out, if_pos h24]; rfl
  · go_wp2_with fail
    refine (key_any _ _ (HT.out.kept HBel.out)).mono ?_
    rintro e w' ⟨rfl, rfl⟩
    rw [HX.out]
    cases hk : Lx.key W
    · go_wp2_with fail
      refine bodyPost_ret (v := .tuple #[tokV 1 (s.extract 0 n) 0 0, .int .i64 n]) (by simp [results, Tryz.results117, go_sem]) rfl ⟨_, rfl, ?_, ba w _⟩
      rw [HZ.out, if_neg h24, hk]
      exact ⟨hr, _, HX.out, rfl⟩
    · go_wp2_with fail
      refine bodyPost_ret (v := .tuple #[tokV 2 (s.extract 0 n) 0 0, .int .i64 n]) (by simp [results, Tryz.results117, go_sem]) rfl ⟨_, rfl, ?_, ba w _⟩
      rw [HZ.out, if_neg h24, hk]
      exact ⟨hr, _, HX.out, rfl⟩

end Go.Proofs.YtofhaokaldpmaaaGreatDoor
end
