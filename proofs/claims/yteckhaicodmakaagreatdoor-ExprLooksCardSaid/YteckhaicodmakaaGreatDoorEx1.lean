/-
  Expressions: plainly, and how they lie in memory.
-/
import Derived.Test.YteckhaicodmakaaGreatDoorShelf
import Derived.Test.YteckhaicodmakaaGreatDoorPlain
import Derived.OwnWalk
import Derived.Laws.AppendOwn
import Derived.Lib.Hide
namespace Go.Proofs.YteckhaicodmakaaGreatDoor
open Go.RowKit Go.Shelf

/-- What an expression holds beside its parts. -/
structure Hd where
  k : Int
  n : Int
  vk : Int
  vn : Int
  vs : ByteArray
  tab : ByteArray
  col : ByteArray
inductive Ex where
  | mk (h : Hd) (l : List Ex)
def Ex.hd : Ex → Hd | .mk h _ => h
def Ex.kids : Ex → List Ex | .mk _ l => l
theorem Ex.kid_lt {h : Hd} {l : List Ex} {x : Ex} (hx : x ∈ l) : SizeOf.sizeOf x < SizeOf.sizeOf (Ex.mk h l) := by
  have := List.sizeOf_lt_of_mem hx
  simp only [Ex.mk.sizeOf_spec]
  omega

/-- An expression as the program hands it about. -/
abbrev XV (h : Hd) (A : Option Addr) (len cap : Nat) : Value :=
  .agg #[.int .i64 h.k, .int .i64 h.n, .int .i64 h.vk, .int .i64 h.vn, .string h.vs, .string h.tab, .string h.col, .slice A len cap]
abbrev xbox (h : Hd) (A : Option Addr) (len cap : Nat) : Obj := .cells #[.int .i64 h.k, .int .i64 h.n, .int .i64 h.vk, .int .i64 h.vn, .string h.vs, .string h.tab, .string h.col, .slice A len cap] 26
/-- Its cells. -/
structure XC (w : World) (g o : Nat) (h : Hd) (A : Option Addr) (len cap : Nat) : Prop where
  c0 : w.cell? ⟨g, o, none⟩ = some (.int .i64 h.k)
  c1 : w.cell? ⟨g, o + 1, none⟩ = some (.int .i64 h.n)
  c2 : w.cell? ⟨g, o + 2, none⟩ = some (.int .i64 h.vk)
  c3 : w.cell? ⟨g, o + 3, none⟩ = some (.int .i64 h.vn)
  c4 : w.cell? ⟨g, o + 4, none⟩ = some (.string h.vs)
  c5 : w.cell? ⟨g, o + 5, none⟩ = some (.string h.tab)
  c6 : w.cell? ⟨g, o + 6, none⟩ = some (.string h.col)
  c7 : w.cell? ⟨g, o + 7, none⟩ = some (.slice A len cap)
theorem XC.of {w w' : World} {g o : Nat} {h : Hd} {A : Option Addr} {len cap : Nat} (hb : w'.heap[g]? = w.heap[g]?) (c : XC w g o h A len cap) : XC w' g o h A len cap := by
  have e : ∀ o, w'.cell? ⟨g, o, none⟩ = w.cell? ⟨g, o, none⟩ := fun o => World.cell?_of_block hb
  exact ⟨(e _).trans c.c0, (e _).trans c.c1, (e _).trans c.c2, (e _).trans c.c3, (e _).trans c.c4, (e _).trans c.c5, (e _).trans c.c6, (e _).trans c.c7⟩
/-- Expressions in memory, in blocks of B. -/
def XsB (B : Nat → Prop) (w : World) : List Ex → Option Addr → Prop
  | [], _ => True
  | .mk h l :: r, A => ∃ g o, A = some ⟨g, o, none⟩ ∧ B g ∧ (∃ A' cap, XC w g o h A' l.length cap ∧ l.length ≤ cap ∧ XsB B w l A') ∧ XsB B w r (some ⟨g, o + 8, none⟩)
termination_by l => SizeOf.sizeOf l
theorem XsB.go {B B' : Nat → Prop} {w w' : World} (hb : ∀ k, B k → w'.heap[k]? = w.heap[k]?) (hB : ∀ k, B k → B' k) : ∀ (l : List Ex) (A : Option Addr), XsB B w l A → XsB B' w' l A
  | [], _, _ => by rw [XsB]; trivial
  | .mk h l :: r, A, H => by
    rw [XsB] at H ⊢
    obtain ⟨g, o, e, hg, ⟨A', cap, hc, hl, h1⟩, h2⟩ := H
    exact ⟨g, o, e, hB g hg, ⟨A', cap, hc.of (hb g hg), hl, XsB.go hb hB l A' h1⟩, XsB.go hb hB r _ h2⟩
termination_by l => SizeOf.sizeOf l
abbrev XsAt (n : Nat) (w : World) (l : List Ex) (A : Option Addr) : Prop := XsB (fun k => k < n) w l A
theorem XsAt.kept {n : Nat} {w w' : World} {l : List Ex} {A : Option Addr} (hb : Below n w w') (H : XsAt n w l A) : XsAt n w' l A :=
  XsB.go (fun k hk => hb.block k hk) (fun _ h => h) l A H
theorem XsAt.up {n m : Nat} {w : World} {l : List Ex} {A : Option Addr} (hm : n ≤ m) (H : XsAt n w l A) : XsAt m w l A :=
  XsB.go (fun _ _ => rfl) (fun _ h => Nat.lt_of_lt_of_le h hm) l A H
/-- Behind a call. -/
theorem XsAt.next {w w' : World} {l : List Ex} {A : Option Addr} (H : XsAt w.heap.size w l A) (hb : Below w.heap.size w w') : XsAt w'.heap.size w' l A :=
  (H.kept hb).up hb.size
theorem XsB.at {B : Nat → Prop} {w : World} : ∀ {l : List Ex} {A : Option Addr}, XsB B w l A → ∀ {i : Nat} {h : Hd} {l' : List Ex}, l[i]? = some (.mk h l') →
    ∃ g o A' cap, A = some ⟨g, o, none⟩ ∧ B g ∧ XC w g (o + i * 8) h A' l'.length cap ∧ l'.length ≤ cap ∧ XsB B w l' A'
  | [], _, _, i, h, l', hi => by simp at hi
  | .mk h l :: r, A, H, 0, h', l', hi => by
    rw [XsB] at H
    obtain ⟨g, o, e, hg, ⟨A', cap, hc, hl, h1⟩, _⟩ := H
    simp only [List.getElem?_cons_zero, Option.some.injEq, Ex.mk.injEq] at hi
    obtain ⟨rfl, rfl⟩ := hi
    exact ⟨g, o, A', cap, e, hg, by simpa using hc, hl, h1⟩
  | .mk h l :: r, A, H, i + 1, h', l', hi => by
    rw [XsB] at H
    obtain ⟨g, o, e, hg, _, h2⟩ := H
    obtain ⟨g', o', A', cap, e', hg', hc, hl, h1⟩ := XsB.at h2 (i := i) (by simpa using hi)
    simp only [Option.some.injEq, Addr.mk.injEq] at e'
    obtain ⟨rfl, rfl, _⟩ := e'
    exact ⟨g, o, A', cap, e, hg, by rw [show o + (i + 1) * 8 = o + 8 + i * 8 by omega]; exact hc, hl, h1⟩
theorem XsB.drop {B : Nat → Prop} {w : World} : ∀ {l : List Ex} {g o : Nat}, XsB B w l (some ⟨g, o, none⟩) → ∀ (k : Nat), XsB B w (l.drop k) (some ⟨g, o + k * 8, none⟩)
  | l, g, o, H, 0 => by simpa using H
  | [], g, o, H, k + 1 => by rw [List.drop_nil, XsB]; trivial
  | .mk h l :: r, g, o, H, k + 1 => by
    rw [XsB] at H
    obtain ⟨g', o', e, _, _, h2⟩ := H
    simp only [Option.some.injEq, Addr.mk.injEq] at e
    obtain ⟨rfl, rfl, _⟩ := e
    have := XsB.drop h2 k
    rw [List.drop_succ_cons, show o + (k + 1) * 8 = o + 8 + k * 8 by omega]
    exact this
/-- An expression, as a value with its parts in memory. -/
def XvB (B : Nat → Prop) (w : World) (e : Ex) (v : Value) : Prop :=
  ∃ A cap, v = XV e.hd A e.kids.length cap ∧ e.kids.length ≤ cap ∧ XsB B w e.kids A
abbrev XAt (n : Nat) (w : World) (e : Ex) (v : Value) : Prop := XvB (fun k => k < n) w e v
theorem XvB.go {B B' : Nat → Prop} {w w' : World} (hb : ∀ k, B k → w'.heap[k]? = w.heap[k]?) (hB : ∀ k, B k → B' k) {e : Ex} {v : Value} (H : XvB B w e v) : XvB B' w' e v := by
  obtain ⟨A, cap, rfl, hl, h⟩ := H
  exact ⟨A, cap, rfl, hl, XsB.go hb hB _ _ h⟩
theorem XAt.next {w w' : World} {e : Ex} {v : Value} (H : XAt w.heap.size w e v) (hb : Below w.heap.size w w') : XAt w'.heap.size w' e v :=
  XvB.go (fun k hk => hb.block k hk) (fun _ h => Nat.lt_of_lt_of_le h hb.size) H
/-- Blocks that came between two worlds. -/
abbrev Bn (b : Nat) (W : World) (k : Nat) : Prop := b ≤ k ∧ k < W.heap.size

/-! Lists of expressions of the call's own. -/
abbrev XQ := Hd × Option Addr × Nat × Nat
def xcell (x : XQ) : List Value := [.int .i64 x.1.k, .int .i64 x.1.n, .int .i64 x.1.vk, .int .i64 x.1.vn, .string x.1.vs, .string x.1.tab, .string x.1.col, .slice x.2.1 x.2.2.1 x.2.2.2]
def xcells (l : List XQ) : List Value := l.flatMap xcell
theorem xcells_len (l : List XQ) : (xcells l).length = l.length * 8 := by
  induction l with
  | nil => rfl
  | cons v l ih => show (xcell v ++ xcells l).length = _; rw [List.length_append, ih]; simp [xcell]; omega
theorem xcells_app (l r : List XQ) : xcells (l ++ r) = xcells l ++ xcells r := by simp [xcells]
theorem xcell_one (x : XQ) : ∀ u ∈ xcell x, u.oneCell' = true := by
  intro u hu
  simp [xcell] at hu
  rcases hu with rfl | rfl | rfl | rfl | rfl | rfl | rfl | rfl <;> rfl
theorem xcells_one (l : List XQ) : ∀ u ∈ xcells l, u.oneCell' = true := by
  intro u hu
  obtain ⟨v, _, hv⟩ := List.mem_flatMap.1 hu
  exact xcell_one v u hv
/-- What a cell row's entries stand for. -/
def XR (B : Nat → Prop) (w : World) (e : Ex) (x : XQ) : Prop := x.1 = e.hd ∧ x.2.2.1 = e.kids.length ∧ e.kids.length ≤ x.2.2.2 ∧ XsB B w e.kids x.2.1
inductive XRs (B : Nat → Prop) (w : World) : List Ex → List XQ → Prop
  | nil : XRs B w [] []
  | cons {e x l q} : XR B w e x → XRs B w l q → XRs B w (e :: l) (x :: q)
theorem XRs.len {B : Nat → Prop} {w : World} {l : List Ex} {q : List XQ} (h : XRs B w l q) : q.length = l.length := by
  induction h with
  | nil => rfl
  | cons _ _ ih => simp [ih]
theorem XRs.snoc {B : Nat → Prop} {w : World} {l : List Ex} {q : List XQ} (h : XRs B w l q) {e : Ex} {x : XQ} (hx : XR B w e x) : XRs B w (l ++ [e]) (q ++ [x]) := by
  induction h with
  | nil => exact .cons hx .nil
  | cons h1 _ ih => exact .cons h1 ih
theorem XRs.app {B : Nat → Prop} {w : World} {l l' : List Ex} {q q' : List XQ} (h : XRs B w l q) (h' : XRs B w l' q') : XRs B w (l ++ l') (q ++ q') := by
  induction h with
  | nil => exact h'
  | cons h1 _ ih => exact .cons h1 ih
theorem XR.go {B B' : Nat → Prop} {w w' : World} (hb : ∀ k, B k → w'.heap[k]? = w.heap[k]?) (hB : ∀ k, B k → B' k) {e : Ex} {x : XQ} (h : XR B w e x) : XR B' w' e x :=
  ⟨h.1, h.2.1, h.2.2.1, XsB.go hb hB _ _ h.2.2.2⟩
theorem XRs.go {B B' : Nat → Prop} {w w' : World} (hb : ∀ k, B k → w'.heap[k]? = w.heap[k]?) (hB : ∀ k, B k → B' k) {l : List Ex} {q : List XQ} (h : XRs B w l q) : XRs B' w' l q := by
  induction h with
  | nil => exact .nil
  | cons h1 _ ih => exact .cons (h1.go hb hB) ih
theorem XRs.xsB {B : Nat → Prop} {w : World} {g : Nat} (hg : B g) : ∀ {l : List Ex} {q : List XQ} {o : Nat}, XRs B w l q → (∀ j u, (xcells q)[j]? = some u → w.cell? ⟨g, o + j, none⟩ = some u) → XsB B w l (some ⟨g, o, none⟩)
  | _, _, _, .nil, _ => by rw [XsB]; trivial
  | _, _, o, .cons (e := .mk h l) (x := x) (q := q) h1 h2, H => by
    rw [XsB]
    obtain ⟨e1, e2, e3, e4⟩ := h1
    have e : xcells (x :: q) = xcell x ++ xcells q := rfl
    have e8 : (xcell x).length = 8 := rfl
    rw [e] at H
    refine ⟨g, o, rfl, hg, ⟨x.2.1, x.2.2.2, ?_, e3, e4⟩, ?_⟩
    · have k := fun j u (hj : (xcell x)[j]? = some u) => H j u (by rw [List.getElem?_append_left (List.getElem?_eq_some_iff.1 hj).1]; exact hj)
      simp only [Ex.hd, Ex.kids] at e1 e2
      rw [← e2, ← e1]
      exact ⟨k 0 _ rfl, k 1 _ rfl, k 2 _ rfl, k 3 _ rfl, k 4 _ rfl, k 5 _ rfl, k 6 _ rfl, k 7 _ rfl⟩
    · refine XRs.xsB hg h2 fun j u hj => ?_
      have := H (8 + j) u (by rw [List.getElem?_append_right (by omega), e8, Nat.add_sub_cancel_left]; exact hj)
      rwa [show o + (8 + j) = o + 8 + j by omega] at this
/-- A list of expressions of the call's own: in one row, the parts in other blocks. -/
abbrev Ot (base : Nat) (W : World) (v : Value) (k : Nat) : Prop := base ≤ k ∧ k < W.heap.size ∧ v.ownBlock ≠ some k
def Xrow (base : Nat) (W : World) (v : Value) (l : List Ex) (q : List XQ) : Prop := XRs (Ot base W v) W l q ∧ W.ownsRow base 26 8 v l.length (xcells q)
structure Xown (base : Nat) (W1 W : World) (v : Value) (l : List Ex) : Prop where
  row : ∃ q, Xrow base W v l q
  bel : Below base W1 W
  le : base ≤ W.heap.size
theorem Xown.slice {base : Nat} {W1 W : World} {v : Value} {l : List Ex} (h : Xown base W1 W v l) : ∃ A cap, v = .slice A l.length cap := by
  obtain ⟨q, _, ho⟩ := h.row
  rcases ho.2 with ⟨rfl, h0⟩ | ⟨g, cap, cur, hv, _⟩
  · rw [h0]; exact ⟨none, 0, rfl⟩
  · exact ⟨_, cap, hv⟩
theorem Xown.nil (W : World) : Xown W.heap.size W W (.slice none 0 0) [] :=
  ⟨⟨[], .nil, World.ownsRow_nil _ _ _ _⟩, Below.refl _ _, Nat.le_refl _⟩
theorem Xown.below {base : Nat} {W1 W W' : World} {v : Value} {l : List Ex} (h : Xown base W1 W v l) (hb : Below W.heap.size W W') : Xown base W1 W' v l := by
  obtain ⟨q, hq, ho⟩ := h.row
  refine ⟨⟨q, hq.go (fun k hk => hb.block k hk.2.1) (fun k hk => ⟨hk.1, Nat.lt_of_lt_of_le hk.2.1 hb.size, hk.2.2⟩), ho.1, ?_⟩, h.bel.trans (hb.mono h.le), Nat.le_trans h.le hb.size⟩
  rcases ho.2 with hn | ⟨g, cap, cur, hv, hb1, hg, hc, hm, hsz, ht⟩
  · exact .inl hn
  · exact .inr ⟨g, cap, cur, hv, hb1, (hb.block g (by
      rcases Nat.lt_or_ge g W.heap.size with h | h
      · exact h
      · rw [Array.getElem?_eq_none h] at hg; cases hg)).trans hg, hc, hm, hsz, ht⟩
/-- What such a list reads as. -/
theorem Xown.xsB {base : Nat} {W1 W : World} {v : Value} {l : List Ex} (h : Xown base W1 W v l) : ∃ A cap, v = .slice A l.length cap ∧ l.length ≤ cap ∧ XsB (Bn base W) W l A := by
  obtain ⟨q, hq, ho⟩ := h.row
  rcases ho.2 with ⟨rfl, h0⟩ | ⟨g, cap, cur, hv, hb1, hg, hc, hm, hsz, ht⟩
  · obtain rfl : l = [] := List.eq_nil_of_length_eq_zero h0
    exact ⟨none, 0, rfl, Nat.le_refl _, by rw [XsB]; trivial⟩
  · have hgl : g < W.heap.size := by
      rcases Nat.lt_or_ge g W.heap.size with h | h
      · exact h
      · rw [Array.getElem?_eq_none h] at hg; cases hg
    refine ⟨_, cap, hv, by omega, (hq.go (B' := Bn base W) (fun _ _ => rfl) (fun k hk => ⟨hk.1, hk.2.1⟩)).xsB ⟨hb1, hgl⟩ fun j u hj => ?_⟩
    have hjl := (List.getElem?_eq_some_iff.1 hj).1
    rw [xcells_len, hq.len] at hjl
    have e : cur.toList[j]? = (xcells q)[j]? := by rw [← ht, List.getElem?_take_of_lt (by omega)]
    rw [Nat.zero_add]
    simp only [World.cell?, hg]
    rw [← Array.getElem?_toList, e, hj]
    simp
/-- One more, appended. -/
theorem Xown.grow {base : Nat} {W1 W : World} {v : Value} {l : List Ex} (h : Xown base W1 W v l) {q : List XQ} (hq : Xrow base W v l q) {e : Ex} {x : XQ} (hx : XR (Ot base W v) W e x)
    {o : Obj} {v' : Value} {w' : World} (ho : w'.ownsRow base 26 8 v' (l.length + 1) (xcells q ++ xcell x)) (hg : (W.alloc o).grownBy w' v.ownBlock) (hat : v'.ownBlock = v.ownBlock ∨ v'.ownBlock = some (W.alloc o).heap.size) : Xown base W1 w' v' (l ++ [e]) := by
  have hle := h.le
  have hs := hg.size
  rw [World.size_alloc] at hs hat
  have hb : ∀ k, Ot base W v k → w'.heap[k]? = W.heap[k]? := fun k hk => (hg.block k (by rw [World.size_alloc]; have := hk.2.1; omega) (fun e => hk.2.2 e.symm)).trans ((ba W o).block k hk.2.1)
  have hB : ∀ k, Ot base W v k → Ot base w' v' k := fun k hk => ⟨hk.1, by have := hk.2.1; omega, fun e => by
    rcases hat with h1 | h1
    · exact hk.2.2 (h1.symm.trans e)
    · rw [h1] at e; have := hk.2.1; simp at e; omega⟩
  refine ⟨⟨q ++ [x], (hq.1.go hb hB).snoc (hx.go hb hB), ?_⟩, h.bel.trans (((Below.refl base W).alloc hle _).trans ((Below.refl base (W.alloc o)).grown hg (by rw [World.size_alloc]; omega) (fun k hk => (hq.2.lt k hk).1))), by omega⟩
  have e1 : xcells (q ++ [x]) = xcells q ++ xcell x := by rw [xcells_app]; simp [xcells]
  rw [e1, List.length_append]
  exact ho
theorem info_expr : (Tryz.prog.info? 26).map (fun i => (i.zero, i.size, i.bytes)) = some (some (XV ⟨0, 0, 0, 0, ⟨#[]⟩, ⟨#[]⟩, ⟨#[]⟩⟩ none 0 0), 8, 104) := by kernel_rfl
theorem infoE_parts {t : TypeId} {z : Value} {n b : Nat} (h : (Tryz.prog.info? t).map (fun i => (i.zero, i.size, i.bytes)) = some (some z, n, b)) :
    ∃ i, Tryz.prog.info? t = some i ∧ i.zero = some z ∧ i.size = n ∧ i.bytes = b := by
  cases hi : Tryz.prog.info? t with
  | none => rw [hi] at h; cases h
  | some i => rw [hi] at h; simp at h; exact ⟨i, rfl, h.1, h.2.1, h.2.2⟩
end Go.Proofs.YteckhaicodmakaaGreatDoor
