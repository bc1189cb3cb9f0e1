/-
  Plain: what a law's row asks of the end of its walk, for whatever arguments: true is told, and each argument reads as it did. Of whatever program.
Plain words about values: which may be, their order, truths. Nothing of the program stands here.
Columns in memory, cell by cell, and columns of a call's own.
Plain: the order of values is one. Nothing of the program stands here.
Plain: rows of values in memory. Nothing of the program stands here.
Plain: rows in memory of the call's own. Nothing of the program stands here.
Contracts of package value's small functions: which values may be, and how values are made.
Contracts of value.Compare, of the document's own Compare, and of '==' between two values.
Contracts of row.Compare and row.Same, of the library's CompareFunc, and of the document's own Compare and Same.
Contracts of row.By and what it calls, and of the document's own By.
Contracts of row.Nulls and row.Pick, and of the document's own Pick.
Contracts of the library's Grow and Concat over values, and of row.Join.
Lists of rows, and lists of such lists, in memory of the call's own: rows of which nothing is written any more; a list that grows; a table of lists.
Package catalog: tables in memory.
-/
import Derived.WalkKit
import Derived.ProofKit
import Derived.Carry
import Derived.OpenShut
import Derived.Deep.DeepHandedRow
import Derived.WalkSpells
import Derived.WalkLawsBesides
import Derived.Test.YtmjckdgomlppeaaGreatDoorProg
import Derived.Deep.AppendLies
import Derived.Laws.AppendOwn
import Derived.Sort.Walk0
import Derived.Lib.Hide
import Derived.Laws.MakeOwn
import Derived.Laws.StructEq
import Derived.Shelf.Abstract
import Derived.Deep.RegionHeld3
import Derived.Laws.AppendOwnNone
section
namespace Go.Proofs.YtmjckdgomlppeaaGreatDoor
open Go.ChangeShapes Go.WideShapes Go.ChangeAt Go.RowKit

section
variable {H : Type} {enc : TypeId × Value → H} {P : Program}

theorem belowAll (hl : laidOutB P = true) {W W' : World} (hb : Below W.heap.size W W') :
    ∀ {ts : List TypeId} {vs : List Value} {ds : List (DataW H)} {ps : List MemPlace}, (ts.all fun t => P.readableRec t && decide (t < P.types.size)) = true →
      DataW.TrodAll enc P W 0 (fun _ => true) true ts vs ds ps → (∀ x ∈ ps, x.block < W.heap.size) → DataW.TrodAll enc P W' 0 (fun b => decide (b < W.heap.size)) true ts vs ds ps
  | [], [], [], _, _, h, _ => h
  | [], [], _ :: _, _, _, h, _ => h.elim
  | [], _ :: _, _, _, _, h, _ => h.elim
  | _ :: _, [], _, _, _, h, _ => h.elim
  | _ :: _, _ :: _, [], _, _, h, _ => h.elim
  | t :: ts, v :: vs, d :: ds, ps, hr, h, hlt => by
    obtain ⟨p, q, h1, h2, rfl⟩ := h
    simp only [List.all_cons, Bool.and_eq_true, decide_eq_true_eq] at hr
    exact ⟨p, q, Below.trod hl hr.1.1 hr.1.2 h1 hb (fun x hx => hlt x (by simp [hx])), belowAll hl hb (by simpa using hr.2) h2 (fun x hx => hlt x (by simp [hx])), rfl⟩

/-- THE END OF A LAW's WALK IS ALL THAT ITS ROW ASKS. -/
theorem law_post {f : Func} {s : ChangeSpec} {W W' : World} {args : Array Value} {ds gs : List (DataW H)} {before : List MemPlace} {tb : TypeId} (hl : laidOutB P = true)
    (hts : (f.params.toList.all fun t => P.readableRec t && decide (t < P.types.size)) = true) (hres : f.resultTypes = #[tb]) (htb : P.underlying tb = some .bool)
    (hvars : s.vars = []) (hfn : s.fn H ds = { results := [.lit (.bool true)], args := ds })
    (hW : DataW.Whole enc P f.params.toList s.vars false W args.toList ds gs before) (hb : Below W.heap.size W W') :
    s.post enc P f false true false false W args (.bool true) W' := by
  have hW0 := hW
  obtain ⟨p, q, hA, hV, rfl, _, _⟩ := hW
  rw [hvars] at hV
  obtain ⟨rfl, rfl⟩ := trodVars_none hV
  refine ⟨ds, [], p ++ [], [], p, [], hW0, ?_, ?_, ?_, hb.frame _, fun h => by cases h⟩
  · rw [hres, List.append_nil, hfn]
    exact trodAll_mk1 (shut_bool htb _)
  · rw [List.append_nil, hfn]
    exact belowAll hl hb hts hA (fun x hx => by simpa using hW0.lt x (by simp [hx]))
  · rw [hvars, List.append_nil, hfn]
    rfl
end
end Go.Proofs.YtmjckdgomlppeaaGreatDoor
end
section
namespace Go.Proofs.YtmjckdgomlppeaaGreatDoor
open Go.RowKit

/-- A value as the program hands it about: its kind, its number, its text. -/
abbrev VV (k n : Int) (s : ByteArray) : Value := .agg #[.int .i64 k, .int .i64 n, .string s]

/-- May a value be? -/
def okV (k n : Int) (s : ByteArray) : Bool :=
  if k = 0 then n == 0 && s.toList.isEmpty
  else if k = 1 then (n == 0 || n == 1) && s.toList.isEmpty
  else if k = 2 then decide (-9007199254740991 ≤ n) && decide (n ≤ 9007199254740991) && s.toList.isEmpty
  else if k = 3 then n == 0 && decide (s.size ≤ 64)
  else false

/-- The order of ints, of texts, of values. -/
def cmpI (a b : Int) : Int := if a < b then -1 else if b < a then 1 else 0
def cmpS (a b : ByteArray) : Int := if Op.bytesLess a.toList b.toList then -1 else if a.toList == b.toList then 0 else 1
def cmpV (k n : Int) (s : ByteArray) (k' n' : Int) (s' : ByteArray) : Int :=
  if k = k' then (if n = n' then cmpS s s' else cmpI n n') else cmpI k k'

/-- Two values, held against each other; what is known of one; truths. -/
def eqV (k n : Int) (s : ByteArray) (k' n' : Int) (s' : ByteArray) : Bool := k == k' && n == n' && s.toList == s'.toList
def knownV (k n : Int) (s : ByteArray) : Bool := k != 0 && okV k n s
def equalV (k n : Int) (s : ByteArray) (k' n' : Int) (s' : ByteArray) : Int :=
  if knownV k n s && knownV k' n' s' then (if eqV k n s k' n' s' then 1 else 0) else 2
def lessV (k n : Int) (s : ByteArray) (k' n' : Int) (s' : ByteArray) : Int :=
  if knownV k n s && knownV k' n' s' then (if k = k' ∧ cmpV k n s k' n' s' < 0 then 1 else 0) else 2
def truthV (k n : Int) (s : ByteArray) : Int := if k = 1 ∧ okV k n s = true then n else 2

theorem bcell {W w1 : World} (hb : Below W.heap.size W w1) : (∀ b o, b < W.heap.size → w1.cell? ⟨b, o, none⟩ = W.cell? ⟨b, o, none⟩) ∧ (∀ b o, b < W.heap.size → w1.frozen? ⟨b, o, none⟩ = W.frozen? ⟨b, o, none⟩) :=
  ⟨fun b o h => hb.cell (p := ⟨b, o, none⟩) h, fun b o h => hb.frozen (p := ⟨b, o, none⟩) h⟩
theorem bt {w w1 w2 : World} (h1 : Below w.heap.size w w1) (h2 : Below w1.heap.size w1 w2) : Below w.heap.size w w2 := h1.trans (h2.mono h1.size)
theorem ba (w : World) (o : Obj) : Below w.heap.size w (w.alloc o) := (Below.refl _ _).alloc (Nat.le_refl _) _
theorem ba2 (w : World) (o1 o2 : Obj) : Below w.heap.size w ((w.alloc o1).alloc o2) := bt (ba _ _) (ba _ _)

/-- What lies in one box, in two boxes, behind calls that turn nothing of theirs. -/
theorem box1 {w w1 : World} {a0 a1 a2 : Value} {T : TypeId} (hb : Below (w.alloc (.cells #[a0, a1, a2] T)).heap.size (w.alloc (.cells #[a0, a1, a2] T)) w1) :
    w1.cell? ⟨w.heap.size, 0, none⟩ = some a0 ∧ w1.cell? ⟨w.heap.size, 1, none⟩ = some a1 ∧ w1.cell? ⟨w.heap.size, 2, none⟩ = some a2 :=
  ⟨(hb.cell (p := ⟨w.heap.size, 0, none⟩) (by simp)).trans (by simp), (hb.cell (p := ⟨w.heap.size, 1, none⟩) (by simp)).trans (by simp), (hb.cell (p := ⟨w.heap.size, 2, none⟩) (by simp)).trans (by simp)⟩
theorem box2 {w w1 : World} {a0 a1 a2 b0 b1 b2 : Value} {T T' : TypeId} (hb : Below ((w.alloc (.cells #[a0, a1, a2] T)).alloc (.cells #[b0, b1, b2] T')).heap.size ((w.alloc (.cells #[a0, a1, a2] T)).alloc (.cells #[b0, b1, b2] T')) w1) :
    w1.cell? ⟨w.heap.size, 0, none⟩ = some a0 ∧ w1.cell? ⟨w.heap.size, 1, none⟩ = some a1 ∧ w1.cell? ⟨w.heap.size, 2, none⟩ = some a2 ∧
    w1.cell? ⟨w.heap.size + 1, 0, none⟩ = some b0 ∧ w1.cell? ⟨w.heap.size + 1, 1, none⟩ = some b1 ∧ w1.cell? ⟨w.heap.size + 1, 2, none⟩ = some b2 := by
  obtain ⟨c0, c1, c2⟩ := box1 (bt (ba (w.alloc (.cells #[a0, a1, a2] T)) (.cells #[b0, b1, b2] T')) hb)
  obtain ⟨d0, d1, d2⟩ := box1 (w := w.alloc (.cells #[a0, a1, a2] T)) hb
  simp only [World.size_alloc] at d0 d1 d2
  exact ⟨c0, c1, c2, d0, d1, d2⟩
theorem box3 {w w1 : World} {a0 a1 a2 b0 b1 b2 c0 c1 c2 : Value} {T T' T'' : TypeId} (hb : Below (((w.alloc (.cells #[a0, a1, a2] T)).alloc (.cells #[b0, b1, b2] T')).alloc (.cells #[c0, c1, c2] T'')).heap.size (((w.alloc (.cells #[a0, a1, a2] T)).alloc (.cells #[b0, b1, b2] T')).alloc (.cells #[c0, c1, c2] T'')) w1) :
    w1.cell? ⟨w.heap.size, 0, none⟩ = some a0 ∧ w1.cell? ⟨w.heap.size, 1, none⟩ = some a1 ∧ w1.cell? ⟨w.heap.size, 2, none⟩ = some a2 ∧
    w1.cell? ⟨w.heap.size + 1, 0, none⟩ = some b0 ∧ w1.cell? ⟨w.heap.size + 1, 1, none⟩ = some b1 ∧ w1.cell? ⟨w.heap.size + 1, 2, none⟩ = some b2 ∧
    w1.cell? ⟨w.heap.size + 1 + 1, 0, none⟩ = some c0 ∧ w1.cell? ⟨w.heap.size + 1 + 1, 1, none⟩ = some c1 ∧ w1.cell? ⟨w.heap.size + 1 + 1, 2, none⟩ = some c2 := by
  obtain ⟨x0, x1, x2, y0, y1, y2⟩ := box2 (bt (ba ((w.alloc (.cells #[a0, a1, a2] T)).alloc (.cells #[b0, b1, b2] T')) (.cells #[c0, c1, c2] T'')) hb)
  obtain ⟨d0, d1, d2⟩ := box1 (w := (w.alloc (.cells #[a0, a1, a2] T)).alloc (.cells #[b0, b1, b2] T')) hb
  simp only [World.size_alloc] at d0 d1 d2
  exact ⟨x0, x1, x2, y0, y1, y2, d0, d1, d2⟩
theorem ret_bool {a b : Bool} (h : a = b) : Ending.returned (.bool a) = .returned (.bool b) := by rw [h]
theorem ret_int {k : IntKind} {a b : Int} (h : a = b) : Ending.returned (.int k a) = .returned (.int k b) := by rw [h]

end Go.Proofs.YtmjckdgomlppeaaGreatDoor
end
section
namespace Go.Proofs.YtmjckdgomlppeaaGreatDoor
open Go.RowKit
attribute [local go_sem] Oper.semAt_some

theorem plainC (b o i : Nat) : (⟨b, o, none⟩ : Addr).add i = ⟨b, o + i, none⟩ := by unfold Addr.add; split <;> simp_all
/-- A column, by its parts. -/
structure Co where
  tab : ByteArray
  nm : ByteArray
  ty : Int
abbrev coV (c : Co) : Value := .agg #[.string c.tab, .string c.nm, .int .i64 c.ty]
def CoAt (w : World) (A : Option Addr) (l : List Co) : Prop :=
  l = [] ∨ ∃ b off : Nat, A = some ⟨b, off, none⟩ ∧ b < w.heap.size ∧ ∀ (i : Nat) (v : Co), l[i]? = some v →
    w.cell? ⟨b, off + i * 3, none⟩ = some (.string v.tab) ∧ w.cell? ⟨b, off + i * 3 + 1, none⟩ = some (.string v.nm) ∧ w.cell? ⟨b, off + i * 3 + 2, none⟩ = some (.int .i64 v.ty)
theorem CoAt.kept {w w' : World} {A : Option Addr} {l : List Co} (h : CoAt w A l) (hb : Below w.heap.size w w') : CoAt w' A l := by
  rcases h with h | ⟨b, off, hA, hlt, hc⟩
  · exact .inl h
  · refine .inr ⟨b, off, hA, Nat.lt_of_lt_of_le hlt hb.size, fun i v hv => ?_⟩
    obtain ⟨c0, c1, c2⟩ := hc i v hv
    exact ⟨(hb.cell (p := ⟨b, _, none⟩) hlt).trans c0, (hb.cell (p := ⟨b, _, none⟩) hlt).trans c1, (hb.cell (p := ⟨b, _, none⟩) hlt).trans c2⟩
theorem CoAt.at {w : World} {A : Option Addr} {l : List Co} (h : CoAt w A l) {i : Nat} (hi : i < l.length) :
    ∃ b off : Nat, A = some ⟨b, off, none⟩ ∧ b < w.heap.size ∧ w.cell? ⟨b, off + i * 3, none⟩ = some (.string l[i].tab) ∧ w.cell? ⟨b, off + i * 3 + 1, none⟩ = some (.string l[i].nm) ∧ w.cell? ⟨b, off + i * 3 + 2, none⟩ = some (.int .i64 l[i].ty) := by
  rcases h with h | ⟨b, off, hA, hlt, hc⟩
  · subst h; simp at hi
  · obtain ⟨c0, c1, c2⟩ := hc i l[i] (List.getElem?_eq_getElem hi)
    exact ⟨b, off, hA, hlt, c0, c1, c2⟩
theorem CoAt.drop {w : World} {b off : Nat} {l : List Co} (h : CoAt w (some ⟨b, off, none⟩) l) (k : Nat) : CoAt w (some ⟨b, off + k * 3, none⟩) (l.drop k) := by
  rcases h with h | ⟨b', off', hA, hlt, hc⟩
  · subst h; exact .inl (by simp)
  · simp only [Option.some.injEq, Addr.mk.injEq] at hA
    obtain ⟨rfl, rfl, _⟩ := hA
    refine .inr ⟨b, off + k * 3, rfl, hlt, fun i v hv => ?_⟩
    rw [List.getElem?_drop] at hv
    have := hc (k + i) v hv
    rw [show off + (k + i) * 3 = off + k * 3 + i * 3 by omega] at this
    exact this
abbrev zCo : Co := ⟨⟨#[]⟩, ⟨#[]⟩, 0⟩
/-- Columns, cell by cell. -/
def coC (l : List Co) : List Value := l.flatMap fun c => [.string c.tab, .string c.nm, .int .i64 c.ty]
theorem coC_len (l : List Co) : (coC l).length = l.length * 3 := by
  induction l with
  | nil => rfl
  | cons c r ih => simp only [coC, List.flatMap_cons, List.length_append] at ih ⊢; simp [ih]; omega
theorem coC_app (a b : List Co) : coC (a ++ b) = coC a ++ coC b := by simp [coC]
theorem coC_get : ∀ (l : List Co) (i : Nat) (c : Co), l[i]? = some c → (coC l)[i * 3]? = some (.string c.tab) ∧ (coC l)[i * 3 + 1]? = some (.string c.nm) ∧ (coC l)[i * 3 + 2]? = some (.int .i64 c.ty)
  | [], _, _, h => by simp at h
  | x :: r, 0, c, h => by
    obtain rfl : x = c := by simpa using h
    exact ⟨rfl, rfl, rfl⟩
  | x :: r, i + 1, c, h => by
    have ih := coC_get r i c (by simpa using h)
    have e : coC (x :: r) = [.string x.tab, .string x.nm, .int .i64 x.ty] ++ coC r := rfl
    have sh : ∀ j, (coC (x :: r))[(i + 1) * 3 + j]? = (coC r)[i * 3 + j]? := fun j => by
      rw [e, List.getElem?_append_right (by simp; omega)]
      congr 1
      simp only [List.length_cons, List.length_nil]; omega
    exact ⟨(sh 0).trans ih.1, (sh 1).trans ih.2.1, (sh 2).trans ih.2.2⟩
theorem coC_one {l : List Co} {u : Value} (h : u ∈ coC l) : u.oneCell' = true := by
  obtain ⟨c, _, hu⟩ := List.mem_flatMap.1 h
  simp only [List.mem_cons, List.not_mem_nil, or_false] at hu
  rcases hu with rfl | rfl | rfl <;> rfl
theorem made_cos (n : Nat) : madeCells #[.string ⟨#[]⟩, .string ⟨#[]⟩, .int .i64 0] (n * 3) = (coC (List.replicate n zCo)).toArray := by
  apply Array.ext'
  apply List.ext_getElem?
  intro o
  by_cases ho : o < n * 3
  · obtain ⟨a, b, c⟩ := coC_get (List.replicate n zCo) (o / 3) zCo (by rw [List.getElem?_replicate, if_pos (by omega)])
    have e1 : (madeCells #[.string ⟨#[]⟩, .string ⟨#[]⟩, .int .i64 0] (n * 3)).toList[o]? = some (#[Value.string ⟨#[]⟩, Value.string ⟨#[]⟩, Value.int .i64 0][o % 3]!) := by
      simp [madeCells, ho]
    rw [e1]
    show _ = (coC _)[o]?
    have hm : o % 3 = 0 ∨ o % 3 = 1 ∨ o % 3 = 2 := by omega
    rcases hm with hm | hm | hm
    · rw [hm, show o = o / 3 * 3 by omega, a]; rfl
    · rw [hm, show o = o / 3 * 3 + 1 by omega, b]; rfl
    · rw [hm, show o = o / 3 * 3 + 2 by omega, c]; rfl
  · rw [List.getElem?_eq_none (by simp [size_madeCells]; omega), List.getElem?_eq_none]
    show (coC _).length ≤ o
    rw [coC_len]; simp; omega
theorem info_colT : (Tryz.prog.info? 57).map (fun i => (i.zero, i.size, i.bytes)) = some (some (.agg #[.string ⟨#[]⟩, .string ⟨#[]⟩, .int .i64 0]), 3, 40) := by kernel_rfl
theorem make_cos (n : Nat) (hn : n ≤ 64) (w : World) : (Instr.makeSlice 26 (.int .i64 n) (.int .i64 n)).run Tryz.prog w =
    .ok (.slice (some ⟨w.heap.size, 0, none⟩) n n) (w.alloc (.cells (coC (List.replicate n zCo)).toArray 57)) := by
  obtain ⟨i0, hi, hz0, hz1, hz2⟩ := info_parts info_colT
  have h := run_make (P := Tryz.prog) w 26 57 i0 _ Tryz.underlying26 hi hz0 .i64 .i64 n n (by omega) (Int.le_refl _) (by rw [hz2]; omega) (by omega)
  rw [hz1] at h
  simp only [Int.toNat_natCast] at h
  have e : madeCells (Value.agg #[.string ⟨#[]⟩, .string ⟨#[]⟩, .int .i64 0]).cells (n * 3) = (coC (List.replicate n zCo)).toArray := made_cos n
  rw [e] at h
  exact h
/-- Columns of the call's own. -/
def CoOwn (W : World) (base : Nat) (v : Value) (l : List Co) : Prop := W.ownsRow base 57 3 v l.length (coC l)
theorem CoOwn.kept {W W' : World} {base : Nat} {v : Value} {l : List Co} (h : CoOwn W base v l) (hb : Below W.heap.size W W') : CoOwn W' base v l :=
  ⟨h.1, by
    rcases h.2 with hn | ⟨g, cap, cur, hv, hb1, hg, hc, hm, hsz, ht⟩
    · exact .inl hn
    · exact .inr ⟨g, cap, cur, hv, hb1, (hb.block g (Array.getElem?_eq_some_iff.1 hg).1).trans hg, hc, hm, hsz, ht⟩⟩
theorem CoOwn.at {W : World} {base : Nat} {v : Value} {l : List Co} (h : CoOwn W base v l) : ∃ A cap, v = .slice A l.length cap ∧ l.length ≤ cap ∧ cap ≤ 9223372036854775807 ∧ CoAt W A l := by
  rcases h.2 with ⟨rfl, h0⟩ | ⟨g, cap, cur, hv, hb1, hg, hc, hm, hsz, ht⟩
  · obtain rfl : l = [] := List.eq_nil_of_length_eq_zero h0
    exact ⟨none, 0, rfl, Nat.le_refl _, by decide, .inl rfl⟩
  · refine ⟨_, cap, hv, hc, by unfold maxLen at hm; omega, .inr ⟨g, 0, rfl, (Array.getElem?_eq_some_iff.1 hg).1, fun i u hu => ?_⟩⟩
    have hi := (List.getElem?_eq_some_iff.1 hu).1
    have cell : ∀ j x, j < l.length * 3 → (coC l)[j]? = some x → W.cell? ⟨g, j, none⟩ = some x := fun j x hj hx => by
      simp only [World.cell?, hg]
      rw [← Array.getElem?_toList, ← hx, ← ht, List.getElem?_take_of_lt hj]
      simp
    obtain ⟨a, b, c⟩ := coC_get l i u hu
    rw [Nat.zero_add]
    exact ⟨cell _ _ (by omega) a, cell _ _ (by omega) b, cell _ _ (by omega) c⟩
theorem CoOwn.made (W : World) (n : Nat) (hn : n ≤ 64) : CoOwn (W.alloc (.cells (coC (List.replicate n zCo)).toArray 57)) W.heap.size (.slice (some ⟨W.heap.size, 0, none⟩) n n) (List.replicate n zCo) := by
  refine ⟨coC_len _, .inr ⟨W.heap.size, n, _, by rw [List.length_replicate], Nat.le_refl _, (MapKept.heap_alloc W _).1, by rw [List.length_replicate]; exact Nat.le_refl _, by unfold maxLen; omega, ?_, ?_⟩⟩
  · rw [List.size_toArray, coC_len, List.length_replicate]
  · rw [List.take_of_length_le (by rw [coC_len]; exact Nat.le_refl _)]
theorem CoAt.news {W : World} {ad : Addr} {l : List Co} (h : CoAt W (some ad) l) (j : Nat) (u : Value) (hj : (coC l)[j]? = some u) : W.cell? (ad.add j) = some u := by
  rcases h with rfl | ⟨b, off, e, _, hc⟩
  · simp [coC] at hj
  · obtain rfl := Option.some.inj e
    have hjl : j < l.length * 3 := by rw [← coC_len]; exact (List.getElem?_eq_some_iff.1 hj).1
    obtain ⟨c, hcx⟩ : ∃ c, l[j / 3]? = some c := ⟨_, List.getElem?_eq_getElem (by omega)⟩
    obtain ⟨a, b', c'⟩ := coC_get l (j / 3) c hcx
    obtain ⟨d0, d1, d2⟩ := hc (j / 3) c hcx
    rw [plainC]
    have hm : j % 3 = 0 ∨ j % 3 = 1 ∨ j % 3 = 2 := by omega
    rcases hm with hm | hm | hm
    · rw [show j = j / 3 * 3 by omega] at hj ⊢
      rw [a] at hj; obtain rfl := Option.some.inj hj
      exact d0
    · rw [show j = j / 3 * 3 + 1 by omega] at hj ⊢
      rw [b'] at hj; obtain rfl := Option.some.inj hj
      rw [← Nat.add_assoc]; exact d1
    · rw [show j = j / 3 * 3 + 2 by omega] at hj ⊢
      rw [c'] at hj; obtain rfl := Option.some.inj hj
      rw [← Nat.add_assoc]; exact d2
end Go.Proofs.YtmjckdgomlppeaaGreatDoor
end
section
namespace Go.Proofs.YtmjckdgomlppeaaGreatDoor

theorem bytesLess_irr (l : List UInt8) : Op.bytesLess l l = false := by
  rw [bytesLess_eq]; simp
theorem cmpS_zero (s s' : ByteArray) : cmpS s s' = 0 ↔ s.toList = s'.toList := by
  unfold cmpS
  by_cases h : s.toList = s'.toList
  · simp [h, bytesLess_irr]
  · cases hl : Op.bytesLess s.toList s'.toList <;> simp [h]
theorem cmpI_zero (a b : Int) : cmpI a b = 0 ↔ a = b := by
  unfold cmpI; (repeat' split) <;> omega
theorem cmpV_zero (k n : Int) (s : ByteArray) (k' n' : Int) (s' : ByteArray) : cmpV k n s k' n' s' = 0 ↔ eqV k n s k' n' s' = true := by
  unfold cmpV eqV
  by_cases hk : k = k' <;> by_cases hn : n = n' <;> simp [hk, hn, cmpS_zero, cmpI_zero]

theorem cmpI_range (a b : Int) : -1 ≤ cmpI a b ∧ cmpI a b ≤ 1 := by unfold cmpI; (repeat' split) <;> omega
theorem cmpS_range (s s' : ByteArray) : -1 ≤ cmpS s s' ∧ cmpS s s' ≤ 1 := by unfold cmpS; (repeat' split) <;> omega
theorem cmpV_range (k n : Int) (s : ByteArray) (k' n' : Int) (s' : ByteArray) : -1 ≤ cmpV k n s k' n' s' ∧ cmpV k n s k' n' s' ≤ 1 := by
  unfold cmpV
  (repeat' split)
  · exact cmpS_range ..
  · exact cmpI_range ..
  · exact cmpI_range ..
theorem cmpI_anti (a b : Int) : cmpI b a = - cmpI a b := by unfold cmpI; (repeat' split) <;> omega
theorem cmpS_lt (s s' : ByteArray) : cmpS s s' < 0 ↔ s.toList < s'.toList := by
  unfold cmpS
  rw [bytesLess_eq]
  by_cases h : s.toList < s'.toList
  · simp [h]
  · simp only [h, decide_false, Bool.false_eq_true, if_false]
    split <;> simp
theorem cmpS_gt (s s' : ByteArray) : 0 < cmpS s s' ↔ s'.toList < s.toList := by
  unfold cmpS
  rw [bytesLess_eq]
  by_cases h : s.toList < s'.toList
  · simp only [h, decide_true, if_true]
    exact ⟨fun h' => absurd h' (by decide), fun h' => absurd h' (List.lt_asymm h)⟩
  · simp only [h, decide_false, Bool.false_eq_true, if_false]
    by_cases he : s.toList = s'.toList
    · rw [he]; simp
    · have : s'.toList < s.toList := by
        by_cases h2 : s'.toList < s.toList
        · exact h2
        · exact absurd (List.le_antisymm (List.not_lt.1 h2) (List.not_lt.1 h)) he
      simp [he, this]
theorem cmpS_anti (s s' : ByteArray) : cmpS s' s = - cmpS s s' := by
  have r1 := cmpS_range s s'
  have r2 := cmpS_range s' s
  have z1 := cmpS_zero s s'
  have z2 := cmpS_zero s' s
  have l1 := cmpS_lt s s'
  have g1 := cmpS_gt s s'
  have l2 := cmpS_lt s' s
  have g2 := cmpS_gt s' s
  by_cases h : s.toList = s'.toList
  · rw [z1.2 h, z2.2 h.symm]; rfl
  · have n1 : cmpS s s' ≠ 0 := fun e => h (z1.1 e)
    by_cases hl : s.toList < s'.toList
    · have := l1.2 hl; have := g2.2 hl; omega
    · have h1 : ¬ cmpS s s' < 0 := fun e => hl (l1.1 e)
      have := l2.2 (g1.1 (by omega))
      omega
theorem cmpV_anti (k n : Int) (s : ByteArray) (k' n' : Int) (s' : ByteArray) : cmpV k' n' s' k n s = - cmpV k n s k' n' s' := by
  unfold cmpV
  by_cases hk : k = k'
  · by_cases hn : n = n'
    · rw [if_pos hk.symm, if_pos hn.symm, if_pos hk, if_pos hn]; exact cmpS_anti ..
    · rw [if_pos hk.symm, if_neg (fun e => hn e.symm), if_pos hk, if_neg hn]; exact cmpI_anti ..
  · rw [if_neg (fun e => hk e.symm), if_neg hk]; exact cmpI_anti ..
theorem cmpS_trans (a b c : ByteArray) (h1 : cmpS a b ≤ 0) (h2 : cmpS b c ≤ 0) : cmpS a c ≤ 0 ∧ (cmpS a b = 0 ∧ cmpS b c = 0 ∨ cmpS a c < 0) := by
  by_cases e1 : a.toList = b.toList
  · have z1 := (cmpS_zero a b).2 e1
    by_cases e2 : b.toList = c.toList
    · have z2 := (cmpS_zero b c).2 e2
      have z3 := (cmpS_zero a c).2 (e1.trans e2)
      omega
    · have l2 : cmpS b c < 0 := by have : cmpS b c ≠ 0 := fun e => e2 ((cmpS_zero b c).1 e); omega
      have l3 : cmpS a c < 0 := (cmpS_lt a c).2 (by rw [e1]; exact (cmpS_lt b c).1 l2)
      omega
  · have l1 : cmpS a b < 0 := by have : cmpS a b ≠ 0 := fun e => e1 ((cmpS_zero a b).1 e); omega
    have l3 : cmpS a c < 0 := by
      rw [cmpS_lt]
      by_cases e2 : b.toList = c.toList
      · rw [← e2]; exact (cmpS_lt a b).1 l1
      · have l2 : cmpS b c < 0 := by have : cmpS b c ≠ 0 := fun e => e2 ((cmpS_zero b c).1 e); omega
        exact List.lt_trans ((cmpS_lt a b).1 l1) ((cmpS_lt b c).1 l2)
    omega
theorem cmpV_le (k n : Int) (s : ByteArray) (k' n' : Int) (s' : ByteArray) : cmpV k n s k' n' s' ≤ 0 ↔ k < k' ∨ (k = k' ∧ (n < n' ∨ (n = n' ∧ cmpS s s' ≤ 0))) := by
  unfold cmpV cmpI
  (repeat' split) <;> omega
theorem cmpV_lt (k n : Int) (s : ByteArray) (k' n' : Int) (s' : ByteArray) : cmpV k n s k' n' s' < 0 ↔ k < k' ∨ (k = k' ∧ (n < n' ∨ (n = n' ∧ cmpS s s' < 0))) := by
  unfold cmpV cmpI
  (repeat' split) <;> omega
theorem cmpV_eq (k n : Int) (s : ByteArray) (k' n' : Int) (s' : ByteArray) : cmpV k n s k' n' s' = 0 ↔ k = k' ∧ n = n' ∧ cmpS s s' = 0 := by
  unfold cmpV cmpI
  (repeat' split) <;> omega
theorem cmpV_trans (k n : Int) (s : ByteArray) (k' n' : Int) (s' : ByteArray) (k'' n'' : Int) (s'' : ByteArray) (h1 : cmpV k n s k' n' s' ≤ 0) (h2 : cmpV k' n' s' k'' n'' s'' ≤ 0) :
    cmpV k n s k'' n'' s'' ≤ 0 ∧ (cmpV k n s k' n' s' = 0 ∧ cmpV k' n' s' k'' n'' s'' = 0 ∨ cmpV k n s k'' n'' s'' < 0) := by
  have t := cmpS_trans s s' s''
  rw [cmpV_le] at h1 h2
  rw [cmpV_le, cmpV_lt, cmpV_eq, cmpV_eq]
  generalize cmpS s s' = x at *
  generalize cmpS s' s'' = y at *
  generalize cmpS s s'' = z at *
  omega

end Go.Proofs.YtmjckdgomlppeaaGreatDoor
end
section
namespace Go.Proofs.YtmjckdgomlppeaaGreatDoor
open Go.RowKit

/-- A value, by its three parts. -/
structure Va where
  k : Int
  n : Int
  s : ByteArray

def Va.val (v : Va) : Value := VV v.k v.n v.s
def Va.ok (v : Va) : Bool := okV v.k v.n v.s
def cmpA (a b : Va) : Int := cmpV a.k a.n a.s b.k b.n b.s

/-- A slice's address, at which a row's values lie, three cells each. -/
def RowAt (w : World) (A : Option Addr) (r : List Va) : Prop :=
  r = [] ∨ ∃ b off : Nat, A = some ⟨b, off, none⟩ ∧ b < w.heap.size ∧ ∀ (i : Nat) (v : Va), r[i]? = some v →
    w.cell? ⟨b, off + i * 3, none⟩ = some (.int .i64 v.k) ∧ w.cell? ⟨b, off + i * 3 + 1, none⟩ = some (.int .i64 v.n) ∧ w.cell? ⟨b, off + i * 3 + 2, none⟩ = some (.string v.s)

theorem RowAt.kept {w w' : World} {A : Option Addr} {r : List Va} (h : RowAt w A r) (hb : Below w.heap.size w w') : RowAt w' A r := by
  rcases h with h | ⟨b, off, hA, hlt, hc⟩
  · exact .inl h
  · refine .inr ⟨b, off, hA, Nat.lt_of_lt_of_le hlt hb.size, fun i v hv => ?_⟩
    obtain ⟨c0, c1, c2⟩ := hc i v hv
    exact ⟨(hb.cell (p := ⟨b, _, none⟩) hlt).trans c0, (hb.cell (p := ⟨b, _, none⟩) hlt).trans c1, (hb.cell (p := ⟨b, _, none⟩) hlt).trans c2⟩

theorem RowAt.at {w : World} {A : Option Addr} {r : List Va} (h : RowAt w A r) {i : Nat} (hi : i < r.length) :
    ∃ b off : Nat, A = some ⟨b, off, none⟩ ∧ b < w.heap.size ∧ w.cell? ⟨b, off + i * 3, none⟩ = some (.int .i64 r[i].k) ∧ w.cell? ⟨b, off + i * 3 + 1, none⟩ = some (.int .i64 r[i].n) ∧ w.cell? ⟨b, off + i * 3 + 2, none⟩ = some (.string r[i].s) := by
  rcases h with h | ⟨b, off, hA, hlt, hc⟩
  · subst h; simp at hi
  · obtain ⟨c0, c1, c2⟩ := hc i r[i] (List.getElem?_eq_getElem hi)
    exact ⟨b, off, hA, hlt, c0, c1, c2⟩

/-- No text of a row is too long for an int. -/
def Fine (r : List Va) : Prop := ∀ v ∈ r, v.s.size ≤ 9223372036854775807
theorem Fine.at {r : List Va} (h : Fine r) {i : Nat} (hi : i < r.length) : r[i].s.size ≤ 9223372036854775807 := h _ (List.getElem_mem hi)

theorem any_take_succ (p : Va → Bool) (r : List Va) (i : Nat) (hi : i < r.length) : (r.take (i + 1)).any p = ((r.take i).any p || p r[i]) := by
  rw [List.take_succ_eq_append_getElem hi, List.any_append]
  simp

/-- A slice's address, at which values of one cell each lie. -/
def CellsAt (w : World) (A : Option Addr) (xs : List Value) : Prop :=
  xs = [] ∨ ∃ b off : Nat, A = some ⟨b, off, none⟩ ∧ b < w.heap.size ∧ ∀ (i : Nat) (v : Value), xs[i]? = some v → w.cell? ⟨b, off + i, none⟩ = some v
theorem CellsAt.kept {w w' : World} {A : Option Addr} {xs : List Value} (h : CellsAt w A xs) (hb : Below w.heap.size w w') : CellsAt w' A xs := by
  rcases h with h | ⟨b, off, hA, hlt, hc⟩
  · exact .inl h
  · exact .inr ⟨b, off, hA, Nat.lt_of_lt_of_le hlt hb.size, fun i v hv => (hb.cell (p := ⟨b, _, none⟩) hlt).trans (hc i v hv)⟩
theorem CellsAt.at {w : World} {A : Option Addr} {xs : List Value} (h : CellsAt w A xs) {i : Nat} {v : Value} (hi : xs[i]? = some v) :
    ∃ b off : Nat, A = some ⟨b, off, none⟩ ∧ b < w.heap.size ∧ w.cell? ⟨b, off + i, none⟩ = some v := by
  rcases h with h | ⟨b, off, hA, hlt, hc⟩
  · subst h; simp at hi
  · exact ⟨b, off, hA, hlt, hc i v hi⟩
abbrev IntsAt (w : World) (A : Option Addr) (l : List Int) : Prop := CellsAt w A (l.map (Value.int .i64))
abbrev BoolsAt (w : World) (A : Option Addr) (l : List Bool) : Prop := CellsAt w A (l.map Value.bool)

/-- The order of rows. -/
def cmpR : List Va → List Va → Int
  | [], [] => 0
  | [], _ :: _ => -1
  | _ :: _, [] => 1
  | a :: r, b :: r' => if cmpA a b = 0 then cmpR r r' else cmpA a b
theorem cmpR_range : ∀ r r' : List Va, -1 ≤ cmpR r r' ∧ cmpR r r' ≤ 1
  | [], [] => by simp [cmpR]
  | [], _ :: _ => by simp [cmpR]
  | _ :: _, [] => by simp [cmpR]
  | a :: r, b :: r' => by
    rw [cmpR]
    split
    · exact cmpR_range r r'
    · exact cmpV_range ..
theorem cmpA_anti (a b : Va) : cmpA b a = - cmpA a b := cmpV_anti ..
theorem cmpR_anti : ∀ r r' : List Va, cmpR r' r = - cmpR r r'
  | [], [] => rfl
  | [], _ :: _ => rfl
  | _ :: _, [] => rfl
  | a :: r, b :: r' => by
    rw [cmpR, cmpR, cmpA_anti a b, cmpR_anti r r']
    by_cases h : cmpA a b = 0
    · rw [if_pos (by omega), if_pos h]
    · rw [if_neg (by omega), if_neg h]
theorem cmpR_step (r r' : List Va) (j : Nat) (h : j < r.length) (h' : j < r'.length) :
    cmpR (r.drop j) (r'.drop j) = if cmpA r[j] r'[j] = 0 then cmpR (r.drop (j + 1)) (r'.drop (j + 1)) else cmpA r[j] r'[j] := by
  rw [List.drop_eq_getElem_cons h, List.drop_eq_getElem_cons h', cmpR]
theorem cmpR_short (r r' : List Va) (j : Nat) (h : j < r.length) (h' : r'.length ≤ j) : cmpR (r.drop j) (r'.drop j) = 1 := by
  rw [List.drop_eq_getElem_cons h, List.drop_eq_nil_of_le h']; rfl
theorem cmpR_long (r r' : List Va) (j : Nat) (h : r.length ≤ j) (h' : j < r'.length) : cmpR (r.drop j) (r'.drop j) = -1 := by
  rw [List.drop_eq_nil_of_le h, List.drop_eq_getElem_cons h']; rfl
theorem cmpR_both (r r' : List Va) (j : Nat) (h : r.length ≤ j) (h' : r'.length ≤ j) : cmpR (r.drop j) (r'.drop j) = 0 := by
  rw [List.drop_eq_nil_of_le h, List.drop_eq_nil_of_le h']; rfl

/-- A row's value at a place, or null; the order by places. -/
def nullA : Va := ⟨0, 0, ⟨#[]⟩⟩
def atV (r : List Va) (c : Int) : Va := if 0 ≤ c then r.getD c.toNat nullA else nullA
def byV (a b : List Va) : List Int → List Bool → Int
  | [], _ => 0
  | c :: cs, ds => if cmpA (atV a c) (atV b c) = 0 then byV a b cs ds.tail else if ds.headD false then - cmpA (atV a c) (atV b c) else cmpA (atV a c) (atV b c)
theorem byV_step (a b : List Va) (cols : List Int) (down : List Bool) (j : Nat) (h : j < cols.length) :
    byV a b (cols.drop j) (down.drop j) = if cmpA (atV a cols[j]) (atV b cols[j]) = 0 then byV a b (cols.drop (j + 1)) (down.drop (j + 1))
      else if down.getD j false then - cmpA (atV a cols[j]) (atV b cols[j]) else cmpA (atV a cols[j]) (atV b cols[j]) := by
  rw [List.drop_eq_getElem_cons h, byV, List.tail_drop]
  have e : (down.drop j).headD false = down.getD j false := by
    rw [List.headD_eq_head?_getD, List.head?_drop, List.getD_eq_getElem?_getD]
  rw [e]
theorem byV_end (a b : List Va) (cols : List Int) (down : List Bool) (j : Nat) (h : cols.length ≤ j) : byV a b (cols.drop j) (down.drop j) = 0 := by
  rw [List.drop_eq_nil_of_le h]; rfl
end Go.Proofs.YtmjckdgomlppeaaGreatDoor
end
section
namespace Go.Proofs.YtmjckdgomlppeaaGreatDoor
open Go.RowKit

def Va.cells (v : Va) : List Value := [.int .i64 v.k, .int .i64 v.n, .string v.s]
def rowList (l : List Va) : List Value := l.flatMap Va.cells
def rowCells (l : List Va) : Array Value := (rowList l).toArray

theorem rowList_cons (v : Va) (l : List Va) : rowList (v :: l) = .int .i64 v.k :: .int .i64 v.n :: .string v.s :: rowList l := rfl
theorem rowList_length (l : List Va) : (rowList l).length = l.length * 3 := by
  induction l with
  | nil => rfl
  | cons v l ih => rw [rowList_cons]; simp [ih]; omega
theorem rowList_append (l l' : List Va) : rowList (l ++ l') = rowList l ++ rowList l' := by simp [rowList]
theorem rowList_at : ∀ (l : List Va) (i : Nat) (v : Va), l[i]? = some v →
    (rowList l)[i * 3]? = some (.int .i64 v.k) ∧ (rowList l)[i * 3 + 1]? = some (.int .i64 v.n) ∧ (rowList l)[i * 3 + 2]? = some (.string v.s)
  | [], i, v, h => by simp at h
  | u :: l, 0, v, h => by
    obtain rfl : u = v := by simpa using h
    rw [rowList_cons]; simp
  | u :: l, i + 1, v, h => by
    have := rowList_at l i v (by simpa using h)
    rw [rowList_cons, show (i + 1) * 3 = i * 3 + 3 by omega, show i * 3 + 3 + 1 = i * 3 + 1 + 3 by omega, show i * 3 + 3 + 2 = i * 3 + 2 + 3 by omega]
    simpa using this
theorem rowList_set : ∀ (l : List Va) (i : Nat) (v : Va), i < l.length →
    (((rowList l).set (i * 3) (.int .i64 v.k)).set (i * 3 + 1) (.int .i64 v.n)).set (i * 3 + 2) (.string v.s) = rowList (l.set i v)
  | [], i, v, h => by simp at h
  | u :: l, 0, v, _ => by show _ = rowList (v :: l); rw [rowList_cons, rowList_cons]; rfl
  | u :: l, i + 1, v, h => by
    have := rowList_set l i v (by simpa using h)
    rw [rowList_cons, List.set_cons_succ, rowList_cons, ← this, show (i + 1) * 3 = i * 3 + 3 by omega, show i * 3 + 3 + 1 = i * 3 + 1 + 3 by omega, show i * 3 + 3 + 2 = i * 3 + 2 + 3 by omega]
    simp
theorem oneCell_row (l : List Va) : ∀ u ∈ rowList l, u.oneCell' = true := by
  intro u hu
  obtain ⟨v, _, hv⟩ := List.mem_flatMap.1 hu
  simp [Va.cells] at hv
  rcases hv with rfl | rfl | rfl <;> rfl

/-- Block g is just this row. -/
def Own (w : World) (T : TypeId) (g : Nat) (l : List Va) : Prop := w.heap[g]? = some (.cells (rowCells l) T (0, 0))

section
variable {w w' : World} {T : TypeId} {g : Nat} {l : List Va}
theorem Own.lt (h : Own w T g l) : g < w.heap.size := by
  rcases Nat.lt_or_ge g w.heap.size with hl | hg
  · exact hl
  · unfold Own at h; rw [Array.getElem?_eq_none hg] at h; cases h
theorem Own.cellAt (h : Own w T g l) (o : Nat) : w.cell? ⟨g, o, none⟩ = (rowList l)[o]? := by
  unfold Own at h
  simp [World.cell?, h, rowCells]
theorem Own.at (h : Own w T g l) {i : Nat} {v : Va} (hv : l[i]? = some v) :
    w.cell? ⟨g, i * 3, none⟩ = some (.int .i64 v.k) ∧ w.cell? ⟨g, i * 3 + 1, none⟩ = some (.int .i64 v.n) ∧ w.cell? ⟨g, i * 3 + 2, none⟩ = some (.string v.s) := by
  obtain ⟨a, b, c⟩ := rowList_at l i v hv
  exact ⟨(h.cellAt _).trans a, (h.cellAt _).trans b, (h.cellAt _).trans c⟩
theorem Own.free (h : Own w T g l) (o : Nat) : w.frozen? ⟨g, o, none⟩ = false := by
  unfold Own at h
  simp [World.frozen?, h]
theorem Own.kept (h : Own w T g l) (hb : Below w.heap.size w w') : Own w' T g l := (hb.block g h.lt).trans h
theorem Own.new (w : World) (T : TypeId) (l : List Va) : Own (w.alloc (.cells (rowCells l) T)) T w.heap.size l := heap_alloc_new w _
theorem Own.drew (h : Own w T g l) : Own w.drew T g l := h
theorem Own.put (h : Own w T g l) {i : Nat} (hi : i < l.length) (v : Va) :
    Own (((w.setCell ⟨g, i * 3, none⟩ (.int .i64 v.k)).setCell ⟨g, i * 3 + 1, none⟩ (.int .i64 v.n)).setCell ⟨g, i * 3 + 2, none⟩ (.string v.s)) T g (l.set i v) := by
  unfold Own at h ⊢
  simp only [World.setCell, Array.getElem?_modify, if_true, h, Option.map_some]
  simp only [rowCells, List.setIfInBounds_toArray, Option.isSome_none, Bool.false_eq_true, if_false]
  rw [rowList_set l i v hi]
theorem Own.row (h : Own w T g l) : RowAt w (some ⟨g, 0, none⟩) l := by
  refine .inr ⟨g, 0, rfl, h.lt, fun i v hv => ?_⟩
  obtain ⟨a, b, c⟩ := h.at hv
  exact ⟨by rw [Nat.zero_add]; exact a, by rw [Nat.zero_add]; exact b, by rw [Nat.zero_add]; exact c⟩
end

/-- A row that is owned as append's laws say it is one that can be read. -/
theorem row_of_owns {w : World} {base : Nat} {e : TypeId} {A : Option Addr} {c : Nat} {l : List Va} (h : w.ownsRow base e 3 (.slice A l.length c) l.length (rowList l)) : RowAt w A l := by
  rcases h.2 with ⟨hv, hn⟩ | ⟨g, cap, cur, hv, hb, hg, _, _, _, ht⟩
  · exact .inl (List.eq_nil_of_length_eq_zero hn)
  · refine .inr ⟨g, 0, by injection hv, ?_, fun i v hi => ?_⟩
    · rcases Nat.lt_or_ge g w.heap.size with hl | hg'
      · exact hl
      · rw [Array.getElem?_eq_none hg'] at hg; cases hg
    · have hil : i < l.length := (List.getElem?_eq_some_iff.1 hi).1
      have key : ∀ o u, o < l.length * 3 → (rowList l)[o]? = some u → w.cell? ⟨g, 0 + o, none⟩ = some u := by
        intro o u ho hu
        rw [← ht, List.getElem?_take_of_lt ho, Array.getElem?_toList] at hu
        rw [Nat.zero_add]
        simp [World.cell?, hg, hu]
      obtain ⟨a, b, c⟩ := rowList_at l i v hi
      exact ⟨key _ _ (by omega) a, key _ _ (by omega) b, key _ _ (by omega) c⟩

/-- What make lays, of values that are null. -/
theorem made_nulls (n : Nat) : madeCells #[.int .i64 0, .int .i64 0, .string ⟨#[]⟩] (n * 3) = rowCells (List.replicate n nullA) := by
  apply Array.ext'
  apply List.ext_getElem?
  intro o
  by_cases ho : o < n * 3
  · have hq : (List.replicate n nullA)[o / 3]? = some nullA := by
      rw [List.getElem?_replicate]; simp; omega
    obtain ⟨a, b, c⟩ := rowList_at _ _ _ hq
    have e1 : (madeCells #[.int .i64 0, .int .i64 0, .string ⟨#[]⟩] (n * 3)).toList[o]? = some (#[Value.int .i64 0, .int .i64 0, .string ⟨#[]⟩][o % 3]!) := by
      simp [madeCells, ho]
    rw [e1]
    show _ = (rowList _)[o]?
    have hm : o % 3 = 0 ∨ o % 3 = 1 ∨ o % 3 = 2 := by omega
    rcases hm with hm | hm | hm
    · rw [hm, show o = o / 3 * 3 by omega, a]; rfl
    · rw [hm, show o = o / 3 * 3 + 1 by omega, b]; rfl
    · rw [hm, show o = o / 3 * 3 + 2 by omega, c]; rfl
  · rw [List.getElem?_eq_none (by simp [size_madeCells]; omega), List.getElem?_eq_none]
    show (rowList _).length ≤ o
    rw [rowList_length]; simp; omega

end Go.Proofs.YtmjckdgomlppeaaGreatDoor
end
section
namespace Go.Proofs.YtmjckdgomlppeaaGreatDoor
open Go.RowKit

set_option maxHeartbeats 400000 in
theorem mayBe_any (k n : Int) (s : ByteArray) (w : World) (hs : s.size ≤ 9223372036854775807) :
    Calls Tryz.prog 88 #[VV k n s] w fun e w' => e = .returned (.bool (okV k n s)) ∧ Below w.heap.size w w' := by
  go_enter Tryz.func88, Tryz.ntmps88
  go_wp2
  all_goals
    go_ret
    refine ⟨ret_bool (by simp_all [okV] <;> (intros; omega)), (Below.refl _ _).alloc (Nat.le_refl _) _⟩

theorem mayBe_yes (k n : Int) (s : ByteArray) (w : World) (hs : s.size ≤ 9223372036854775807) (h : okV k n s = true) :
    Calls Tryz.prog 88 #[VV k n s] w fun e w' => e = .returned (.bool true) ∧ Below w.heap.size w w' := by
  rw [← h]; exact mayBe_any k n s w hs
theorem mayBe_no (k n : Int) (s : ByteArray) (w : World) (hs : s.size ≤ 9223372036854775807) (h : okV k n s = false) :
    Calls Tryz.prog 88 #[VV k n s] w fun e w' => e = .returned (.bool false) ∧ Below w.heap.size w w' := by
  rw [← h]; exact mayBe_any k n s w hs

set_option maxHeartbeats 400000 in
theorem check_any (k n : Int) (s : ByteArray) (w : World) (hs : s.size ≤ 9223372036854775807) :
    Calls Tryz.prog 67 #[VV k n s] w fun e w' => e = .returned (.int .i64 (if okV k n s then 0 else 10)) ∧ Below w.heap.size w w' := by
  cases hok : okV k n s
  · go_enter Tryz.func67, Tryz.ntmps67
    go_wp2_with (go_at_call 88; refine (mayBe_no _ _ _ _ hs hok).mono ?_; rintro e w' ⟨rfl, hb⟩)
    go_ret
    exact ⟨rfl, ((Below.refl _ _).alloc (Nat.le_refl _) _).trans (hb.mono (by simp))⟩
  · go_enter Tryz.func67, Tryz.ntmps67
    go_wp2_with (go_at_call 88; refine (mayBe_yes _ _ _ _ hs hok).mono ?_; rintro e w' ⟨rfl, hb⟩)
    go_ret
    exact ⟨rfl, ((Below.refl _ _).alloc (Nat.le_refl _) _).trans (hb.mono (by simp))⟩

set_option maxHeartbeats 400000 in
theorem refInt_any (n : Int) (w : World) :
    Calls Tryz.prog 52 #[.int .i64 n] w fun e w' => e = .returned (VV 2 n ⟨#[]⟩) ∧ Below w.heap.size w w' := by
  go_enter Tryz.func52, Tryz.ntmps52
  go_wp2
  refine bodyPost_ret (v := VV 2 n ⟨#[]⟩) (by simp [results, Tryz.results52, go_sem]) rfl ⟨rfl, ?_⟩
  exact (Below.refl _ _).alloc (Nat.le_refl _) _
set_option maxHeartbeats 400000 in
theorem refCheck_any (k n : Int) (s : ByteArray) (w : World) (hs : s.size ≤ 9223372036854775807) :
    Calls Tryz.prog 69 #[VV k n s] w fun e w' => e = .returned (.bool (okV k n s)) ∧ Below w.heap.size w w' := by
  go_enter Tryz.func69, Tryz.ntmps69
  go_wp2
  all_goals
    go_ret
    refine ⟨ret_bool (by simp_all [okV] <;> (intros; omega)), (Below.refl _ _).alloc (Nat.le_refl _) _⟩
theorem refCheck_yes (k n : Int) (s : ByteArray) (w : World) (hs : s.size ≤ 9223372036854775807) (h : okV k n s = true) :
    Calls Tryz.prog 69 #[VV k n s] w fun e w' => e = .returned (.bool true) ∧ Below w.heap.size w w' := by
  rw [← h]; exact refCheck_any k n s w hs
theorem refCheck_no (k n : Int) (s : ByteArray) (w : World) (hs : s.size ≤ 9223372036854775807) (h : okV k n s = false) :
    Calls Tryz.prog 69 #[VV k n s] w fun e w' => e = .returned (.bool false) ∧ Below w.heap.size w w' := by
  rw [← h]; exact refCheck_any k n s w hs

set_option maxHeartbeats 400000 in
theorem cmpInt_any (a b : Int) (w : World) :
    Calls Tryz.prog 130 #[.int .i64 a, .int .i64 b] w fun e w' => e = .returned (.int .i64 (cmpI a b)) ∧ w = w' := by
  go_enter Tryz.func130, Tryz.ntmps130
  go_wp2
  all_goals
    go_ret
    exact ⟨ret_int (by unfold cmpI; (repeat' split) <;> omega), rfl⟩
set_option maxHeartbeats 400000 in
theorem cmpStr_any (a b : ByteArray) (w : World) :
    Calls Tryz.prog 131 #[.string a, .string b] w fun e w' => e = .returned (.int .i64 (cmpS a b)) ∧ w = w' := by
  go_enter Tryz.func131, Tryz.ntmps131
  go_wp2
  all_goals
    go_ret
    exact ⟨ret_int (by simp_all [cmpS]), rfl⟩

end Go.Proofs.YtmjckdgomlppeaaGreatDoor
end
section
namespace Go.Proofs.YtmjckdgomlppeaaGreatDoor
open Go.RowKit

set_option maxHeartbeats 400000 in
theorem compare_any (k n : Int) (s : ByteArray) (k' n' : Int) (s' : ByteArray) (w : World) :
    Calls Tryz.prog 118 #[VV k n s, VV k' n' s'] w fun e w' => e = .returned (.int .i64 (cmpV k n s k' n' s')) ∧ Below w.heap.size w w' := by
  have hB : ∀ o1 o2, Below w.heap.size w ((w.alloc o1).alloc o2) := fun o1 o2 => ((Below.refl _ _).alloc (Nat.le_refl _) _).alloc (by simp) _
  by_cases hk : k = k'
  · subst hk
    by_cases hn : n = n'
    · subst hn
      go_enter Tryz.func118, Tryz.ntmps118
      go_wp2_with (go_at_call 131; refine (cmpStr_any _ _ _).mono ?_; rintro e w' ⟨rfl, rfl⟩)
      go_ret
      exact ⟨ret_int (by simp [cmpV]), hB _ _⟩
    · have hn' : (n != n') = true := by simpa using hn
      go_enter Tryz.func118, Tryz.ntmps118
      go_wp2_with (go_at_call 130; refine (cmpInt_any _ _ _).mono ?_; rintro e w' ⟨rfl, rfl⟩)
      go_ret
      exact ⟨ret_int (by simp [cmpV, hn]), hB _ _⟩
  · have hk' : (k != k') = true := by simpa using hk
    go_enter Tryz.func118, Tryz.ntmps118
    go_wp2_with (go_at_call 130; refine (cmpInt_any _ _ _).mono ?_; rintro e w' ⟨rfl, rfl⟩)
    go_ret
    exact ⟨ret_int (by simp [cmpV, hk]), hB _ _⟩

theorem run_eqV (k n : Int) (s : ByteArray) (k' n' : Int) (s' : ByteArray) (w : World) :
    (binOp .eql 69 (VV k n s) (VV k' n' s')).run Tryz.prog w = .ok (.bool (eqV k n s k' n' s')) w := by
  have u3 := Tryz.underlying3
  have a3 := Tryz.isAgg3
  have z3 := Tryz.sizeOf3
  have u9 := Tryz.underlying9
  have a9 := Tryz.isAgg9
  have z9 := Tryz.sizeOf9
  have hS : Tryz.prog.underlying 69 = some (.struct (Tryz.prog.fieldsOf 69)) := by kernel_rfl
  have hp : Tryz.prog.stoodInHeld 69 = false := by kernel_rfl
  rw [run_eql_struct, show (10000 : Nat) = 9999 + 1 from rfl, run_equalIn_agg w 9999 69 _ _ hS hp]
  simp only [Program.fieldsOf, Tryz.underlying69]
  go_simp
  unfold eqV
  by_cases h1 : k = k' <;> by_cases h2 : n = n' <;> by_cases h3 : s.toList = s'.toList <;> simp [h1, h2, h3]

set_option maxHeartbeats 400000 in
theorem refCompare_any (k n : Int) (s : ByteArray) (k' n' : Int) (s' : ByteArray) (w : World) :
    Calls Tryz.prog 85 #[VV k n s, VV k' n' s'] w fun e w' => e = .returned (.int .i64 (cmpV k n s k' n' s')) ∧ Below w.heap.size w w' := by
  have hB : ∀ o1 o2, Below w.heap.size w ((w.alloc o1).alloc o2) := fun o1 o2 => ((Below.refl _ _).alloc (Nat.le_refl _) _).alloc (by simp) _
  have hq := run_eqV k n s k' n' s'
  go_enter Tryz.func85, Tryz.ntmps85
  go_wp2
  all_goals
    go_ret
    exact ⟨ret_int (by simp_all [cmpV, cmpS, cmpI, eqV] <;> omega), hB _ _⟩

end Go.Proofs.YtmjckdgomlppeaaGreatDoor
end
section
namespace Go.Proofs.YtmjckdgomlppeaaGreatDoor
open Go.RowKit Go.Shelf

theorem cell_kept {w w' : World} (hb : Below w.heap.size w w') {p : Addr} {v : Value} (h : w.cell? p = some v) : w'.cell? p = some v := by
  have hl : p.block < w.heap.size := by
    rcases Nat.lt_or_ge p.block w.heap.size with hl | hg
    · exact hl
    · rw [World.cell?, Array.getElem?_eq_none hg] at h; cases h
  exact (hb.cell hl).trans h
theorem compareA (a b : Va) (w : World) :
    Calls Tryz.prog 118 #[VV a.k a.n a.s, VV b.k b.n b.s] w fun e w' => e = .returned (.int .i64 (cmpA a b)) ∧ Below w.heap.size w w' := compare_any _ _ _ _ _ _ _
theorem refCompareA (a b : Va) (w : World) :
    Calls Tryz.prog 85 #[VV a.k a.n a.s, VV b.k b.n b.s] w fun e w' => e = .returned (.int .i64 (cmpA a b)) ∧ Below w.heap.size w w' := refCompare_any _ _ _ _ _ _ _

set_option maxHeartbeats 1000000 in
theorem compareFunc_any (A A' : Option Addr) (c c' : Nat) (r r' : List Va) (w : World) (h : RowAt w A r) (h' : RowAt w A' r') (hl : r.length ≤ 9223372036854775807) (_hl' : r'.length ≤ 9223372036854775807) :
    Calls Tryz.prog 117 #[.slice A r.length c, .slice A' r'.length c', .func (.func 118) #[] #[]] w fun e w' => e = .returned (.int .i64 (cmpR r r')) ∧ Below w.heap.size w w' := by
  have eg := enters_of Tryz.func118 (by kernel_rfl) rfl
  unfold Enters at eg
  go_enter Tryz.func117, Tryz.ntmps117
  go_wp2_with fail
  go_loopw [13] (fun i wr => ∃ j : Nat, j ≤ r.length ∧ j ≤ r'.length ∧ i = .int .i64 j ∧ Below w.heap.size w wr ∧ Hid (cmpR r r' = cmpR (r.drop j) (r'.drop j))) (fun i _ => r.length - (intOf i).toNat)
  case atStart => exact ⟨0, Nat.zero_le _, Nat.zero_le _, rfl, Below.refl _ _, Lib.hid (by simp)⟩
  case round =>
    obtain ⟨j, hj, hj', rfl, hB, HC⟩ := hrel
    have hr := h.kept hB
    have hr' := h'.kept hB
    have HR := Lib.hid h
    have HR' := Lib.hid h'
    clear h h'
    by_cases hlt : j < r.length
    · obtain ⟨b, off, rfl, hb, c0, c1, c2⟩ := hr.at hlt
      clear hr
      by_cases hlt' : j < r'.length
      · obtain ⟨b', off', rfl, hb', d0, d1, d2⟩ := hr'.at hlt'
        clear hr'
        have HS := Lib.hid (cmpR_step r r' j hlt hlt')
        generalize r[j] = v at c0 c1 c2 HS
        generalize r'[j] = v' at d0 d1 d2 HS
        by_cases hz : cmpA v v' = 0
        · have hz' : (cmpA v v' != 0) = false := by simpa using hz
          have HE := Lib.hid (show cmpR r r' = cmpR (r.drop (j + 1)) (r'.drop (j + 1)) by rw [HC.out, HS.out, if_pos hz])
          clear hz
          go_wp2_with fail
          refine (compareA v v' _).mono ?_
          rintro e w1 ⟨rfl, hb1⟩
          have hB1 := bt hB (bt (ba2 _ _ _) hb1)
          clear hb1
          go_wp2_with fail
          go_roundw
          case rel => exact ⟨j + 1, by omega, by omega, by go_num, hB1, HE⟩
          case measure => simp [intOf]; omega
        · have hz' : (cmpA v v' != 0) = true := by simpa using hz
          have HE := Lib.hid (show cmpR r r' = cmpA v v' by rw [HC.out, HS.out, if_neg hz])
          clear hz
          go_wp2_with fail
          refine (compareA v v' _).mono ?_
          rintro e w1 ⟨rfl, hb1⟩
          have hB1 := bt hB (bt (ba2 _ _ _) hb1)
          clear hb1
          go_wp2_with fail
          go_ret
          exact ⟨ret_int HE.out.symm, hB1⟩
      · have HE := Lib.hid (show cmpR r r' = 1 by rw [HC.out]; exact cmpR_short r r' j hlt (by omega))
        go_wp2_with fail
        go_ret
        exact ⟨ret_int HE.out.symm, bt hB (ba _ _)⟩
    · by_cases hlt' : j < r'.length
      · have HE := Lib.hid (show cmpR r r' = -1 by rw [HC.out]; exact cmpR_long r r' j (by omega) hlt')
        go_wp2_with fail
        go_ret
        exact ⟨ret_int HE.out.symm, hB⟩
      · have HE := Lib.hid (show cmpR r r' = 0 by rw [HC.out]; exact cmpR_both r r' j (by omega) (by omega))
        go_wp2_with fail
        go_ret
        exact ⟨ret_int HE.out.symm, hB⟩

set_option maxHeartbeats 400000 in
theorem rowCompare_any (A A' : Option Addr) (c c' : Nat) (r r' : List Va) (w : World) (h : RowAt w A r) (h' : RowAt w A' r') (hl : r.length ≤ 9223372036854775807) (hl' : r'.length ≤ 9223372036854775807) :
    Calls Tryz.prog 109 #[.slice A r.length c, .slice A' r'.length c'] w fun e w' => e = .returned (.int .i64 (cmpR r r')) ∧ Below w.heap.size w w' := by
  go_enter Tryz.func109, Tryz.ntmps109
  go_wp2_with fail
  refine (compareFunc_any A A' c c' r r' _ h h' hl hl').mono ?_
  rintro e w1 ⟨rfl, hb1⟩
  go_wp2_with fail
  go_ret
  exact ⟨rfl, hb1⟩
set_option maxHeartbeats 400000 in
theorem rowSame_any (A A' : Option Addr) (c c' : Nat) (r r' : List Va) (w : World) (h : RowAt w A r) (h' : RowAt w A' r') (hl : r.length ≤ 9223372036854775807) (hl' : r'.length ≤ 9223372036854775807) :
    Calls Tryz.prog 92 #[.slice A r.length c, .slice A' r'.length c'] w fun e w' => e = .returned (.bool (cmpR r r' == 0)) ∧ Below w.heap.size w w' := by
  go_enter Tryz.func92, Tryz.ntmps92
  go_wp2_with fail
  refine (rowCompare_any A A' c c' r r' _ h h' hl hl').mono ?_
  rintro e w1 ⟨rfl, hb1⟩
  go_wp2_with fail
  go_ret
  exact ⟨rfl, hb1⟩

set_option maxRecDepth 100000 in
set_option maxHeartbeats 2000000 in
theorem refRowCompare_any (A A' : Option Addr) (c c' : Nat) (r r' : List Va) (w : World) (h : RowAt w A r) (h' : RowAt w A' r') (hl : r.length ≤ 9223372036854775807) (_hl' : r'.length ≤ 9223372036854775807) :
    Calls Tryz.prog 62 #[.slice A r.length c, .slice A' r'.length c'] w fun e w' => e = .returned (.int .i64 (cmpR r r')) ∧ Below w.heap.size w w' := by
  go_enter Tryz.func62, Tryz.ntmps62
  go_wp2_with fail
  go_loopw [5] (fun i wr => ∃ j : Nat, j ≤ r.length ∧ j ≤ r'.length ∧ i = .int .i64 j ∧ Below w.heap.size w wr ∧ Hid (cmpR r r' = cmpR (r.drop j) (r'.drop j))) (fun i _ => r.length - (intOf i).toNat)
  case atStart => exact ⟨0, Nat.zero_le _, Nat.zero_le _, rfl, Below.refl _ _, Lib.hid (by simp)⟩
  case round =>
    obtain ⟨j, hj, hj', rfl, hB, HC⟩ := hrel
    have hr := h.kept hB
    have hr' := h'.kept hB
    have HR := Lib.hid h
    have HR' := Lib.hid h'
    clear h h'
    by_cases hlt : j < r.length
    · by_cases hlt' : j < r'.length
      · obtain ⟨b, off, rfl, hb, c0, c1, c2⟩ := hr.at hlt
        obtain ⟨b', off', rfl, hb', d0, d1, d2⟩ := hr'.at hlt'
        clear hr hr'
        have HS := Lib.hid (cmpR_step r r' j hlt hlt')
        generalize r[j] = v at c0 c1 c2 HS
        generalize r'[j] = v' at d0 d1 d2 HS
        have hi0 : (0 : Int) ≤ (j : Int) := Int.natCast_nonneg _
        have hi1 : (j : Int) < (r.length : Int) := by omega
        have hi2 : (j : Int) < (r'.length : Int) := by omega
        have hB1 := Below.drew hB
        go_wp2_with fail
        go_region_held3 (fun w' => Below w.heap.size w w' ∧ w'.cell? ⟨b, off + j * 3, none⟩ = some (.int .i64 v.k) ∧ w'.cell? ⟨b, off + j * 3 + 1, none⟩ = some (.int .i64 v.n) ∧ w'.cell? ⟨b, off + j * 3 + 2, none⟩ = some (.string v.s) ∧
            w'.cell? ⟨b', off' + j * 3, none⟩ = some (.int .i64 v'.k) ∧ w'.cell? ⟨b', off' + j * 3 + 1, none⟩ = some (.int .i64 v'.n) ∧ w'.cell? ⟨b', off' + j * 3 + 2, none⟩ = some (.string v'.s))
          (first
            | exact ⟨hB1, c0, c1, c2, d0, d1, d2⟩
            | ((try go_split_ands)
               refine ⟨?_, ?_, ?_, ?_, ?_, ?_, ?_⟩
               all_goals first | assumption | (exact Below.drew (by assumption)) | (exact bt (by assumption) hbx) | (exact cell_kept hbx (by assumption)) | go_keep))
          (first
            | (go_at_call 85; refine (refCompareA v v' _).mono ?_; rintro e w' ⟨rfl, hbx⟩))
        rename_i hold
        have hB2 := hold.1
        clear hold hB1 hB c0 c1 c2 d0 d1 d2
        by_cases hz : cmpA v v' = 0
        · have hz' : (cmpA v v' != 0) = false := by simpa using hz
          have HE := Lib.hid (show cmpR r r' = cmpR (r.drop (j + 1)) (r'.drop (j + 1)) by rw [HC.out, HS.out, if_pos hz])
          clear hz
          go_wp2_with fail
          go_roundw
          case rel => exact ⟨j + 1, by omega, by omega, by go_num, hB2, HE⟩
          case measure => simp [intOf]; omega
        · have hz' : (cmpA v v' != 0) = true := by simpa using hz
          have HE := Lib.hid (show cmpR r r' = cmpA v v' by rw [HC.out, HS.out, if_neg hz])
          clear hz
          go_wp2_with fail
          go_ret
          exact ⟨ret_int HE.out.symm, hB2⟩
      · have HE := Lib.hid (show cmpR r r' = 1 by rw [HC.out]; exact cmpR_short r r' j hlt (by omega))
        go_wp2_with fail
        go_ret
        exact ⟨ret_int HE.out.symm, hB⟩
    · by_cases hlt' : j < r'.length
      · have HE := Lib.hid (show cmpR r r' = -1 by rw [HC.out]; exact cmpR_long r r' j (by omega) hlt')
        go_wp2_with fail
        go_ret
        exact ⟨ret_int HE.out.symm, hB⟩
      · have HE := Lib.hid (show cmpR r r' = 0 by rw [HC.out]; exact cmpR_both r r' j (by omega) (by omega))
        go_wp2_with fail
        go_ret
        exact ⟨ret_int HE.out.symm, hB⟩

set_option maxHeartbeats 400000 in
theorem refRowSame_any (A A' : Option Addr) (c c' : Nat) (r r' : List Va) (w : World) (h : RowAt w A r) (h' : RowAt w A' r') (hl : r.length ≤ 9223372036854775807) (hl' : r'.length ≤ 9223372036854775807) :
    Calls Tryz.prog 50 #[.slice A r.length c, .slice A' r'.length c'] w fun e w' => e = .returned (.bool (cmpR r r' == 0)) ∧ Below w.heap.size w w' := by
  go_enter Tryz.func50, Tryz.ntmps50
  go_wp2_with fail
  refine (refRowCompare_any A A' c c' r r' _ h h' hl hl').mono ?_
  rintro e w1 ⟨rfl, hb1⟩
  go_wp2_with fail
  go_ret
  exact ⟨rfl, hb1⟩

end Go.Proofs.YtmjckdgomlppeaaGreatDoor
end
section
namespace Go.Proofs.YtmjckdgomlppeaaGreatDoor
open Go.RowKit Go.Shelf

theorem atV_in (r : List Va) (i : Nat) (h : i < r.length) : atV r (i : Int) = r[i] := by
  unfold atV
  rw [if_pos (Int.natCast_nonneg _), Int.toNat_natCast, List.getD_eq_getElem?_getD, List.getElem?_eq_getElem h]; rfl
theorem atV_neg (r : List Va) (c : Int) (h : c < 0) : atV r c = nullA := by unfold atV; rw [if_neg (by omega)]
theorem atV_out (r : List Va) (c : Int) (h : (r.length : Int) ≤ c) : atV r c = nullA := by
  unfold atV
  rw [if_pos (by omega), List.getD_eq_getElem?_getD, List.getElem?_eq_none (by omega)]; rfl

def hasV (r : List Va) (c : Int) : Bool := decide (0 ≤ c) && decide (c < r.length)

theorem map_at (l : List Int) (j : Nat) (h : j < l.length) : (l.map (Value.int .i64))[j]? = some (.int .i64 l[j]) := by
  rw [List.getElem?_map, List.getElem?_eq_getElem h]; rfl
theorem mapb_at (l : List Bool) (j : Nat) (h : j < l.length) : (l.map Value.bool)[j]? = some (.bool l[j]) := by
  rw [List.getElem?_map, List.getElem?_eq_getElem h]; rfl

end Go.Proofs.YtmjckdgomlppeaaGreatDoor
end
section
namespace Go.Proofs.YtmjckdgomlppeaaGreatDoor
open Go.RowKit Go.Shelf

/-- A row that is told, in new memory, beside a number. -/
def RowEnd (w : World) (r : List Va) (k : Int) (e : Ending) (w' : World) : Prop :=
  ∃ (A : Option Addr) (c : Nat), e = .returned (.tuple #[.slice A r.length c, .int .i64 k]) ∧ RowAt w' A r ∧ Below w.heap.size w w'

theorem info_val : (Tryz.prog.info? 69).map (fun i => (i.zero, i.size, i.bytes)) = some (some (VV 0 0 ⟨#[]⟩), 3, 32) := by kernel_rfl

theorem make_row (n : Nat) (hn : n ≤ 65536) (w : World) : (Instr.makeSlice 38 (.int .i64 n) (.int .i64 n)).run Tryz.prog w =
    .ok (.slice (some ⟨w.heap.size, 0, none⟩) n n) (w.alloc (.cells (rowCells (List.replicate n nullA)) 69)) := by
  obtain ⟨i0, hi, hz0, hz1, hz2⟩ := info_parts info_val
  have h := run_make (P := Tryz.prog) w 38 69 i0 _ Tryz.underlying38 hi hz0 .i64 .i64 n n (by omega) (Int.le_refl _) (by rw [hz2]; omega) (by omega)
  rw [hz1] at h
  simp only [Int.toNat_natCast] at h
  have e : madeCells (VV 0 0 ⟨#[]⟩).cells (n * 3) = rowCells (List.replicate n nullA) := made_nulls n
  rw [e] at h
  exact h

/-- Is a place none of the row's? -/
def lackV (r : List Va) (c : Int) : Bool := !(hasV r c)

def PlaceEnd (b : Bool) (w : World) (e : Ending) (w' : World) : Prop := ∃ i : Int, -1 ≤ i ∧ decide (0 ≤ i) = b ∧ e = .returned (.int .i64 i) ∧ w = w'

theorem anyi_take_succ (p : Int → Bool) (l : List Int) (i : Nat) (hi : i < l.length) : (l.take (i + 1)).any p = ((l.take i).any p || p l[i]) := by
  rw [List.take_succ_eq_append_getElem hi, List.any_append]
  simp

/-- What has been picked so far, and nulls. -/
def pickTo (r : List Va) (cols : List Int) (j : Nat) : List Va := (cols.take j).map (atV r) ++ List.replicate (cols.length - j) nullA
theorem pickTo_len (r : List Va) (cols : List Int) (j : Nat) (h : j ≤ cols.length) : (pickTo r cols j).length = cols.length := by
  simp [pickTo]; omega
theorem pickTo_zero (r : List Va) (cols : List Int) : pickTo r cols 0 = List.replicate cols.length nullA := by simp [pickTo]
theorem pickTo_all (r : List Va) (cols : List Int) : pickTo r cols cols.length = cols.map (atV r) := by simp [pickTo]
theorem pickTo_next (r : List Va) (cols : List Int) (j : Nat) (h : j < cols.length) : (pickTo r cols j).set j (atV r cols[j]) = pickTo r cols (j + 1) := by
  unfold pickTo
  have hl : ((cols.take j).map (atV r)).length = j := by simp; omega
  rw [List.set_append_right _ _ (by omega), hl, Nat.sub_self, List.take_succ_eq_append_getElem h, List.map_append, List.append_assoc]
  congr 1
  obtain ⟨m, hm⟩ : ∃ m, cols.length - j = m + 1 := ⟨cols.length - j - 1, by omega⟩
  rw [hm, show cols.length - (j + 1) = m by omega]
  rfl
theorem pickTo_at (r : List Va) (cols : List Int) (j : Nat) (h : j < cols.length) : (pickTo r cols j)[j]? = some nullA := by
  unfold pickTo
  have hl : ((cols.take j).map (atV r)).length = j := by simp; omega
  rw [List.getElem?_append_right (by omega), hl, Nat.sub_self, List.getElem?_replicate]
  simp; omega

/-- A row that is told, in new memory, beside a bool. -/
def RowEndB (w : World) (r : List Va) (k : Bool) (e : Ending) (w' : World) : Prop :=
  ∃ (A : Option Addr) (c : Nat), e = .returned (.tuple #[.slice A r.length c, .bool k]) ∧ RowAt w' A r ∧ Below w.heap.size w w'
/-- A row refused: nothing is told, and false. -/
def NoneEndB (w : World) (e : Ending) (w' : World) : Prop := e = .returned (.tuple #[.slice none 0 0, .bool false]) ∧ Below w.heap.size w w'

theorem owns_form {w : World} {base : Nat} {e : TypeId} {v : Value} {l : List Va} (h : w.ownsRow base e 3 v l.length (rowList l)) : ∃ A c, v = .slice A l.length c ∧ RowAt w A l := by
  rcases h.2 with ⟨hv, hn⟩ | ⟨g, cap, cur, hv, _⟩
  · refine ⟨none, 0, ?_, .inl (List.eq_nil_of_length_eq_zero hn)⟩
    rw [hn]; exact hv
  · subst hv
    exact ⟨_, _, rfl, row_of_owns h⟩

end Go.Proofs.YtmjckdgomlppeaaGreatDoor
end
section
namespace Go.Proofs.YtmjckdgomlppeaaGreatDoor
open Go.RowKit Go.Shelf

/-- A row that is told, in new memory. -/
def RowBack (w : World) (r : List Va) (e : Ending) (w' : World) : Prop :=
  ∃ (A : Option Addr) (c : Nat), e = .returned (.slice A r.length c) ∧ RowAt w' A r ∧ Below w.heap.size w w'

/-- What lies at a slice's address, as append's laws ask it. -/
theorem news_of_row {w : World} {ad : Addr} {r : List Va} (h : RowAt w (some ad) r) : ∀ j u, (rowList r)[j]? = some u → w.cell? (ad.add j) = some u := by
  intro j u hu
  rcases h with h | ⟨b, off, hA, _, hc⟩
  · subst h; simp [rowList] at hu
  · have hA' : ad = ⟨b, off, none⟩ := by injection hA
    subst hA'
    have hj : j < r.length * 3 := by rw [← rowList_length]; exact (List.getElem?_eq_some_iff.1 hu).1
    have hi : j / 3 < r.length := by omega
    have hq := List.getElem?_eq_getElem hi
    obtain ⟨c0, c1, c2⟩ := hc _ _ hq
    obtain ⟨a0, a1, a2⟩ := rowList_at r _ _ hq
    have hadd : (⟨b, off, none⟩ : Addr).add j = ⟨b, off + j, none⟩ := by
      unfold Addr.add
      split
      · rename_i h0; subst h0; rfl
      · rfl
    rw [hadd]
    have hm : j % 3 = 0 ∨ j % 3 = 1 ∨ j % 3 = 2 := by omega
    rcases hm with hm | hm | hm
    · rw [show j = j / 3 * 3 by omega] at hu ⊢; rw [a0] at hu; rw [c0]; exact hu
    · rw [show j = j / 3 * 3 + 1 by omega] at hu ⊢; rw [a1] at hu; rw [← Nat.add_assoc, c1]; exact hu
    · rw [show j = j / 3 * 3 + 2 by omega] at hu ⊢; rw [a2] at hu; rw [← Nat.add_assoc, c2]; exact hu

def sumTo (n n' j : Nat) : Nat := if j = 0 then 0 else if j = 1 then n else n + n'
def catTo (r r' : List Va) (j : Nat) : List Va := if j = 0 then [] else if j = 1 then r else r ++ r'

end Go.Proofs.YtmjckdgomlppeaaGreatDoor
end
section
namespace Go.Proofs.YtmjckdgomlppeaaGreatDoor
open Go.RowKit Go.Shelf

theorem info_rowT : (Tryz.prog.info? 38).map (fun i => (i.zero, i.size, i.bytes)) = some (some (.slice none 0 0), 1, 24) := by kernel_rfl
theorem info_listT : (Tryz.prog.info? 27).map (fun i => (i.zero, i.size, i.bytes)) = some (some (.slice none 0 0), 1, 24) := by kernel_rfl
theorem info_valT : (Tryz.prog.info? 69).map (fun i => (i.zero, i.size, i.bytes)) = some (some (VV 0 0 ⟨#[]⟩), 3, 32) := by kernel_rfl

/-- Below B all is as it was, and no block of values has changed. -/
def Grows (B : Nat) (w w' : World) : Prop := Below B w w' ∧ ∀ (k : Nat) (cs : Array Value) (fr : Nat × Nat), w.heap[k]? = some (Obj.cells cs 69 fr) → w'.heap[k]? = some (Obj.cells cs 69 fr)
theorem Grows.refl (B : Nat) (w : World) : Grows B w w := ⟨Below.refl _ _, fun _ _ _ h => h⟩
theorem Grows.trans {B : Nat} {a b c : World} (h : Grows B a b) (k : Grows B b c) : Grows B a c := ⟨h.1.trans k.1, fun q cs fr hq => k.2 q cs fr (h.2 q cs fr hq)⟩
theorem lt_of_block {w : World} {k : Nat} {o : Obj} (h : w.heap[k]? = some o) : k < w.heap.size := by
  rcases Nat.lt_or_ge k w.heap.size with hl | hg
  · exact hl
  · rw [Array.getElem?_eq_none hg] at h; cases h
theorem Grows.below {B : Nat} {w w' : World} (hB : B ≤ w.heap.size) (h : Below w.heap.size w w') : Grows B w w' :=
  ⟨h.mono hB, fun k _ _ hk => (h.block k (lt_of_block hk)).trans hk⟩
theorem Grows.grown {B : Nat} {w w' : World} {row : Option Nat} (hB : B ≤ w.heap.size) (hg : w.grownBy w' row) (hr : ∀ k, row = some k → B ≤ k ∧ ∃ cs T fr, w.heap[k]? = some (.cells cs T fr) ∧ T ≠ 69) : Grows B w w' := by
  refine ⟨(Below.refl B w).grown hg hB (fun k hk => (hr k hk).1), fun k cs fr hk => ?_⟩
  rw [hg.block k (lt_of_block hk) ?_]
  · exact hk
  · intro e
    obtain ⟨_, cs', T, fr', h', hT⟩ := hr k e.symm
    rw [hk] at h'
    cases h'
    exact hT rfl
theorem Grows.setCell {B : Nat} {w : World} {g : Nat} (i : Nat) (u : Value) (hB : B ≤ g) {cs : Array Value} {T : TypeId} {fr : Nat × Nat} (hg : w.heap[g]? = some (.cells cs T fr)) (hT : T ≠ 69) : Grows B w (w.setCell ⟨g, i, none⟩ u) := by
  refine ⟨(Below.refl B w).setCell hB _, fun k cs' fr' hk => ?_⟩
  rw [Below.heap_setCell w _ u k ?_]
  · exact hk
  · intro e
    have e' : k = g := e
    subst e'
    rw [hk] at hg
    cases hg
    exact hT rfl
theorem Grows.drew {B : Nat} {a w : World} (h : Grows B a w) : Grows B a w.drew := ⟨h.1.drew, h.2⟩

/-- A row lies there; its block lies below B, or holds values. -/
def ElemAt (w : World) (B : Nat) (A : Option Addr) (r : List Va) : Prop :=
  RowAt w A r ∧ (r ≠ [] → ∀ b off, A = some ⟨b, off, none⟩ → b < B ∨ ∃ cs fr, w.heap[b]? = some (.cells cs 69 fr))
theorem ElemAt.low {w : World} {A : Option Addr} {r : List Va} {B : Nat} (h : RowAt w A r) (hB : w.heap.size ≤ B) : ElemAt w B A r := by
  refine ⟨h, fun hne b off hA => .inl ?_⟩
  rcases h with h | ⟨b', off', hA', hlt, _⟩
  · exact absurd h hne
  · rw [hA] at hA'; cases hA'; omega
theorem ElemAt.kept {w w' : World} {B : Nat} {A : Option Addr} {r : List Va} (h : ElemAt w B A r) (hg : Grows B w w') : ElemAt w' B A r := by
  obtain ⟨hr, ht⟩ := h
  by_cases hne : r = []
  · exact ⟨.inl hne, fun hh => absurd hne hh⟩
  · rcases hr with hr | ⟨b, off, hA, hlt, hc⟩
    · exact absurd hr hne
    · have hblk : w'.heap[b]? = w.heap[b]? := by
        rcases ht hne b off hA with hb | ⟨cs, fr, hb⟩
        · exact hg.1.block b hb
        · rw [hb]; exact hg.2 b cs fr hb
      refine ⟨.inr ⟨b, off, hA, Nat.lt_of_lt_of_le hlt hg.1.size, fun i v hv => ?_⟩, fun _ b' off' hA' => ?_⟩
      · obtain ⟨c0, c1, c2⟩ := hc i v hv
        exact ⟨(World.cell?_of_block hblk).trans c0, (World.cell?_of_block hblk).trans c1, (World.cell?_of_block hblk).trans c2⟩
      · rw [hA] at hA'
        cases hA'
        rcases ht hne b off hA with hb | ⟨cs, fr, hb⟩
        · exact .inl hb
        · exact .inr ⟨cs, fr, hg.2 b cs fr hb⟩

/-- A list of rows of the call's own. -/
def Elems (w : World) (B : Nat) (xs : List Value) (p : List (List Va)) : Prop := xs.length = p.length ∧ ∀ (k : Nat) (r : List Va), p[k]? = some r → ∃ A c, xs[k]? = some (.slice A r.length c) ∧ ElemAt w B A r ∧ (A = none → c = 0)
theorem Elems.nil (w : World) (B : Nat) : Elems w B [] [] := ⟨rfl, fun k r h => by simp at h⟩
theorem Elems.kept {w w' : World} {B : Nat} {xs : List Value} {p : List (List Va)} (h : Elems w B xs p) (hg : Grows B w w') : Elems w' B xs p :=
  ⟨h.1, fun k r hr => by obtain ⟨A, c, hx, he, hA⟩ := h.2 k r hr; exact ⟨A, c, hx, he.kept hg, hA⟩⟩
theorem Elems.push {w : World} {B : Nat} {xs : List Value} {p : List (List Va)} (h : Elems w B xs p) {A : Option Addr} {c : Nat} {r : List Va} (he : ElemAt w B A r) (hA : A = none → c = 0) : Elems w B (xs ++ [.slice A r.length c]) (p ++ [r]) := by
  refine ⟨by simp [h.1], fun k r' hr' => ?_⟩
  by_cases hk : k < p.length
  · rw [List.getElem?_append_left hk] at hr'
    obtain ⟨A', c', hx, he', hA'⟩ := h.2 k r' hr'
    exact ⟨A', c', by rw [List.getElem?_append_left (by rw [h.1]; exact hk)]; exact hx, he', hA'⟩
  · have hk' : k = p.length := by
      have := (List.getElem?_eq_some_iff.1 hr').1
      simp at this; omega
    subst hk'
    simp at hr'
    subst hr'
    exact ⟨A, c, by rw [← h.1]; simp, he, hA⟩
def ListOwn (w : World) (B : Nat) (v : Value) (p : List (List Va)) : Prop := ∃ xs, w.ownsRow B 38 1 v p.length xs ∧ Elems w B xs p
theorem ListOwn.nil (w : World) (B : Nat) : ListOwn w B (.slice none 0 0) [] := ⟨[], World.ownsRow_nil _ _ _ _, Elems.nil _ _⟩
theorem owns_typed {w : World} {B : Nat} {e : TypeId} {v : Value} {n : Nat} {xs : List Value} {size : Nat} (h : w.ownsRow B e size v n xs) : ∀ k, v.ownBlock = some k → B ≤ k ∧ ∃ cs fr, w.heap[k]? = some (.cells cs e fr) := by
  intro k hk
  rcases h.2 with ⟨rfl, _⟩ | ⟨g, cap, cur, rfl, hb, hgg, _⟩
  · simp [Value.ownBlock] at hk
  · simp [Value.ownBlock] at hk
    subst hk
    exact ⟨hb, cur, _, hgg⟩
theorem owns_same {w w' : World} {B : Nat} {e : TypeId} {v : Value} {n : Nat} {xs : List Value} {size : Nat} (h : w.ownsRow B e size v n xs) (hb : ∀ k, v.ownBlock = some k → w'.heap[k]? = w.heap[k]?) : w'.ownsRow B e size v n xs := by
  refine ⟨h.1, ?_⟩
  rcases h.2 with hn | ⟨g, cap, cur, rfl, hbb, hgg, rest⟩
  · exact .inl hn
  · exact .inr ⟨g, cap, cur, rfl, hbb, (hb g rfl).trans hgg, rest⟩
theorem ListOwn.same {w w' : World} {B : Nat} {v : Value} {p : List (List Va)} (h : ListOwn w B v p) (hg : Grows B w w') (hb : ∀ k, v.ownBlock = some k → w'.heap[k]? = w.heap[k]?) : ListOwn w' B v p := by
  obtain ⟨xs, ho, he⟩ := h
  exact ⟨xs, owns_same ho hb, he.kept hg⟩
theorem ListOwn.kept {w w' : World} {B : Nat} {v : Value} {p : List (List Va)} (h : ListOwn w B v p) (hB : B ≤ w.heap.size) (hb : Below w.heap.size w w') : ListOwn w' B v p := by
  obtain ⟨xs, ho, he⟩ := h
  exact ⟨xs, owns_same ho (fun k hk => hb.block k (ho.lt k hk).2), he.kept (Grows.below hB hb)⟩

/-- append(nil, r...): a row of the call's own. -/
theorem run_copyV (ty : TypeId) (A : Option Addr) (c : Nat) (r : List Va) (W : World) (B : Nat) (hr : RowAt W A r) (hA : A = none → c = 0) (hl : r.length ≤ 65536) :
    ∃ A' c' w', (Builtin.append_ #[38, 38] ty #[.slice none 0 0, .slice A r.length c]).run Tryz.prog W = .ok (.slice A' r.length c') w' ∧ ElemAt w' B A' r ∧ (A' = none → c' = 0) ∧ W.grownBy w' none := by
  obtain ⟨i0, hi, hz0, hz1, hz2⟩ := info_parts info_valT
  have hnil := World.ownsRow_nil W W.heap.size 69 3
  cases r with
  | nil =>
    cases A with
    | none =>
      have hc := hA rfl
      subst hc
      have h := run_append_owned_none (P := Tryz.prog) (w := W) W.heap.size 38 ty 69 i0 3 Tryz.underlying38 hi _ 0 [] hnil
      exact ⟨none, 0, W, h, ⟨.inl rfl, fun hh => absurd rfl hh⟩, fun _ => rfl, ⟨rfl, rfl, rfl, Nat.le_refl _, fun _ _ _ => rfl⟩⟩
    | some ad =>
      obtain ⟨v', w', h, _, hgr, hv⟩ := run_append_own (P := Tryz.prog) W W.heap.size 38 ty 69 i0 _ 3 32 Tryz.underlying38 hi hz0 hz1 hz2 rfl (by decide) _ 0 [] hnil ad 0 c [] rfl (by simp) (by simp) (by simp [maxLen]) (by omega) (Nat.le_refl _)
      obtain rfl := hv.2 ⟨rfl, rfl⟩
      exact ⟨none, 0, w', h, ⟨.inl rfl, fun hh => absurd rfl hh⟩, fun _ => rfl, hgr⟩
  | cons v r =>
    obtain ⟨b, off, rfl, _, _⟩ := hr.at (i := 0) (by simp)
    obtain ⟨g', cap, w', h, hown, hgr, hat, hlt⟩ := run_append_lies (P := Tryz.prog) W 38 ty W.heap.size 69 i0 _ 3 32 Tryz.underlying38 hi hz0 hz1 hz2 rfl (by decide) _ 0 [] hnil ⟨b, off, none⟩ (v :: r).length c (rowList (v :: r)) (rowList_length _) (news_of_row hr) (oneCell_row _) (by simp) (by simp [maxLen] at hl ⊢; omega) (by omega) (Nat.le_refl _) _ rfl
    rw [Nat.zero_add] at h hown
    rw [List.nil_append] at hown
    refine ⟨some ⟨g', 0, none⟩, cap, w', h, ⟨row_of_owns hown, fun _ b' off' hb' => ?_⟩, (fun hh => by cases hh), hgr⟩
    cases hb'
    obtain ⟨_, cs, fr, hcs⟩ := owns_typed hown g' rfl
    exact .inr ⟨cs, fr, hcs⟩
theorem step_copyV {ops : Array Oper} {o : Oper} {a : Act} {K : Act → World → Prop} {Q : Exit → Act → World → Prop} {E : Prop} (hgd : o.guard = none) (s x : Operand)
    (ho : o.op = .call { callee := .builtin .append, args := #[s, x], argTypes := #[38, 38] }) (A : Option Addr) (c : Nat) (r : List Va) (W : World) (B : Nat) (hs : a.eval s = .slice none 0 0) (hx : a.eval x = .slice A r.length c) (hr : RowAt W A r) (hA : A = none → c = 0) (hl : r.length ≤ 65536)
    (h : ∀ A' c' w', ElemAt w' B A' r → (A' = none → c' = 0) → W.grownBy w' none → K (a.put o.dst (.slice A' r.length c')) w') :
    if Region.wanted o (yielded ops a.tmps) = true then Oper.wp Tryz.prog o a W K Q else E := by
  have hw : Region.wanted o (yielded ops a.tmps) = true := by simp [Region.wanted, hgd]
  rw [if_pos hw]
  obtain ⟨A', c', w', hr', h2, h3, h4⟩ := run_copyV o.type A c r W B hr hA hl
  unfold Oper.wp execOp
  simp only [ho, resolve, invoke, builtin, Sem.run_bind, Sem.run_pure, Result.andThen_ok, List.map_toArray, List.map_cons, List.map_nil, hs, hx, hr']
  exact h A' c' w' h2 h3 h4

/-- A list with a row more. -/
theorem run_pushL (ty : TypeId) (v : Value) (p : List (List Va)) (A : Option Addr) (c : Nat) (r : List Va) (W : World) (B nb : Nat) (hv : ListOwn W B v p) (he : ElemAt W B A r) (hA : A = none → c = 0) (hnb : W.heap[nb]? = some (.cells #[.slice A r.length c] 38 (0, 0))) (hB : B ≤ W.heap.size) (hl : p.length ≤ 65536) :
    ∃ g cap w', (Builtin.append_ #[27, 27] ty #[v, .slice (some ⟨nb, 0, none⟩) 1 1]).run Tryz.prog W = .ok (.slice (some ⟨g, 0, none⟩) (p.length + 1) cap) w' ∧ ListOwn w' B (.slice (some ⟨g, 0, none⟩) (p.length + 1) cap) (p ++ [r]) ∧ W.grownBy w' v.ownBlock ∧ (v.ownBlock = some g ∨ g = W.heap.size) ∧ Grows B W w' := by
  obtain ⟨i0, hi, hz0, hz1, hz2⟩ := info_parts info_rowT
  obtain ⟨xs, hown, hel⟩ := hv
  obtain ⟨g, cap, w', h, hown', hgr, hat, hlt⟩ := run_append_lies (P := Tryz.prog) W 27 ty B 38 i0 _ 1 24 Tryz.underlying27 hi hz0 hz1 hz2 rfl (by decide) v p.length xs hown ⟨nb, 0, none⟩ 1 1 [.slice A r.length c] rfl (World.news_of_block hnb) (by simp [Value.oneCell']) (by omega) (by simp [maxLen]; omega) (by omega) hB _ rfl
  have hG : Grows B W w' := Grows.grown hB hgr (fun k hk => by
    obtain ⟨hb, cs, fr, hcs⟩ := owns_typed hown k hk
    exact ⟨hb, cs, _, fr, hcs, by decide⟩)
  refine ⟨g, cap, w', h, ⟨xs ++ [.slice A r.length c], by simpa using hown', (hel.kept hG).push (he.kept hG) hA⟩, hgr, hat, hG⟩
theorem step_pushL {ops : Array Oper} {o : Oper} {a : Act} {K : Act → World → Prop} {Q : Exit → Act → World → Prop} {E : Prop} (hgd : o.guard = none) (s x : Operand)
    (ho : o.op = .call { callee := .builtin .append, args := #[s, x], argTypes := #[27, 27] }) (v : Value) (p : List (List Va)) (A : Option Addr) (c : Nat) (r : List Va) (W : World) (B nb : Nat) (hs : a.eval s = v) (hx : a.eval x = .slice (some ⟨nb, 0, none⟩) 1 1) (hv : ListOwn W B v p) (he : ElemAt W B A r) (hA : A = none → c = 0) (hnb : W.heap[nb]? = some (.cells #[.slice A r.length c] 38 (0, 0))) (hB : B ≤ W.heap.size) (hl : p.length ≤ 65536)
    (h : ∀ g cap w', ListOwn w' B (.slice (some ⟨g, 0, none⟩) (p.length + 1) cap) (p ++ [r]) → W.grownBy w' v.ownBlock → (v.ownBlock = some g ∨ g = W.heap.size) → Grows B W w' → K (a.put o.dst (.slice (some ⟨g, 0, none⟩) (p.length + 1) cap)) w') :
    if Region.wanted o (yielded ops a.tmps) = true then Oper.wp Tryz.prog o a W K Q else E := by
  have hw : Region.wanted o (yielded ops a.tmps) = true := by simp [Region.wanted, hgd]
  rw [if_pos hw]
  obtain ⟨g, cap, w', hr', h2, h3, h4, h5⟩ := run_pushL o.type v p A c r W B nb hv he hA hnb hB hl
  unfold Oper.wp execOp
  simp only [ho, resolve, invoke, builtin, Sem.run_bind, Sem.run_pure, Result.andThen_ok, List.map_toArray, List.map_cons, List.map_nil, hs, hx, hr']
  exact h g cap w' h2 h3 h4 h5
theorem wpList_pushL {ops : Array Oper} {rest : List Oper} {o : Oper} {a : Act} {Q : Exit → Act → World → Prop} (hgd : o.guard = none) (s x : Operand)
    (ho : o.op = .call { callee := .builtin .append, args := #[s, x], argTypes := #[27, 27] }) (v : Value) (p : List (List Va)) (A : Option Addr) (c : Nat) (r : List Va) (W : World) (B nb : Nat) (hs : a.eval s = v) (hx : a.eval x = .slice (some ⟨nb, 0, none⟩) 1 1) (hv : ListOwn W B v p) (he : ElemAt W B A r) (hA : A = none → c = 0) (hnb : W.heap[nb]? = some (.cells #[.slice A r.length c] 38 (0, 0))) (hB : B ≤ W.heap.size) (hl : p.length ≤ 65536)
    (h : ∀ g cap w', ListOwn w' B (.slice (some ⟨g, 0, none⟩) (p.length + 1) cap) (p ++ [r]) → W.grownBy w' v.ownBlock → (v.ownBlock = some g ∨ g = W.heap.size) → Grows B W w' → wpList Tryz.prog ops Q rest (a.put o.dst (.slice (some ⟨g, 0, none⟩) (p.length + 1) cap)) w') :
    wpList Tryz.prog ops Q (o :: rest) a W := by
  refine wpList_plain hgd fun K hK => ?_
  obtain ⟨g, cap, w', hr', h2, h3, h4, h5⟩ := run_pushL o.type v p A c r W B nb hv he hA hnb hB hl
  unfold Oper.wp execOp
  simp only [ho, resolve, invoke, builtin, Sem.run_bind, Sem.run_pure, Result.andThen_ok, List.map_toArray, List.map_cons, List.map_nil, hs, hx, hr']
  exact hK _ _ (h g cap w' h2 h3 h4 h5)

/-- A table of lists of rows. -/
def PartsAt (w : World) (B g : Nat) (vs : List Value) (P : List (List (List Va))) : Prop :=
  w.heap[g]? = some (.cells vs.toArray 27 (0, 0)) ∧ B ≤ g ∧ vs.length = P.length ∧ (∀ (i : Nat) (v : Value) (p : List (List Va)), vs[i]? = some v → P[i]? = some p → ListOwn w B v p) ∧
    ∀ (i j : Nat) (v u : Value) (k : Nat), i ≠ j → vs[i]? = some v → vs[j]? = some u → v.ownBlock = some k → u.ownBlock ≠ some k
theorem PartsAt.cell {w : World} {B g : Nat} {vs : List Value} {P : List (List (List Va))} (h : PartsAt w B g vs P) (i : Nat) : w.cell? ⟨g, i, none⟩ = vs[i]? := by
  simp [World.cell?, h.1]
theorem PartsAt.free {w : World} {B g : Nat} {vs : List Value} {P : List (List (List Va))} (h : PartsAt w B g vs P) (i : Nat) : w.frozen? ⟨g, i, none⟩ = false := by
  simp [World.frozen?, h.1]
theorem PartsAt.kept {w w' : World} {B g : Nat} {vs : List Value} {P : List (List (List Va))} (h : PartsAt w B g vs P) (hb : Below w.heap.size w w') : PartsAt w' B g vs P := by
  obtain ⟨h1, h2, h3, h4, h5⟩ := h
  have hlt := lt_of_block h1
  exact ⟨(hb.block g hlt).trans h1, h2, h3, fun i v p hv hp => (h4 i v p hv hp).kept (by omega) hb, h5⟩
/-- One list of a table has grown, and is stored. -/
theorem PartsAt.next0 {w w1 w2 w3 : World} {B g g' cap i : Nat} {vs : List Value} {P : List (List (List Va))} {v : Value} {p p' : List (List Va)} (h : PartsAt w B g vs P) (hi : vs[i]? = some v) (hp : P[i]? = some p)
    (hg1 : w.grownBy w1 none) (hg2 : Below w1.heap.size w1 w2) (hg3 : w2.grownBy w3 v.ownBlock) (hown : ListOwn w3 B (.slice (some ⟨g', 0, none⟩) p'.length cap) p') (hat : v.ownBlock = some g' ∨ g' = w2.heap.size) :
    PartsAt (w3.setCell ⟨g, i, none⟩ (.slice (some ⟨g', 0, none⟩) p'.length cap)) B g (vs.set i (.slice (some ⟨g', 0, none⟩) p'.length cap)) (P.set i p') ∧ Grows B w (w3.setCell ⟨g, i, none⟩ (.slice (some ⟨g', 0, none⟩) p'.length cap)) := by
  obtain ⟨h1, h2, h3, h4, h5⟩ := h
  have hlt := lt_of_block h1
  have hs1 := hg1.size
  have hs2 := hg2.size
  have k1 : ∀ k, k < w.heap.size → w2.heap[k]? = w.heap[k]? := fun k hk => (hg2.block k (by omega)).trans (hg1.block k hk (by simp))
  have lv := h4 i v p hi hp
  obtain ⟨xs, ho, _⟩ := lv
  have tv := owns_typed ho
  have G1 : Grows B w w2 := (Grows.grown (by omega) hg1 (fun k hk => by cases hk)).trans (Grows.below (by omega) hg2)
  have G2 : Grows B w2 w3 := Grows.grown (by omega) hg3 (fun k hk => by
    obtain ⟨hb, cs, fr, hcs⟩ := tv k hk
    exact ⟨hb, cs, _, fr, (k1 k (lt_of_block hcs)).trans hcs, by decide⟩)
  have gne : v.ownBlock ≠ some g := fun e => by
    obtain ⟨_, cs, fr, hcs⟩ := tv g e
    rw [h1] at hcs
    cases hcs
  have hgb : w3.heap[g]? = some (.cells vs.toArray 27 (0, 0)) := by
    rw [hg3.block g (by omega) (fun e => gne e.symm), k1 g hlt]; exact h1
  have G3 : Grows B w3 (w3.setCell ⟨g, i, none⟩ (.slice (some ⟨g', 0, none⟩) p'.length cap)) := Grows.setCell i _ h2 hgb (by decide)
  have hset : ∀ k, k ≠ g → (w3.setCell ⟨g, i, none⟩ (.slice (some ⟨g', 0, none⟩) p'.length cap)).heap[k]? = w3.heap[k]? := fun k hk => Below.heap_setCell w3 _ _ k hk
  have gne' : g' ≠ g := by
    rcases hat with hat | hat
    · intro e; exact gne (by rw [hat, e])
    · omega
  refine ⟨⟨?_, h2, by simp [h3], ?_, ?_⟩, (G1.trans G2).trans G3⟩
  · simp [World.setCell, Array.getElem?_modify, hgb]
  · intro j u q hu hq
    by_cases e : i = j
    · subst e
      have hil : i < vs.length := (List.getElem?_eq_some_iff.1 hi).1
      simp [hil] at hu
      subst hu
      have hpl : i < P.length := by omega
      simp [hpl] at hq
      subst hq
      exact hown.same G3 (fun k hk => by simp [Value.ownBlock] at hk; subst hk; exact hset _ gne')
    · rw [List.getElem?_set_ne e] at hu hq
      have hl := h4 j u q hu hq
      obtain ⟨ys, hoy, _⟩ := hl
      have ty := owns_typed hoy
      refine (h4 j u q hu hq).same ((G1.trans G2).trans G3) (fun k hk => ?_)
      obtain ⟨_, cs, fr, hcs⟩ := ty k hk
      have hkl := lt_of_block hcs
      have kne : k ≠ g := fun e' => by rw [e', h1] at hcs; cases hcs
      rw [hset k kne, hg3.block k (by omega) (fun e' => h5 i j v u k e hi hu e'.symm hk), k1 k hkl]
  · intro a b x y k hab hx hy hk
    by_cases ea : i = a
    · subst ea
      have hil : i < vs.length := (List.getElem?_eq_some_iff.1 hi).1
      simp [hil] at hx
      subst hx
      simp [Value.ownBlock] at hk
      subst hk
      rw [List.getElem?_set_ne hab] at hy
      rcases hat with hat | hat
      · exact h5 i b v y g' hab hi hy hat
      · intro hyk
        have hpb : b < P.length := by have := (List.getElem?_eq_some_iff.1 hy).1; omega
        obtain ⟨ys, hoy, _⟩ := h4 b y _ hy (List.getElem?_eq_getElem hpb)
        have := (hoy.lt g' hyk).2
        omega
    · rw [List.getElem?_set_ne ea] at hx
      by_cases eb : i = b
      · subst eb
        have hil : i < vs.length := (List.getElem?_eq_some_iff.1 hi).1
        simp [hil] at hy
        subst hy
        simp [Value.ownBlock]
        intro e'
        subst e'
        rcases hat with hat | hat
        · exact h5 a i x v g' hab hx hi hk hat
        · have hpa : a < P.length := by have := (List.getElem?_eq_some_iff.1 hx).1; omega
          obtain ⟨ys, hoy, _⟩ := h4 a x _ hx (List.getElem?_eq_getElem hpa)
          have := (hoy.lt g' hk).2
          omega
      · rw [List.getElem?_set_ne eb] at hy
        exact h5 a b x y k hab hx hy hk

theorem PartsAt.next {w w1 w2 w3 : World} {B g g' cap i n : Nat} {vs : List Value} {P : List (List (List Va))} {v : Value} {p p' : List (List Va)} (h : PartsAt w B g vs P) (hi : vs[i]? = some v) (hp : P[i]? = some p)
    (hg1 : w.grownBy w1 none) (hg2 : Below w1.heap.size w1 w2) (hg3 : w2.grownBy w3 v.ownBlock) (hn : p'.length = n) (hown : ListOwn w3 B (.slice (some ⟨g', 0, none⟩) n cap) p') (hat : v.ownBlock = some g' ∨ g' = w2.heap.size) :
    PartsAt (w3.setCell ⟨g, i, none⟩ (.slice (some ⟨g', 0, none⟩) n cap)) B g (vs.set i (.slice (some ⟨g', 0, none⟩) n cap)) (P.set i p') ∧ Grows B w (w3.setCell ⟨g, i, none⟩ (.slice (some ⟨g', 0, none⟩) n cap)) := by
  subst hn; exact h.next0 hi hp hg1 hg2 hg3 hown hat
theorem PartsAt.lists {w : World} {B g : Nat} {vs : List Value} {P : List (List (List Va))} (h : PartsAt w B g vs P) {i : Nat} (hi : i < P.length) : ∃ v, vs[i]? = some v ∧ ListOwn w B v (P.getD i []) := by
  obtain ⟨h1, h2, h3, h4, h5⟩ := h
  have hv : i < vs.length := by omega
  refine ⟨vs[i], List.getElem?_eq_getElem hv, ?_⟩
  have e : P.getD i [] = P[i] := by simp [List.getD, hi]
  rw [e]
  exact h4 i _ _ (List.getElem?_eq_getElem hv) (List.getElem?_eq_getElem hi)
theorem ListOwn.step {w w' : World} {B : Nat} {v : Value} {p : List (List Va)} (h : ListOwn w B v p) (hB : B ≤ w.heap.size) (hg : w.grownBy w' none) (o : Obj) : ListOwn (w'.alloc o) B v p := by
  have h1 : ListOwn w' B v p := by
    obtain ⟨xs, ho, he⟩ := h
    exact ⟨xs, ho.kept hg (by cases hv : v.ownBlock <;> simp), he.kept (Grows.grown hB hg (fun k hk => by cases hk))⟩
  exact h1.kept (Nat.le_trans hB hg.size) (ba _ _)
theorem ElemAt.alloc {w : World} {B : Nat} {A : Option Addr} {r : List Va} (h : ElemAt w B A r) (hB : B ≤ w.heap.size) (o : Obj) : ElemAt (w.alloc o) B A r := h.kept (Grows.below hB (ba _ _))

theorem grown_undrew {w w' : World} {r : Option Nat} (h : w.drew.grownBy w' r) : w.grownBy w' r := ⟨h.os, h.tape, h.output, h.size, h.block⟩
theorem grown_undrew2 {w w' : World} {o : Obj} {r : Option Nat} (h : (w.drew.alloc o).grownBy w' r) : (w.alloc o).grownBy w' r := ⟨h.os, h.tape, h.output, h.size, h.block⟩
theorem grown_refl (w : World) : w.grownBy w none := ⟨rfl, rfl, rfl, Nat.le_refl _, fun _ _ _ => rfl⟩
/-- A cell of one's own behind an append elsewhere, and behind a new block. -/
def CellIs (w : World) (g i : Nat) (v : Value) : Prop := w.cell? ⟨g, i, none⟩ = some v ∧ w.frozen? ⟨g, i, none⟩ = false
theorem CellIs.lt {w : World} {g i : Nat} {v : Value} (h : CellIs w g i v) : g < w.heap.size := World.block_lt_of_cell? w _ h.1
theorem CellIs.grown {w w' : World} {row : Option Nat} {g i : Nat} {v : Value} (h : CellIs w g i v) (hgr : w.grownBy w' row) (hne : some g ≠ row) : CellIs w' g i v :=
  ⟨(hgr.cell_far ⟨g, i, none⟩ h.lt hne).trans h.1, (hgr.frozen_far ⟨g, i, none⟩ h.lt hne).trans h.2⟩
theorem CellIs.kept {w w' : World} {g i : Nat} {v : Value} (h : CellIs w g i v) (hb : Below w.heap.size w w') : CellIs w' g i v :=
  ⟨(hb.cell (p := ⟨g, i, none⟩) h.lt).trans h.1, (hb.frozen (p := ⟨g, i, none⟩) h.lt).trans h.2⟩
theorem PartsAt.other {w : World} {B g i : Nat} {vs : List Value} {P : List (List (List Va))} {v : Value} (h : PartsAt w B g vs P) (hv : vs[i]? = some v) : some g ≠ v.ownBlock := by
  intro e
  obtain ⟨h1, h2, h3, h4, h5⟩ := h
  have hl := (List.getElem?_eq_some_iff.1 hv).1
  obtain ⟨xs, ho, _⟩ := h4 i v _ hv (List.getElem?_eq_getElem (by omega))
  obtain ⟨_, cs, fr, hcs⟩ := owns_typed ho g e.symm
  rw [h1] at hcs
  cases hcs

/-- A list of rows that came in. -/
def RowsAt (w : World) (B : Option Addr) (rs : List (List Va)) : Prop :=
  rs = [] ∨ ∃ b off : Nat, B = some ⟨b, off, none⟩ ∧ b < w.heap.size ∧ ∀ (i : Nat) (r : List Va), rs[i]? = some r → ∃ A c, w.cell? ⟨b, off + i, none⟩ = some (.slice A r.length c) ∧ RowAt w A r ∧ (A = none → c = 0)
theorem RowsAt.at {w w' : World} {B : Option Addr} {rs : List (List Va)} (h : RowsAt w B rs) (hb : Below w.heap.size w w') {i : Nat} (hi : i < rs.length) :
    ∃ b off : Nat, B = some ⟨b, off, none⟩ ∧ b < w.heap.size ∧ ∃ A c, w'.cell? ⟨b, off + i, none⟩ = some (.slice A rs[i].length c) ∧ RowAt w' A rs[i] ∧ ElemAt w' w.heap.size A rs[i] ∧ (A = none → c = 0) := by
  rcases h with h | ⟨b, off, hB, hlt, hc⟩
  · subst h; simp at hi
  · obtain ⟨A, c, hcell, hrow, hA⟩ := hc i rs[i] (List.getElem?_eq_getElem hi)
    exact ⟨b, off, hB, hlt, A, c, (hb.cell (p := ⟨b, _, none⟩) hlt).trans hcell, hrow.kept hb, (ElemAt.low hrow (Nat.le_refl _)).kept (Grows.below (Nat.le_refl _) hb), hA⟩
theorem RowsAt.kept {w w' : World} {B : Option Addr} {rs : List (List Va)} (h : RowsAt w B rs) (hb : Below w.heap.size w w') : RowsAt w' B rs := by
  rcases h with h | ⟨b, off, hB, hlt, hc⟩
  · exact .inl h
  · refine .inr ⟨b, off, hB, Nat.lt_of_lt_of_le hlt hb.size, fun i r hr => ?_⟩
    obtain ⟨A, c, hcell, hrow, hA⟩ := hc i r hr
    exact ⟨A, c, (hb.cell (p := ⟨b, _, none⟩) hlt).trans hcell, hrow.kept hb, hA⟩

end Go.Proofs.YtmjckdgomlppeaaGreatDoor
end
section
namespace Go.Proofs.YtmjckdgomlppeaaGreatDoor
open Go.RowKit Go.Shelf

/-- A table, by its parts. -/
structure Ta where
  nm : ByteArray
  cols : List Co
  rows : List (List Va)
/-- A table that lies in three values. -/
structure TaOk (w : World) (t : Ta) (Ac : Option Addr) (c : Nat) (Ar : Option Addr) (d : Nat) : Prop where
  co : CoAt w Ac t.cols
  cl : t.cols.length ≤ c
  cm : c ≤ 9223372036854775807
  cn : Ac = none → c = 0
  ro : RowsAt w Ar t.rows
  rl : t.rows.length ≤ d
  rm : d ≤ 9223372036854775807
  rn : Ar = none → d = 0
theorem TaOk.kept {w w' : World} {t : Ta} {Ac Ar : Option Addr} {c d : Nat} (h : TaOk w t Ac c Ar d) (hb : Below w.heap.size w w') : TaOk w' t Ac c Ar d :=
  ⟨h.co.kept hb, h.cl, h.cm, h.cn, h.ro.kept hb, h.rl, h.rm, h.rn⟩
abbrev TV (nm : ByteArray) (Ac : Option Addr) (n c : Nat) (Ar : Option Addr) (m d : Nat) : Value := .agg #[.string nm, .slice Ac n c, .slice Ar m d]
def CtAt (w : World) (A : Option Addr) (l : List Ta) : Prop :=
  l = [] ∨ ∃ b off : Nat, A = some ⟨b, off, none⟩ ∧ b < w.heap.size ∧ ∀ (i : Nat) (t : Ta), l[i]? = some t → ∃ Ac c Ar d,
    w.cell? ⟨b, off + i * 3, none⟩ = some (.string t.nm) ∧ w.cell? ⟨b, off + i * 3 + 1, none⟩ = some (.slice Ac t.cols.length c) ∧ w.cell? ⟨b, off + i * 3 + 2, none⟩ = some (.slice Ar t.rows.length d) ∧ TaOk w t Ac c Ar d
theorem CtAt.kept {w w' : World} {A : Option Addr} {l : List Ta} (h : CtAt w A l) (hb : Below w.heap.size w w') : CtAt w' A l := by
  rcases h with h | ⟨b, off, hA, hlt, hc⟩
  · exact .inl h
  · refine .inr ⟨b, off, hA, Nat.lt_of_lt_of_le hlt hb.size, fun i t ht => ?_⟩
    obtain ⟨Ac, c, Ar, d, c0, c1, c2, ho⟩ := hc i t ht
    exact ⟨Ac, c, Ar, d, (hb.cell (p := ⟨b, _, none⟩) hlt).trans c0, (hb.cell (p := ⟨b, _, none⟩) hlt).trans c1, (hb.cell (p := ⟨b, _, none⟩) hlt).trans c2, ho.kept hb⟩
theorem CtAt.at {w : World} {A : Option Addr} {l : List Ta} (h : CtAt w A l) {i : Nat} (hi : i < l.length) :
    ∃ b off : Nat, A = some ⟨b, off, none⟩ ∧ b < w.heap.size ∧ ∃ Ac c Ar d, w.cell? ⟨b, off + i * 3, none⟩ = some (.string l[i].nm) ∧ w.cell? ⟨b, off + i * 3 + 1, none⟩ = some (.slice Ac l[i].cols.length c) ∧ w.cell? ⟨b, off + i * 3 + 2, none⟩ = some (.slice Ar l[i].rows.length d) ∧ TaOk w l[i] Ac c Ar d := by
  rcases h with h | ⟨b, off, hA, hlt, hc⟩
  · subst h; simp at hi
  · exact ⟨b, off, hA, hlt, hc i l[i] (List.getElem?_eq_getElem hi)⟩
/-- A table in a box. -/
abbrev tbox (nm : ByteArray) (Ac : Option Addr) (n c : Nat) (Ar : Option Addr) (m d : Nat) : Obj := .cells #[.string nm, .slice Ac n c, .slice Ar m d] 29
theorem cell3 {W : World} {p : Nat} {x0 x1 x2 : Value} {T : TypeId} (h : W.heap[p]? = some (.cells #[x0, x1, x2] T)) : W.cell? ⟨p, 0, none⟩ = some x0 ∧ W.cell? ⟨p, 1, none⟩ = some x1 ∧ W.cell? ⟨p, 2, none⟩ = some x2 := by
  refine ⟨?_, ?_, ?_⟩ <;> simp [World.cell?, h]
/-- No text of a table is too long for an int, no row either. -/
structure FineT (t : Ta) : Prop where
  nm : t.nm.size ≤ maxLen
  co : ∀ c ∈ t.cols, c.nm.size ≤ maxLen
  ro : ∀ r ∈ t.rows, Fine r
  rl : ∀ r ∈ t.rows, r.length ≤ 9223372036854775807
end Go.Proofs.YtmjckdgomlppeaaGreatDoor
end
