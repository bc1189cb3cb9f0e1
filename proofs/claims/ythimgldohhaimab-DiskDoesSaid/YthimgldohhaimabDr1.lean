/-
  DiskDoes: the document's own disk in memory.
-/
import Derived.Test.YthimgldohhaimabDkg
import Derived.Deep.AppendLies
import Derived.Laws.AppendOwnNone
import Derived.BigRegion
import Derived.BigQuiet
import Derived.Deep.QuietTactic
namespace Go.Proofs.Ythimgldohhaimab
open Go.RowKit Go.Maps Go.Sort

/-- What the document's own disk knows. -/
structure Xd where
  room : Int
  fa : List Int
  fs : List Fl
  made : Int
  deeds : Int
  rd : Int
  wr : Int
  us : Int
  pk : Int
def Xd.box (X : Xd) (vF vL : Value) : Array Value := #[.int .i64 X.room, vF, vL, .int .i64 X.made, .int .i64 X.deeds, .int .i64 X.rd, .int .i64 X.wr, .int .i64 X.us, .int .i64 X.pk]
def cellsF (fs : List Fl) : List Value := fs.flatMap fun f => [.int .i64 f.n, f.v]
theorem cellsF_cons (f : Fl) (fs : List Fl) : cellsF (f :: fs) = .int .i64 f.n :: f.v :: cellsF fs := rfl
theorem cellsF_len (fs : List Fl) : (cellsF fs).length = fs.length * 2 := by
  induction fs with
  | nil => rfl
  | cons f fs ih => rw [cellsF_cons, List.length_cons, List.length_cons, ih, List.length_cons]; omega
theorem cellsF_app (fs gs : List Fl) : cellsF (fs ++ gs) = cellsF fs ++ cellsF gs := by simp [cellsF]
theorem cellsF_at : ∀ (fs : List Fl) (i : Nat) (f : Fl) (_ : fs[i]? = some f), (cellsF fs)[i * 2]? = some (.int .i64 f.n) ∧ (cellsF fs)[i * 2 + 1]? = some f.v
  | [], i, f, h => by simp at h
  | g :: fs, 0, f, h => by simp at h; subst h; exact ⟨rfl, rfl⟩
  | g :: fs, i + 1, f, h => by
    have := cellsF_at fs i f (by simpa using h)
    rw [cellsF_cons, show (i + 1) * 2 = i * 2 + 1 + 1 by omega]
    exact this
/-- A file's pages in memory: a list of lists of bytes of the call's own. -/
def PgOwn (B : Nat) (w : World) (v : Value) (ps : List (List Int)) : Prop :=
  ∃ pvs : List Value, w.ownsRow B 31 1 v ps.length pvs ∧ ∀ (i : Nat) (pv : Value) (p : List Int), pvs[i]? = some pv → ps[i]? = some p → w.ownsRow B 5 1 pv p.length (p.map (Value.int .u8))
/-- The document's own disk in memory. -/
structure XdAt (B : Nat) (w : World) (x : Nat) (vF vL : Value) (X : Xd) : Prop where
  box : w.heap[x]? = some (.cells (X.box vF vL) 57 (0, 0))
  ofa : w.ownsRow B 3 1 vF X.fa.length (X.fa.map (Value.int .i64))
  ofs : w.ownsRow B 60 2 vL X.fs.length (cellsF X.fs)
  pgs : ∀ f ∈ X.fs, PgOwn B w f.v f.ps
  apart : ∀ f ∈ X.fs, ∀ g ∈ X.fs, f.n ≠ g.n → ∀ k, f.v.ownBlock = some k → g.v.ownBlock ≠ some k
  nums : (X.fs.map Fl.n).Pairwise (· < ·)
  num : ∀ f ∈ X.fs, 1 ≤ f.n ∧ f.n ≤ X.made
  len : X.fs.length ≤ 32768 ∧ X.fa.length ≤ 1000 ∧ ∀ f ∈ X.fs, f.ps.length ≤ 16384 ∧ ∀ p ∈ f.ps, p.length = 256
  pos : 0 ≤ X.made ∧ 0 ≤ X.deeds ∧ 0 ≤ X.rd ∧ 0 ≤ X.wr
  lo : B ≤ x
/-- Blocks that the document's own disk may turn. -/
def ofX : Obj → Bool
  | .cells _ t _ => t == 57 || t == 60 || t == 31
  | _ => false
structure Xg (B : Nat) (w w' : World) : Prop where
  below : Below B w w'
  typ : ∀ (k : Nat) (o : Obj), w.heap[k]? = some o → ofX o = false → w'.heap[k]? = some o
theorem Xg.refl (B : Nat) (w : World) : Xg B w w := ⟨Below.refl _ _, fun _ _ h _ => h⟩
theorem Xg.trans {B : Nat} {w w1 w2 : World} (h : Xg B w w1) (k : Xg B w1 w2) : Xg B w w2 := ⟨h.below.trans k.below, fun i o hi ho => k.typ i o (h.typ i o hi ho) ho⟩
theorem Xg.of_below {B : Nat} {w w' : World} (hB : B ≤ w.heap.size) (h : Below w.heap.size w w') : Xg B w w' := ⟨h.mono hB, fun k _ hk _ => (h.block k (block_ltD hk)).trans hk⟩
theorem Xg.grown {B : Nat} {w w' : World} {row : Option Nat} (hB : B ≤ w.heap.size) (h : w.grownBy w' row) (hr : ∀ k, row = some k → B ≤ k ∧ ∃ o, w.heap[k]? = some o ∧ ofX o = true) : Xg B w w' := by
  refine ⟨(Below.refl B w).grown h hB (fun k hk => (hr k hk).1), fun k o hk ho => (h.block k (block_ltD hk) (fun e => ?_)).trans hk⟩
  obtain ⟨_, o', h1, h2⟩ := hr k e.symm
  rw [h1] at hk; cases hk; rw [h2] at ho; cases ho
theorem Xg.set {B : Nat} {w : World} {b i : Nat} {v : Value} (hB : B ≤ b) (h : ∃ o, w.heap[b]? = some o ∧ ofX o = true) : Xg B w (w.setCell ⟨b, i, none⟩ v) := by
  refine ⟨(Below.refl B w).setCell hB _, fun k o hk ho => (set_others w b i v k (fun e => ?_)).trans hk⟩
  obtain ⟨o', h1, h2⟩ := h
  rw [e, h1] at hk; cases hk; rw [h2] at ho; cases ho
/-- Such turns leave the program's own disk alone. -/
theorem Xg.aside {B : Nat} {w w' : World} (h : Xg B w w') : Aside w w' := fun k o hk ho => h.typ k o hk (by
  cases o with
  | cells cs t fr =>
    simp only [outD, Bool.and_eq_false_iff, bne_eq_false_iff_eq] at ho
    rcases ho with rfl | rfl <;> simp [ofX]
  | _ => rfl)
theorem own_Xg {w w' : World} {B C : Nat} {e : TypeId} {v : Value} {n size : Nat} {xs : List Value} (h : w.ownsRow B e size v n xs) (he : ofX (.cells #[] e (0, 0)) = false) (hg : Xg C w w') : w'.ownsRow B e size v n xs :=
  ownsRow_same h (fun k hk => by
    obtain ⟨cs, hcs⟩ := own_cells h hk
    rw [hg.typ k _ hcs he, hcs])
section
variable {B : Nat} {w w' : World} {x : Nat} {vF vL : Value} {X : Xd}
theorem PgOwn.same {v : Value} {ps : List (List Int)} (h : PgOwn B w v ps) (hv : ∀ k, v.ownBlock = some k → w'.heap[k]? = w.heap[k]?) (hb : ∀ (k : Nat) (cs : Array Value), w.heap[k]? = some (Obj.cells cs 5 (0, 0)) → w'.heap[k]? = w.heap[k]?) : PgOwn B w' v ps := by
  obtain ⟨pvs, h1, h2⟩ := h
  refine ⟨pvs, ownsRow_same h1 hv, fun i pv p hpv hp => ownsRow_same (h2 i pv p hpv hp) fun k hk => ?_⟩
  obtain ⟨cs, hcs⟩ := own_cells (h2 i pv p hpv hp) hk
  exact hb k cs hcs
theorem XdAt.lt (h : XdAt B w x vF vL X) : B ≤ w.heap.size := by have := block_ltD h.box; have := h.lo; omega
theorem XdAt.kept (h : XdAt B w x vF vL X) (hb : Below w.heap.size w w') : XdAt B w' x vF vL X :=
  ⟨(hb.block x (block_ltD h.box)).trans h.box, ownsRow_same h.ofa fun k hk => hb.block k (h.ofa.lt k hk).2, ownsRow_same h.ofs fun k hk => hb.block k (h.ofs.lt k hk).2, fun f hf => (h.pgs f hf).same (fun k hk => by obtain ⟨_, h1, _⟩ := h.pgs f hf; exact hb.block k (h1.lt k hk).2) (fun k cs hk => hb.block k (block_ltD hk)), h.apart, h.nums, h.num, h.len, h.pos, h.lo⟩
/-- The program's own disk has been at work. -/
theorem XdAt.dg {C : Nat} (h : XdAt B w x vF vL X) (hg : Dg C w w') : XdAt B w' x vF vL X :=
  ⟨hg.typ x _ h.box (by simp [outD]), own_Dg h.ofa (by simp [outD]) hg, own_Dg h.ofs (by simp [outD]) hg, fun f hf => by
    obtain ⟨pvs, h1, h2⟩ := h.pgs f hf
    exact ⟨pvs, own_Dg h1 (by simp [outD]) hg, fun i pv p hpv hp => own_Dg (h2 i pv p hpv hp) (by simp [outD]) hg⟩, h.apart, h.nums, h.num, h.len, h.pos, h.lo⟩
theorem XdAt.c0 (h : XdAt B w x vF vL X) : w.cell? ⟨x, 0, none⟩ = some (.int .i64 X.room) := by simp [World.cell?, h.box, Xd.box]
theorem XdAt.c1 (h : XdAt B w x vF vL X) : w.cell? ⟨x, 1, none⟩ = some vF := by simp [World.cell?, h.box, Xd.box]
theorem XdAt.c2 (h : XdAt B w x vF vL X) : w.cell? ⟨x, 2, none⟩ = some vL := by simp [World.cell?, h.box, Xd.box]
theorem XdAt.c3 (h : XdAt B w x vF vL X) : w.cell? ⟨x, 3, none⟩ = some (.int .i64 X.made) := by simp [World.cell?, h.box, Xd.box]
theorem XdAt.c4 (h : XdAt B w x vF vL X) : w.cell? ⟨x, 4, none⟩ = some (.int .i64 X.deeds) := by simp [World.cell?, h.box, Xd.box]
theorem XdAt.c5 (h : XdAt B w x vF vL X) : w.cell? ⟨x, 5, none⟩ = some (.int .i64 X.rd) := by simp [World.cell?, h.box, Xd.box]
theorem XdAt.c6 (h : XdAt B w x vF vL X) : w.cell? ⟨x, 6, none⟩ = some (.int .i64 X.wr) := by simp [World.cell?, h.box, Xd.box]
theorem XdAt.c7 (h : XdAt B w x vF vL X) : w.cell? ⟨x, 7, none⟩ = some (.int .i64 X.us) := by simp [World.cell?, h.box, Xd.box]
theorem XdAt.c8 (h : XdAt B w x vF vL X) : w.cell? ⟨x, 8, none⟩ = some (.int .i64 X.pk) := by simp [World.cell?, h.box, Xd.box]
theorem XdAt.fz (h : XdAt B w x vF vL X) (i : Nat) : w.frozen? ⟨x, i, none⟩ = false := by simp [World.frozen?, h.box]
theorem XdAt.own_ne (h : XdAt B w x vF vL X) {base n size : Nat} {e : TypeId} {v : Value} {xs : List Value} (ho : w.ownsRow base e size v n xs) (he : e ≠ 57) {k : Nat} (hk : v.ownBlock = some k) : k ≠ x := fun e1 => by
  obtain ⟨cs, hcs⟩ := own_cells ho hk
  rw [e1, h.box] at hcs
  simp only [Option.some.injEq, Obj.cells.injEq] at hcs
  exact he hcs.2.1.symm
/-- One number of the box has been written. -/
theorem XdAt.set {X' : Xd} {i : Nat} {n : Int} (h : XdAt B w x vF vL X) (hx : (X.box vF vL).set! i (.int .i64 n) = X'.box vF vL) (e1 : X'.fa = X.fa) (e2 : X'.fs = X.fs) (hm : X.made ≤ X'.made) (hp : 0 ≤ X'.made ∧ 0 ≤ X'.deeds ∧ 0 ≤ X'.rd ∧ 0 ≤ X'.wr) : XdAt B (w.setCell ⟨x, i, none⟩ (.int .i64 n)) x vF vL X' ∧ Xg B w (w.setCell ⟨x, i, none⟩ (.int .i64 n)) := by
  have ho : ∀ k, k ≠ x → (w.setCell ⟨x, i, none⟩ (.int .i64 n)).heap[k]? = w.heap[k]? := fun k hk => set_others w x i _ k hk
  have hb := h.box
  refine ⟨⟨?_, ?_, ?_, ?_, ?_, ?_, ?_, ?_, hp, h.lo⟩, Xg.set h.lo ⟨_, h.box, by simp [ofX]⟩⟩
  · rw [← hx]; simp [World.setCell, Array.getElem?_modify, hb]
  · rw [e1]; exact ownsRow_same h.ofa fun k hk => ho k (h.own_ne h.ofa (by decide) hk)
  · rw [e2]; exact ownsRow_same h.ofs fun k hk => ho k (h.own_ne h.ofs (by decide) hk)
  · rw [e2]
    intro f hf
    obtain ⟨pvs, h1, h2⟩ := h.pgs f hf
    refine ⟨pvs, ownsRow_same h1 fun k hk => ho k (h.own_ne h1 (by decide) hk), fun i pv p hpv hp => ownsRow_same (h2 i pv p hpv hp) fun k hk => ho k (h.own_ne (h2 i pv p hpv hp) (by decide) hk)⟩
  · rw [e2]; exact h.apart
  · rw [e2]; exact h.nums
  · rw [e2]; exact fun f hf => ⟨(h.num f hf).1, Int.le_trans (h.num f hf).2 hm⟩
  · rw [e1, e2]; exact h.len
end
end Go.Proofs.Ythimgldohhaimab
