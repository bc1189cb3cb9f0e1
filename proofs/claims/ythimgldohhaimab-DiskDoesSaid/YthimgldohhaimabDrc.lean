/-
  DiskDoes: do both tell the same (alike): its parts.
-/
import Derived.Test.YthimgldohhaimabDrb
namespace Go.Proofs.Ythimgldohhaimab
open Go.RowKit Go.Maps Go.Sort

theorem tellF_n {a b : List Fl} (h : tellF a = tellF b) : a.map Fl.n = b.map Fl.n := by
  have := congrArg (List.map Prod.fst) h
  rw [tellF, tellF, List.map_map, List.map_map] at this
  exact this
/-- A sorted list of the same numbers as an ascending one is that. -/
theorem sorted_eq {ys xs : List Int} (h : ys.Perm xs) (hy : ys.Pairwise (fun x y => x ≤ y)) (hx : xs.Pairwise (· < ·)) : ys = xs :=
  List.Perm.eq_of_pairwise (le := fun x y => x ≤ y) (fun a b _ _ h1 h2 => by omega) hy (hx.imp fun h => by omega) h
/-- While alike asks. -/
structure Al (w0 w : World) (B l mf ms x : Nat) (vF vL : Value) (d : Dk) (X : Xd) (A : Option Addr) (c : Nat) : Prop where
  hD : DkAt B w l mf ms d
  hX : XdAt B w x vF vL X
  own : w.ownsRow w0.heap.size 3 1 (.slice A X.fs.length c) X.fs.length ((X.fs.map Fl.n).map (Value.int .i64))
  below : Below w0.heap.size w0 w
section
variable {w0 w w' : World} {B l mf ms x : Nat} {vF vL : Value} {d : Dk} {X : Xd} {A : Option Addr} {c : Nat} {j : Int}
theorem Al.kept (h : Al w0 w B l mf ms x vF vL d X A c) (hb : Below w.heap.size w w') : Al w0 w' B l mf ms x vF vL d X A c :=
  ⟨h.hD.kept hb, h.hX.kept hb, ownsRow_same h.own fun k hk => hb.block k (h.own.lt k hk).2, h.below.trans (hb.mono h.below.size)⟩
theorem al_start (hd : DkAt B w l mf ms d) (hx : XdAt B w x vF vL X) (hs : Sy d X j) {v : Value} {ys : List Int} (hp : ys.Perm (d.fs.map Fl.n)) (hy : ys.Pairwise (fun x y => x ≤ y)) (ho : w'.ownsRow w.heap.size 3 1 v ys.length (ys.map (Value.int .i64))) (hb : Below w.heap.size w w') :
    ∃ A c, v = .slice A X.fs.length c ∧ Al w w' B l mf ms x vF vL d X A c := by
  rw [← tellF_n hs.fs] at hp
  have he := sorted_eq hp hy hx.nums
  subst he
  rw [List.length_map] at ho
  obtain ⟨A, c, rfl⟩ := own_sliceD ho
  exact ⟨A, c, rfl, hd.kept hb, hx.kept hb, ho, hb⟩
def AlS (x : Nat) (vL : Value) (X : Xd) (w : World) : Prop := w.cell? ⟨x, 2, none⟩ = some vL ∧ w.cell? ⟨x, 4, none⟩ = some (.int .i64 X.deeds) ∧ w.cell? ⟨x, 5, none⟩ = some (.int .i64 X.rd) ∧ w.cell? ⟨x, 6, none⟩ = some (.int .i64 X.wr) ∧ w.cell? ⟨x, 7, none⟩ = some (.int .i64 X.us) ∧ w.cell? ⟨x, 8, none⟩ = some (.int .i64 X.pk)
theorem Al.s (h : Al w0 w B l mf ms x vF vL d X A c) : AlS x vL X w := ⟨h.hX.c2, h.hX.c4, h.hX.c5, h.hX.c6, h.hX.c7, h.hX.c8⟩
theorem al_meter (h : Hid (Al w0 w B l mf ms x vF vL d X A c)) (hs : Hid (Sy d X j)) :
    Calls Try.prog 14 #[.pointer (some ⟨l, 0, none⟩)] w fun e w' => e = .returned (.agg #[.int .i64 X.rd, .int .i64 X.wr, .int .i64 X.us, .int .i64 X.pk]) ∧ Hid (Al w0 w' B l mf ms x vF vL d X A c) ∧ AlS x vL X w' := by
  refine (meter_any B l mf ms d w h.out.hD).mono ?_
  rintro e w' ⟨rfl, hb⟩
  have h2 := h.out.kept hb
  exact ⟨by rw [hs.out.rd, hs.out.wr, hs.out.us, hs.out.pk], Lib.hid h2, h2.s⟩
theorem al_deeds (h : Hid (Al w0 w B l mf ms x vF vL d X A c)) (hs : Hid (Sy d X j)) :
    Calls Try.prog 16 #[.pointer (some ⟨l, 0, none⟩)] w fun e w' => e = .returned (.int .i64 X.deeds) ∧ Hid (Al w0 w' B l mf ms x vF vL d X A c) ∧ AlS x vL X w' := by
  refine (deeds_any B l mf ms d w h.out.hD).mono ?_
  rintro e w' ⟨rfl, rfl⟩
  exact ⟨by rw [hs.out.deeds], h, h.out.s⟩
theorem al_size (h : Hid (Al w0 w B l mf ms x vF vL d X A c)) (hs : Hid (Sy d X j)) {f : Fl} (hf : flOf X.fs f.n = some f) (hw : (Lit.int .i64 f.n).wf = true) :
    Calls Try.prog 13 #[.pointer (some ⟨l, 0, none⟩), .int .i64 f.n] w fun e w' => e = .returned (.tuple #[.int .i64 f.ps.length, .int .i64 0]) ∧ w = w' := by
  refine (size_any B l mf ms d f.n w h.out.hD.toDkRaw hw).mono ?_
  rintro e w' ⟨rfl, rfl⟩
  have := tellF_fl hs.out.fs f.n
  rw [hf] at this
  refine ⟨?_, rfl⟩
  unfold sizeV
  cases hg : flOf d.fs f.n with
  | none => rw [hg] at this; cases this
  | some g =>
    rw [hg] at this
    have h1 : f.ps = g.ps := by simpa using this
    rw [h1]
theorem al_none (h : Hid (Al w0 w B l mf ms x vF vL d X A c)) (hs : Hid (Sy d X j)) {n : Int} (hf : flOf X.fs n = none) (hw : (Lit.int .i64 n).wf = true) :
    Calls Try.prog 13 #[.pointer (some ⟨l, 0, none⟩), .int .i64 n] w fun e w' => e = .returned (.tuple #[.int .i64 0, .int .i64 4]) ∧ w = w' := by
  refine (size_any B l mf ms d n w h.out.hD.toDkRaw hw).mono ?_
  rintro e w' ⟨rfl, rfl⟩
  have := tellF_fl hs.out.fs n
  rw [hf] at this
  refine ⟨?_, rfl⟩
  unfold sizeV
  cases hg : flOf d.fs n with
  | none => rfl
  | some g => rw [hg] at this; cases this
theorem Al.at (h : Al w0 w B l mf ms x vF vL d X A c) {i : Nat} {f : Fl} (hi : X.fs[i]? = some f) : ∃ b, A = some ⟨b, 0, none⟩ ∧ w.cell? ⟨b, i, none⟩ = some (.int .i64 f.n) := by
  obtain ⟨hil, hfe⟩ := List.getElem?_eq_some_iff.1 hi
  obtain ⟨g, cap, hv, _, _, _, hc⟩ := own_cellN h.own (by omega)
  simp only [Value.slice.injEq] at hv
  exact ⟨g, hv.1, by have := hc i (.int .i64 f.n) (by rw [List.getElem?_map, List.getElem?_map, hi]; rfl); simpa using this⟩
end
end Go.Proofs.Ythimgldohhaimab
