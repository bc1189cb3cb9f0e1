/-
  DiskDoes: both disks know the same: plain.
-/
import Derived.Test.YthimgldohhaimabDr7
import Derived.Test.YthimgldohhaimabDr4
namespace Go.Proofs.Ythimgldohhaimab
open Go.RowKit Go.Maps Go.Sort

/-- What a file tells. -/
def tellF (fs : List Fl) : List (Int × List (List Int)) := fs.map fun f => (f.n, f.ps)
/-- Both know the same, behind i calls at most. -/
structure Sy (d : Dk) (X : Xd) (i : Int) : Prop where
  room : X.room = d.room
  made : X.made = d.last
  deeds : X.deeds = d.deeds
  rd : X.rd = d.rd
  wr : X.wr = d.wr
  us : X.us = d.us
  pk : X.pk = d.pk
  fs : tellF X.fs = tellF d.fs
  fa : ∀ k, d.deeds < k → (k ∈ d.fa ↔ k ∈ X.fa)
  cnt : d.last ≤ i ∧ d.deeds ≤ i ∧ d.rd ≤ i ∧ d.wr ≤ i
theorem tellF_len {a b : List Fl} (h : tellF a = tellF b) : a.length = b.length := by
  have := congrArg List.length h
  simpa [tellF] using this
theorem tellF_fl : ∀ {a b : List Fl} (_ : tellF a = tellF b) (n : Int), (flOf a n).map Fl.ps = (flOf b n).map Fl.ps
  | [], [], _, n => rfl
  | [], g :: b, h, n => by simp [tellF] at h
  | f :: a, [], h, n => by simp [tellF] at h
  | f :: a, g :: b, h, n => by
    simp only [tellF, List.map_cons, List.cons.injEq, Prod.mk.injEq] at h
    have ih := tellF_fl (a := a) (b := b) h.2 n
    unfold flOf at ih ⊢
    rw [List.find?_cons, List.find?_cons, h.1.1]
    split
    · simp [h.1.2]
    · exact ih
theorem tellF_none {a b : List Fl} (h : tellF a = tellF b) (n : Int) : (flOf a n).isNone = (flOf b n).isNone := by
  have := tellF_fl h n
  cases h1 : flOf a n <;> cases h2 : flOf b n <;> rw [h1, h2] at this <;> simp_all
theorem tellF_filter : ∀ {a b : List Fl} (_ : tellF a = tellF b) (n : Int), tellF (a.filter (fun g => g.n != n)) = tellF (b.filter (fun g => g.n != n))
  | [], [], _, n => rfl
  | [], g :: b, h, n => by simp [tellF] at h
  | f :: a, [], h, n => by simp [tellF] at h
  | f :: a, g :: b, h, n => by
    simp only [tellF, List.map_cons, List.cons.injEq, Prod.mk.injEq] at h
    have ih := tellF_filter (a := a) (b := b) h.2 n
    rw [List.filter_cons, List.filter_cons, h.1.1]
    split
    · simp only [tellF, List.map_cons, h.1.1, h.1.2] at ih ⊢
      rw [ih]
    · exact ih
theorem tellF_setF {a b : List Fl} (h : tellF a = tellF b) (n : Int) (u v : Value) (q : List Int) : tellF (setF a n u q) = tellF (setF b n v q) := by
  have key : ∀ (c : List Fl) (z : Value), tellF (setF c n z q) = (tellF c).map fun p => if p.1 = n then (n, p.2 ++ [q]) else p := fun c z => by
    simp only [tellF, setF, List.map_map]
    apply List.map_congr_left
    intro g _
    simp only [Function.comp]
    split <;> rfl
  rw [key, key, h]
theorem tellF_add {a b : List Fl} (h : tellF a = tellF b) (f g : Fl) (e : f.n = g.n) (e2 : f.ps = g.ps) : tellF (a ++ [f]) = tellF (b ++ [g]) := by
  simp only [tellF, List.map_append, List.map_cons, List.map_nil] at h ⊢
  rw [h, e, e2]
theorem sum_ge_mem {l : List Fl} {f : Fl} (h : f ∈ l) : (f.ps.length : Int) ≤ (l.map fun f => (f.ps.length : Int)).sum := by
  induction l with
  | nil => cases h
  | cons g l ih =>
    have h0 : 0 ≤ (l.map fun f => (f.ps.length : Int)).sum := by
      clear ih h
      induction l with
      | nil => simp
      | cons e l ih => simp only [List.map_cons, List.sum_cons]; omega
    simp only [List.map_cons, List.sum_cons]
    rcases List.mem_cons.1 h with rfl | h1
    · omega
    · have := ih h1; omega
section
variable {d : Dk} {X : Xd} {i : Int}
theorem Sy.new {room : Int} {F fa : List Int} (h : ∀ n, n ∈ F ↔ n ∈ fa ∧ 1 ≤ n) : Sy (dkNew room F) (xdNew room fa) 0 :=
  ⟨rfl, rfl, rfl, rfl, rfl, rfl, rfl, rfl, fun k hk => by
    have hk : 0 < k := hk
    show k ∈ F ↔ k ∈ fa
    rw [h]
    exact ⟨fun a => a.1, fun a => ⟨a, by omega⟩⟩, ⟨Int.le_refl _, Int.le_refl _, Int.le_refl _, Int.le_refl _⟩⟩
theorem Sy.mono {j : Int} (h : Sy d X i) (hj : i ≤ j) : Sy d X j := { h with cnt := ⟨by have := h.cnt.1; omega, by have := h.cnt.2.1; omega, by have := h.cnt.2.2.1; omega, by have := h.cnt.2.2.2; omega⟩ }
theorem Sy.hit (h : Sy d X i) : X.deeds + 1 ∈ X.fa ↔ d.deeds + 1 ∈ d.fa := by rw [h.deeds]; exact (h.fa _ (by omega)).symm
theorem Sy.len (h : Sy d X i) : X.fs.length = d.fs.length := tellF_len h.fs
theorem Sy.none (h : Sy d X i) (n : Int) : (flOf X.fs n).isNone = (flOf d.fs n).isNone := tellF_none h.fs n
theorem Sy.pages (h : Sy d X i) (n : Int) : pagesX X n = pagesOf d n := by
  have := tellF_fl h.fs n
  unfold pagesX pagesOf
  cases h1 : flOf X.fs n <;> cases h2 : flOf d.fs n <;> rw [h1, h2] at this <;> simp_all
theorem Sy.deed (h : Sy d X i) : Sy d.deed { X with deeds := X.deeds + 1 } (i + 1) :=
  ⟨h.room, h.made, by show X.deeds + 1 = d.deeds + 1; rw [h.deeds], h.rd, h.wr, h.us, h.pk, h.fs, fun k hk => by
    have hk : d.deeds + 1 < k := hk
    show k ∈ d.fa.filter (fun k => k != d.deeds + 1) ↔ k ∈ X.fa
    rw [← h.fa k (by omega), List.mem_filter]
    exact ⟨fun a => a.1, fun a => ⟨a, by simp; omega⟩⟩, by
    have := h.cnt
    show d.last ≤ i + 1 ∧ d.deeds + 1 ≤ i + 1 ∧ d.rd ≤ i + 1 ∧ d.wr ≤ i + 1
    omega⟩
theorem Sy.read (h : Sy d X i) : Sy d.deed.read { X with deeds := X.deeds + 1, rd := X.rd + 1 } (i + 1) := by
  have k := h.deed
  refine { k with rd := by show X.rd + 1 = d.rd + 1; rw [h.rd], cnt := ?_ }
  have := h.cnt
  show d.last ≤ i + 1 ∧ d.deeds + 1 ≤ i + 1 ∧ d.rd + 1 ≤ i + 1 ∧ d.wr ≤ i + 1
  omega
theorem Sy.add (h : Sy d X i) : Sy d.add X.add (i + 1) := by
  refine { h with made := by show X.made + 1 = d.last + 1; rw [h.made], fs := tellF_add h.fs _ _ (by show X.made + 1 = d.last + 1; rw [h.made]) rfl, cnt := ?_ }
  have := h.cnt
  show d.last + 1 ≤ i + 1 ∧ d.deeds ≤ i + 1 ∧ d.rd ≤ i + 1 ∧ d.wr ≤ i + 1
  omega
theorem Sy.app (h : Sy d X i) (n : Int) (u v : Value) (q : List Int) : Sy (d.deed.app n u q) { X with deeds := X.deeds + 1, fs := setF X.fs n v q, wr := X.wr + 1, us := X.us + 1, pk := max X.pk (X.us + 1) } (i + 1) := by
  have k := h.deed
  refine { k with fs := tellF_setF h.fs n v u q, wr := by show X.wr + 1 = d.wr + 1; rw [h.wr], us := by show X.us + 1 = d.us + 1; rw [h.us], pk := by show max X.pk (X.us + 1) = max d.pk (d.us + 1); rw [h.pk, h.us], cnt := ?_ }
  have := h.cnt
  show d.last ≤ i + 1 ∧ d.deeds + 1 ≤ i + 1 ∧ d.rd ≤ i + 1 ∧ d.wr + 1 ≤ i + 1
  omega
theorem flOf_n {fs : List Fl} {n : Int} {f : Fl} (h : flOf fs n = some f) : f.n = n ∧ f ∈ fs := by
  unfold flOf at h
  exact ⟨by simpa using List.find?_some h, List.mem_of_find?_eq_some h⟩
theorem Sy.del (h : Sy d X i) {n : Int} {f g : Fl} (hf : flOf d.fs n = some f) (hg : flOf X.fs n = some g) : Sy (d.del f) { X with fs := X.fs.filter (fun e => e.n != g.n), us := X.us - g.ps.length } i := by
  have := tellF_fl h.fs n
  rw [hf, hg] at this
  have hps : g.ps = f.ps := by simpa using this
  have hn : g.n = f.n := by rw [(flOf_n hg).1, (flOf_n hf).1]
  refine { h with fs := ?_, us := ?_ }
  · show X.us - g.ps.length = d.us - f.ps.length
    rw [hps, h.us]
  · show tellF (X.fs.filter fun e => e.n != g.n) = tellF (d.fs.filter fun e => e.n != f.n)
    rw [hn]
    exact tellF_filter h.fs _
theorem Sy.room_left (h : Sy d X i) (hs : Sd d) (hr : X.us < X.room) : ∀ f ∈ X.fs, f.ps.length + 1 ≤ 16384 := fun f hf => by
  have h1 : (f.n, f.ps) ∈ tellF X.fs := List.mem_map.2 ⟨f, hf, rfl⟩
  rw [h.fs] at h1
  obtain ⟨g, hg, e⟩ := List.mem_map.1 h1
  have h2 := sum_ge_mem hg
  rw [← hs.used] at h2
  have h3 := hs.room.2
  rw [h.us, h.room] at hr
  have h4 : g.ps = f.ps := (Prod.mk.inj e).2
  rw [h4] at h2
  omega
end
/-- Both in memory. -/
structure Two (B : Nat) (w : World) (l mf ms x : Nat) (i : Int) : Prop where
  ex : ∃ d X vF vL, DkAt B w l mf ms d ∧ XdAt B w x vF vL X ∧ Sy d X i
theorem Two.kept {B : Nat} {w w' : World} {l mf ms x : Nat} {i : Int} (h : Two B w l mf ms x i) (hb : Below w.heap.size w w') : Two B w' l mf ms x i := by
  obtain ⟨d, X, vF, vL, h1, h2, h3⟩ := h.ex
  exact ⟨d, X, vF, vL, h1.kept hb, h2.kept hb, h3⟩
end Go.Proofs.Ythimgldohhaimab
