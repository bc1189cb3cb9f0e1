/-
  Package disk: a disk in memory; contracts of closed, Meter, Deeds.
-/
import Derived.Test.YthimgldohhaimabDk1
namespace Go.Proofs.Ythimgldohhaimab
open Go.RowKit Go.Maps

/-- A file: its number, the slice that holds its pages, the pages' bytes. -/
structure Fl where
  n : Int
  v : Value
  ps : List (List Int)
/-- What a disk knows. -/
structure Dk where
  room : Int
  fa : List Int
  fs : List Fl
  last : Int
  deeds : Int
  rd : Int
  wr : Int
  us : Int
  pk : Int
def Dk.box (d : Dk) (mf ms : Nat) : Array Value := #[.int .i64 d.room, .map (some mf), .map (some ms), .int .i64 d.last, .int .i64 d.deeds, .int .i64 d.rd, .int .i64 d.wr, .int .i64 d.us, .int .i64 d.pk]
def Dk.flt (d : Dk) : List (Int × Value) := d.fa.map fun n => (n, .agg #[])
def Dk.fls (d : Dk) : List (Int × Value) := d.fs.map fun f => (f.n, f.v)
def cellsP (ps : List (List Int)) : List Value := ps.flatMap fun p => p.map (Value.int .u8)
abbrev PgsAt (B : Nat) (w : World) (v : Value) (ps : List (List Int)) : Prop := w.ownsRow B 66 256 v ps.length (cellsP ps)
/-- A disk as it may be. -/
structure Sd (d : Dk) : Prop where
  room : 0 ≤ d.room ∧ d.room ≤ 16384
  fnod : d.fa.Nodup
  flen : d.fa.length ≤ maxLen
  nums : (d.fs.map Fl.n).Nodup
  num : ∀ f ∈ d.fs, 1 ≤ f.n ∧ f.n ≤ d.last
  len : d.fs.length ≤ 32768
  apart : ∀ f ∈ d.fs, ∀ g ∈ d.fs, f.n ≠ g.n → ∀ k, f.v.ownBlock = some k → g.v.ownBlock ≠ some k
  pages : ∀ f ∈ d.fs, ∀ p ∈ f.ps, p.length = 256
  used : d.us = (d.fs.map fun f => (f.ps.length : Int)).sum
  most : d.us ≤ d.room
  peak : d.us ≤ d.pk ∧ d.pk ≤ d.room
  pos : 0 ≤ d.last ∧ 0 ≤ d.deeds ∧ 0 ≤ d.rd ∧ 0 ≤ d.wr
/-- A disk in memory, whatever its numbers. -/
structure DkRaw (B : Nat) (w : World) (l mf ms : Nat) (d : Dk) : Prop where
  box : w.heap[l]? = some (.cells (d.box mf ms) 53 (0, 0))
  flt : MpAt w mf d.flt
  fls : MpAt w ms d.fls
  pgs : ∀ f ∈ d.fs, PgsAt B w f.v f.ps
  lo : B ≤ l ∧ B ≤ mf ∧ B ≤ ms
  ne : mf ≠ ms
/-- A disk in memory. -/
structure DkAt (B : Nat) (w : World) (l mf ms : Nat) (d : Dk) : Prop extends DkRaw B w l mf ms d where
  sane : Sd d
/-- What a disk never lies in. -/
def outD : Obj → Bool
  | .cells _ t _ => t != 53 && t != 66
  | .map _ _ => false
  | _ => true
/-- What disks may do to a world: what is older than base, and what is none of theirs, is as it was. -/
structure Dg (B : Nat) (w w' : World) : Prop where
  below : Below B w w'
  typ : ∀ (k : Nat) (o : Obj), w.heap[k]? = some o → outD o = true → w'.heap[k]? = some o
theorem Dg.refl (B : Nat) (w : World) : Dg B w w := ⟨Below.refl _ _, fun _ _ h _ => h⟩
theorem Dg.trans {B : Nat} {w w1 w2 : World} (h : Dg B w w1) (k : Dg B w1 w2) : Dg B w w2 := ⟨h.below.trans k.below, fun i o hi ho => k.typ i o (h.typ i o hi ho) ho⟩
theorem Dg.of_below {B : Nat} {w w' : World} (hB : B ≤ w.heap.size) (h : Below w.heap.size w w') : Dg B w w' := ⟨h.mono hB, fun k _ hk _ => (h.block k (block_ltD hk)).trans hk⟩
theorem Dg.grown {B : Nat} {w w' : World} {b : Nat} {o : Obj} (hB : B ≤ b) (hb : w.heap[b]? = some o) (ho : outD o = false) (h : w.grownBy w' (some b)) : Dg B w w' := by
  have hlt := block_ltD hb
  refine ⟨(Below.refl B w).grown h (by omega) (fun k hk => by cases hk; exact hB), fun k o' hk ho' => ?_⟩
  have hne : k ≠ b := fun e => by subst e; rw [hb] at hk; cases hk; rw [ho] at ho'; cases ho'
  exact (h.block k (block_ltD hk) (by simpa using hne)).trans hk
theorem Dg.mono {B A : Nat} {w w' : World} (h : Dg B w w') (hA : A ≤ B) : Dg A w w' := ⟨h.below.mono hA, h.typ⟩
section
variable {B : Nat} {w w' : World} {l mf ms : Nat} {d : Dk}
theorem DkRaw.lt (h : DkRaw B w l mf ms d) : B ≤ w.heap.size := by
  have := block_ltD h.box
  have := h.lo.1
  omega
theorem DkRaw.ptr (h : DkRaw B w l mf ms d) : l ≠ mf ∧ l ≠ ms := by
  have hb := h.box
  obtain ⟨es, c, h1⟩ := h.flt.isMap
  obtain ⟨es', c', h2⟩ := h.fls.isMap
  exact ⟨fun e => (by rw [e, h1] at hb; cases hb), fun e => (by rw [e, h2] at hb; cases hb)⟩
theorem DkRaw.page_typ (h : DkRaw B w l mf ms d) {f : Fl} (hf : f ∈ d.fs) {k : Nat} (hk : f.v.ownBlock = some k) : ∃ cs fr, w.heap[k]? = some (.cells cs 66 fr) := by
  rcases (h.pgs f hf).2 with ⟨hv, _⟩ | ⟨g, cap, cur, hv, hb, hgg, _⟩
  · rw [hv] at hk; cases hk
  · rw [hv] at hk
    simp [Value.ownBlock] at hk
    subst hk
    exact ⟨cur, _, hgg⟩
theorem DkRaw.page_ne (h : DkRaw B w l mf ms d) {f : Fl} (hf : f ∈ d.fs) {k : Nat} (hk : f.v.ownBlock = some k) : k ≠ l ∧ k ≠ mf ∧ k ≠ ms := by
  obtain ⟨cs, fr, hc⟩ := h.page_typ hf hk
  have hb := h.box
  obtain ⟨es, c, h1⟩ := h.flt.isMap
  obtain ⟨es', c', h2⟩ := h.fls.isMap
  exact ⟨fun e => (by rw [e, hb] at hc; cases hc), fun e => (by rw [e, h1] at hc; cases hc), fun e => (by rw [e, h2] at hc; cases hc)⟩
theorem ownsRow_same {e : TypeId} {v : Value} {n : Nat} {xs : List Value} {size : Nat} (h : w.ownsRow B e size v n xs) (hb : ∀ k, v.ownBlock = some k → w'.heap[k]? = w.heap[k]?) : w'.ownsRow B e size v n xs := by
  refine ⟨h.1, ?_⟩
  rcases h.2 with hn | ⟨g, cap, cur, rfl, hbb, hgg, rest⟩
  · exact .inl hn
  · exact .inr ⟨g, cap, cur, rfl, hbb, (hb g rfl).trans hgg, rest⟩
/-- The disk's box may be another one; all else of it is as it was. -/
theorem DkRaw.move {d' : Dk} (h : DkRaw B w l mf ms d) (hb : w'.heap[l]? = some (.cells (d'.box mf ms) 53 (0, 0))) (ho : ∀ k, k < w.heap.size → k ≠ l → w'.heap[k]? = w.heap[k]?) (e1 : d'.fa = d.fa) (e2 : d'.fs = d.fs) : DkRaw B w' l mf ms d' := by
  have hp := h.ptr
  refine ⟨hb, ?_, ?_, fun f hf => ?_, h.lo, h.ne⟩
  · unfold Dk.flt; rw [e1]; exact h.flt.kept (ho mf h.flt.lt (Ne.symm hp.1))
  · unfold Dk.fls; rw [e2]; exact h.fls.kept (ho ms h.fls.lt (Ne.symm hp.2))
  · rw [e2] at hf
    exact ownsRow_same (h.pgs f hf) (fun k hk => ho k ((h.pgs f hf).lt k hk).2 (h.page_ne hf hk).1)
theorem DkRaw.kept (h : DkRaw B w l mf ms d) (hb : Below w.heap.size w w') : DkRaw B w' l mf ms d :=
  ⟨(hb.block l (block_ltD h.box)).trans h.box, h.flt.kept (hb.block mf h.flt.lt), h.fls.kept (hb.block ms h.fls.lt), fun f hf => ownsRow_same (h.pgs f hf) (fun k hk => hb.block k ((h.pgs f hf).lt k hk).2), h.lo, h.ne⟩
theorem DkAt.kept (h : DkAt B w l mf ms d) (hb : Below w.heap.size w w') : DkAt B w' l mf ms d := ⟨h.toDkRaw.kept hb, h.sane⟩
theorem DkRaw.c0 (h : DkRaw B w l mf ms d) : w.cell? ⟨l, 0, none⟩ = some (.int .i64 d.room) := by simp [World.cell?, h.box, Dk.box]
theorem DkRaw.c1 (h : DkRaw B w l mf ms d) : w.cell? ⟨l, 1, none⟩ = some (.map (some mf)) := by simp [World.cell?, h.box, Dk.box]
theorem DkRaw.c2 (h : DkRaw B w l mf ms d) : w.cell? ⟨l, 2, none⟩ = some (.map (some ms)) := by simp [World.cell?, h.box, Dk.box]
theorem DkRaw.c3 (h : DkRaw B w l mf ms d) : w.cell? ⟨l, 3, none⟩ = some (.int .i64 d.last) := by simp [World.cell?, h.box, Dk.box]
theorem DkRaw.c4 (h : DkRaw B w l mf ms d) : w.cell? ⟨l, 4, none⟩ = some (.int .i64 d.deeds) := by simp [World.cell?, h.box, Dk.box]
theorem DkRaw.c5 (h : DkRaw B w l mf ms d) : w.cell? ⟨l, 5, none⟩ = some (.int .i64 d.rd) := by simp [World.cell?, h.box, Dk.box]
theorem DkRaw.c6 (h : DkRaw B w l mf ms d) : w.cell? ⟨l, 6, none⟩ = some (.int .i64 d.wr) := by simp [World.cell?, h.box, Dk.box]
theorem DkRaw.c7 (h : DkRaw B w l mf ms d) : w.cell? ⟨l, 7, none⟩ = some (.int .i64 d.us) := by simp [World.cell?, h.box, Dk.box]
theorem DkRaw.c8 (h : DkRaw B w l mf ms d) : w.cell? ⟨l, 8, none⟩ = some (.int .i64 d.pk) := by simp [World.cell?, h.box, Dk.box]
theorem DkRaw.fz (h : DkRaw B w l mf ms d) (i : Nat) : w.frozen? ⟨l, i, none⟩ = false := by simp [World.frozen?, h.box]
/-- One number of the box is written. -/
theorem DkRaw.set {d' : Dk} {i : Nat} {x : Int} (h : DkRaw B w l mf ms d) (hx : (d.box mf ms).set! i (.int .i64 x) = d'.box mf ms) (e1 : d'.fa = d.fa) (e2 : d'.fs = d.fs) : DkRaw B (w.setCell ⟨l, i, none⟩ (.int .i64 x)) l mf ms d' ∧ Dg B w (w.setCell ⟨l, i, none⟩ (.int .i64 x)) := by
  have hb := h.box
  have ho : ∀ k, k ≠ l → (w.setCell ⟨l, i, none⟩ (.int .i64 x)).heap[k]? = w.heap[k]? := fun k hk => by simp [World.setCell, Array.getElem?_modify, Ne.symm hk]
  refine ⟨h.move ?_ (fun k _ hk => ho k hk) e1 e2, (Below.refl B w).setCell h.lo.1 _, fun k o hk hko => ?_⟩
  · rw [← hx]
    simp [World.setCell, Array.getElem?_modify, hb]
  · refine (ho k (fun e => ?_)).trans hk
    subst e
    rw [hb] at hk
    cases hk
    simp [outD] at hko
theorem DkAt.set {d' : Dk} {i : Nat} {x : Int} (h : DkAt B w l mf ms d) (hx : (d.box mf ms).set! i (.int .i64 x) = d'.box mf ms) (e1 : d'.fa = d.fa) (e2 : d'.fs = d.fs) (hs : Sd d') : DkAt B (w.setCell ⟨l, i, none⟩ (.int .i64 x)) l mf ms d' ∧ Dg B w (w.setCell ⟨l, i, none⟩ (.int .i64 x)) :=
  ⟨⟨(h.toDkRaw.set hx e1 e2).1, hs⟩, (h.toDkRaw.set hx e1 e2).2⟩
end

set_option maxRecDepth 100000 in
set_option maxHeartbeats 400000 in
theorem dclosed_no (l ms : Nat) (w : World) (c0 : w.cell? ⟨l, 2, none⟩ = some (.map (some ms))) :
    Calls Try.prog 23 #[.pointer (some ⟨l, 0, none⟩)] w fun e w' => e = .returned (.bool false) ∧ w = w' := by
  have qm := run_eql_map_nil (P := Try.prog) w 51 _ _ (some ms) Try.underlying51
  go_enter Try.func23, Try.ntmps23
  go_wp2_with fail
  go_ret
  exact ⟨by simp, rfl⟩
set_option maxRecDepth 100000 in
set_option maxHeartbeats 400000 in
theorem dclosed_nil (w : World) :
    Calls Try.prog 23 #[.pointer none] w fun e w' => e = .returned (.bool true) ∧ w = w' := by
  go_enter Try.func23, Try.ntmps23
  go_wp2_with fail
  go_ret
  exact ⟨by simp, rfl⟩
set_option maxRecDepth 100000 in
set_option maxHeartbeats 1000000 in
theorem meter_any (B l mf ms : Nat) (d : Dk) (w : World) (h : DkAt B w l mf ms d) :
    Calls Try.prog 14 #[.pointer (some ⟨l, 0, none⟩)] w fun e w' => e = .returned (.agg #[.int .i64 d.rd, .int .i64 d.wr, .int .i64 d.us, .int .i64 d.pk]) ∧ Below w.heap.size w w' := by
  have hk := h.kept (ba w (.cells #[.int .i64 0, .int .i64 0, .int .i64 0, .int .i64 0] 45))
  have c2 := hk.c2
  have HC := Lib.hid (dclosed_no l ms _ c2)
  have c5 := hk.c5
  have c6 := hk.c6
  have c7 := hk.c7
  have c8 := hk.c8
  clear h hk
  go_enter Try.func14, Try.ntmps14
  go_wp2_with fail
  refine HC.out.mono ?_
  rintro e w1 ⟨rfl, rfl⟩
  go_wp2_with fail
  refine bodyPost_ret (v := .agg #[.int .i64 d.rd, .int .i64 d.wr, .int .i64 d.us, .int .i64 d.pk]) (by simp [results, Try.results14, go_sem]) rfl ⟨rfl, ?_⟩
  exact ba w _
set_option maxRecDepth 100000 in
set_option maxHeartbeats 1000000 in
theorem meter_nil (w : World) :
    Calls Try.prog 14 #[.pointer none] w fun e w' => e = .returned (.agg #[.int .i64 0, .int .i64 0, .int .i64 0, .int .i64 0]) ∧ Below w.heap.size w w' := by
  have HC := Lib.hid (dclosed_nil (w.alloc (.cells #[.int .i64 0, .int .i64 0, .int .i64 0, .int .i64 0] 45)))
  go_enter Try.func14, Try.ntmps14
  go_wp2_with fail
  refine HC.out.mono ?_
  rintro e w1 ⟨rfl, rfl⟩
  go_wp2_with fail
  refine bodyPost_ret (v := .agg #[.int .i64 0, .int .i64 0, .int .i64 0, .int .i64 0]) (by simp [results, Try.results14, go_sem]) rfl ⟨rfl, ?_⟩
  exact ba w _
set_option maxRecDepth 100000 in
set_option maxHeartbeats 1000000 in
theorem deeds_any (B l mf ms : Nat) (d : Dk) (w : World) (h : DkAt B w l mf ms d) :
    Calls Try.prog 16 #[.pointer (some ⟨l, 0, none⟩)] w fun e w' => e = .returned (.int .i64 d.deeds) ∧ w = w' := by
  have c2 := h.c2
  have HC := Lib.hid (dclosed_no l ms w c2)
  have c4 := h.c4
  clear h
  go_enter Try.func16, Try.ntmps16
  go_wp2_with fail
  refine HC.out.mono ?_
  rintro e w1 ⟨rfl, rfl⟩
  go_wp2_with fail
  go_ret
  exact ⟨rfl, rfl⟩
set_option maxRecDepth 100000 in
set_option maxHeartbeats 1000000 in
theorem deeds_nil (w : World) :
    Calls Try.prog 16 #[.pointer none] w fun e w' => e = .returned (.int .i64 0) ∧ Below w.heap.size w w' := by
  have HC := Lib.hid (dclosed_nil w)
  go_enter Try.func16, Try.ntmps16
  go_wp2_with fail
  refine HC.out.mono ?_
  rintro e w1 ⟨rfl, rfl⟩
  go_wp2_with fail
  go_ret
  exact ⟨rfl, Below.refl _ _⟩
end Go.Proofs.Ythimgldohhaimab
