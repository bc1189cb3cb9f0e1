/-
  Package disk: Append.
-/
import Derived.Test.YthimgldohhaimabDk5
import Derived.OwnWalk
import Derived.Laws.AppendOwn
namespace Go.Proofs.Ythimgldohhaimab
open Go.RowKit Go.Maps

def setF (fs : List Fl) (n : Int) (v : Value) (q : List Int) : List Fl := fs.map fun g => if g.n = n then ⟨n, v, g.ps ++ [q]⟩ else g
def Dk.app (d : Dk) (n : Int) (v : Value) (q : List Int) : Dk := { d with fs := setF d.fs n v q, wr := d.wr + 1, us := d.us + 1, pk := max d.pk (d.us + 1) }
def AppEnd (B : Nat) (w : World) (l mf ms : Nat) (d : Dk) (n : Int) (q : List Int) (e : Ending) (w' : World) : Prop :=
  if q.length ≠ 256 then e = .returned (.int .i64 1) ∧ w' = w
  else if (flOf d.fs n).isNone then e = .returned (.int .i64 4) ∧ w' = w
  else if d.room ≤ d.us then e = .returned (.int .i64 2) ∧ Dg B w w' ∧ DkAt B w' l mf ms d
  else if d.deeds + 1 ∈ d.fa then e = .returned (.int .i64 50) ∧ DkAt B w' l mf ms d.deed ∧ Dg B w w'
  else e = .returned (.int .i64 0) ∧ (∃ v, DkAt B w' l mf ms (d.deed.app n v q)) ∧ Dg B w w'
theorem cellsP_app (ps : List (List Int)) (q : List Int) : cellsP (ps ++ [q]) = cellsP ps ++ q.map (Value.int .u8) := by simp [cellsP]

theorem setF_num (fs : List Fl) (n : Int) (v : Value) (q : List Int) : (setF fs n v q).map Fl.n = fs.map Fl.n := by
  unfold setF
  rw [List.map_map]
  apply List.map_congr_left
  intro g _
  simp only [Function.comp]
  split
  · rename_i h; exact h.symm
  · rfl
theorem setF_mem {fs : List Fl} {n : Int} {v : Value} {q : List Int} {f : Fl} (hd : (fs.map Fl.n).Nodup) (hf : flOf fs n = some f) {e : Fl} (he : e ∈ setF fs n v q) : (e = ⟨n, v, f.ps ++ [q]⟩) ∨ (e ∈ fs ∧ e.n ≠ n) := by
  obtain ⟨g, hg, rfl⟩ := List.mem_map.1 he
  by_cases h : g.n = n
  · obtain ⟨hm, hn⟩ := flOf_mem hf
    have : g = f := by
      clear he hf
      induction fs with
      | nil => cases hm
      | cons a fs ih =>
        rw [List.map_cons, List.nodup_cons] at hd
        rcases List.mem_cons.1 hg with e1 | h1
        · rcases List.mem_cons.1 hm with e2 | h2
          · rw [e1, e2]
          · exact absurd (by rw [← e1, h, ← hn]; exact List.mem_map_of_mem h2) hd.1
        · rcases List.mem_cons.1 hm with e2 | h2
          · exact absurd (by rw [← e2, hn, ← h]; exact List.mem_map_of_mem h1) hd.1
          · exact ih hd.2 h1 h2
    subst this
    rw [if_pos h]
    exact .inl rfl
  · rw [if_neg h]; exact .inr ⟨hg, h⟩
theorem put_fls {d : Dk} {n : Int} {v : Value} {q : List Int} {f : Fl} (hf : flOf d.fs n = some f) : putV d.fls n v = Dk.fls { d with fs := setF d.fs n v q } := by
  unfold putV
  rw [show vOf d.fls n = _ from vOf_fls d.fs n, hf]
  simp only [Option.map_some, Option.isSome_some, if_true]
  unfold Dk.fls setF
  rw [List.map_map, List.map_map]
  apply List.map_congr_left
  intro g _
  simp only [Function.comp]
  split <;> rfl
theorem setF_sum {fs : List Fl} {n : Int} {v : Value} {q : List Int} {f : Fl} (hd : (fs.map Fl.n).Nodup) (hf : flOf fs n = some f) : ((setF fs n v q).map fun f => (f.ps.length : Int)).sum = (fs.map fun f => (f.ps.length : Int)).sum + 1 := by
  obtain ⟨hm, hn⟩ := flOf_mem hf
  clear hf
  induction fs with
  | nil => cases hm
  | cons a fs ih =>
    rw [List.map_cons, List.nodup_cons] at hd
    have hc : setF (a :: fs) n v q = (if a.n = n then ⟨n, v, a.ps ++ [q]⟩ else a) :: setF fs n v q := rfl
    rw [hc, List.map_cons, List.sum_cons, List.map_cons, List.sum_cons]
    rcases List.mem_cons.1 hm with e | h2
    · subst e
      have hno : setF fs n v q = fs := by
        unfold setF
        have : ∀ y ∈ fs, (if y.n = n then (⟨n, v, y.ps ++ [q]⟩ : Fl) else y) = y := fun y hy => if_neg (fun e => hd.1 (by rw [hn, ← e]; exact List.mem_map_of_mem hy))
        rw [List.map_congr_left this]
        simp
      rw [if_pos hn, hno]
      simp
      omega
    · have hne : ¬ a.n = n := fun e => hd.1 (by rw [e, ← hn]; exact List.mem_map_of_mem h2)
      rw [if_neg hne, ih hd.2 h2]
      omega
/-- A page more of one file, and the map told of it. -/
theorem DkRaw.appended {B : Nat} {w w3 w4 : World} {l mf ms g k cap : Nat} {d : Dk} {n : Int} {f : Fl} {q : List Int} (h : DkRaw B w l mf ms d) (hs : Sd d) (hf : flOf d.fs n = some f)
    (hown : PgsAt B w3 (.slice (some ⟨g, 0, none⟩) k cap) (f.ps ++ [q])) (hg : w.grownBy w3 f.v.ownBlock) (hgg : f.v.ownBlock = some g ∨ g = w.heap.size)
    (hm : MpAt w4 ms (putV d.fls n (.slice (some ⟨g, 0, none⟩) k cap))) (ht : w3.mapTurned w4 ms) :
    DkRaw B w4 l mf ms { d with fs := setF d.fs n (.slice (some ⟨g, 0, none⟩) k cap) q } ∧ Dg B w w4 ∧ ∀ e ∈ d.fs, e.n ≠ n → ∀ i, e.v.ownBlock = some i → i ≠ g := by
  obtain ⟨hfm, hfn⟩ := flOf_mem hf
  have hg4 := ht.grown
  have hpt := h.ptr
  obtain ⟨es, c, hmap⟩ := h.fls.isMap
  have hfne : ∀ i, f.v.ownBlock = some i → i ≠ l ∧ i ≠ mf ∧ i ≠ ms := fun i hi => h.page_ne hfm hi
  have hold : ∀ i, i < w.heap.size → f.v.ownBlock ≠ some i → w3.heap[i]? = w.heap[i]? := fun i hi hne => hg.block i hi (fun e => hne e.symm)
  have hms3 : w3.heap[ms]? = w.heap[ms]? := hold ms h.fls.lt (fun e => (hfne ms e).2.2 rfl)
  have hboth : ∀ i, i < w.heap.size → f.v.ownBlock ≠ some i → i ≠ ms → w4.heap[i]? = w.heap[i]? := fun i hi h1 h2 => (hg4.block i (Nat.lt_of_lt_of_le hi hg.size) (by simpa using h2)).trans (hold i hi h1)
  have hgpage : ∃ cs fr, w3.heap[g]? = some (.cells cs 66 fr) := by
    rcases hown.2 with ⟨hv, _⟩ | ⟨g', cap', cur, hv, hbb, hgg', _⟩
    · cases hv
    · injection hv with h1
      injection h1 with h1
      injection h1 with h1
      subst h1
      exact ⟨cur, _, hgg'⟩
  obtain ⟨gcs, gfr, hgp⟩ := hgpage
  have hgms : g ≠ ms := fun e => by rw [e, hms3, hmap] at hgp; cases hgp
  have hd3 : Dg B w w3 := by
    cases hfo : f.v.ownBlock with
    | none =>
      rw [hfo] at hg
      exact Dg.of_below h.lt ((Below.refl _ _).grown hg (Nat.le_refl _) (fun k hk => by cases hk))
    | some i =>
      rw [hfo] at hg
      obtain ⟨cs, fr, hc⟩ := h.page_typ hfm hfo
      exact Dg.grown ((h.pgs f hfm).lt i hfo).1 hc (by simp [outD]) hg
  refine ⟨⟨?_, ?_, ?_, fun e he => ?_, h.lo, h.ne⟩, hd3.trans (Dg.grown h.lo.2.2 (hms3.trans hmap) rfl hg4), fun e he hne i hi => ?_⟩
  · exact (hboth l (block_ltD h.box) (fun e => (hfne l e).1 rfl) hpt.2).trans h.box
  · exact h.flt.kept (hboth mf h.flt.lt (fun e => (hfne mf e).2.1 rfl) h.ne)
  · rw [put_fls (q := q) hf] at hm
    exact hm
  · rcases setF_mem hs.nums hf he with rfl | ⟨he, hne⟩
    · exact ownsRow_same hown (fun k hk => by
        simp [Value.ownBlock] at hk
        subst hk
        exact hg4.block g (block_ltD hgp) (by simpa using hgms))
    · refine ownsRow_same (h.pgs e he) (fun k hk => hboth k ((h.pgs e he).lt k hk).2 (fun e2 => hs.apart e he f hfm (by rw [hfn]; exact hne) k hk e2) (h.page_ne he hk).2.2)
  · rcases hgg with hgg | hgg
    · intro e2
      subst e2
      exact hs.apart e he f hfm (by rw [hfn]; exact hne) i hi hgg
    · have := ((h.pgs e he).lt i hi).2
      omega
theorem Sd.app {d : Dk} (hs : Sd d) {n : Int} {f : Fl} {q : List Int} {g k cap : Nat} (hf : flOf d.fs n = some f) (hq : q.length = 256) (hroom : d.us < d.room) (hap : ∀ e ∈ d.fs, e.n ≠ n → ∀ i, e.v.ownBlock = some i → i ≠ g) : Sd (d.app n (.slice (some ⟨g, 0, none⟩) k cap) q) := by
  obtain ⟨hfm, hfn⟩ := flOf_mem hf
  have hu := hs.used
  have hp := hs.peak
  refine ⟨hs.room, hs.fnod, hs.flen, ?_, fun e he => ?_, ?_, fun e he e' he' hne i hi => ?_, fun e he p hp => ?_, ?_, ?_, ?_, hs.pos.1, hs.pos.2.1, hs.pos.2.2.1, ?_⟩
  · show ((setF d.fs n _ q).map Fl.n).Nodup
    rw [setF_num]; exact hs.nums
  · rcases setF_mem hs.nums hf he with rfl | ⟨he, _⟩
    · have := hs.num f hfm; rw [hfn] at this; exact this
    · exact hs.num e he
  · show (setF d.fs n _ q).length ≤ 32768
    simp [setF]; exact hs.len
  · rcases setF_mem hs.nums hf he with rfl | ⟨he, h1⟩
    · rcases setF_mem hs.nums hf he' with rfl | ⟨he', h2⟩
      · exact absurd rfl hne
      · simp [Value.ownBlock] at hi
        subst hi
        exact fun e2 => hap e' he' h2 g e2 rfl
    · rcases setF_mem hs.nums hf he' with rfl | ⟨he', h2⟩
      · simp [Value.ownBlock]
        exact fun e2 => hap e he h1 i hi e2.symm
      · exact hs.apart e he e' he' hne i hi
  · rcases setF_mem hs.nums hf he with rfl | ⟨he, _⟩
    · rcases List.mem_append.1 hp with hp | hp
      · exact hs.pages f hfm p hp
      · simp at hp; subst hp; exact hq
    · exact hs.pages e he p hp
  · show d.us + 1 = ((setF d.fs n _ q).map fun f => (f.ps.length : Int)).sum
    rw [setF_sum hs.nums hf, hu]
  · show d.us + 1 ≤ d.room; omega
  · show d.us + 1 ≤ max d.pk (d.us + 1) ∧ max d.pk (d.us + 1) ≤ d.room; omega
  · have := hs.pos.2.2.2; show 0 ≤ d.wr + 1; omega
end Go.Proofs.Ythimgldohhaimab
