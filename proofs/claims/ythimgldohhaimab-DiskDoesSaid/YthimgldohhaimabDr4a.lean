/-
  DiskDoes: behind the document's own Append: plain.
-/
import Derived.Test.YthimgldohhaimabDr3
namespace Go.Proofs.Ythimgldohhaimab
open Go.RowKit Go.Maps Go.Sort

theorem cellsF_set : ∀ (fs : List Fl) (n : Int) (k : Nat) (f : Fl) (v : Value) (q : List Int) (_ : (fs.map Fl.n).Nodup) (_ : fs[k]? = some f) (_ : f.n = n), (cellsF fs).set (k * 2 + 1) v = cellsF (setF fs n v q) ∧ (setF fs n v q).length = fs.length
  | [], _, k, f, _, _, _, h, _ => by simp at h
  | g :: fs, n, 0, f, v, q, hd, h, hn => by
    simp at h
    subst h
    rw [List.map_cons, List.nodup_cons] at hd
    have hr : setF fs n v q = fs := by
      unfold setF
      conv => rhs; rw [← List.map_id fs]
      apply List.map_congr_left
      intro e he
      rw [if_neg (fun h1 => hd.1 (by rw [hn, ← h1]; exact List.mem_map_of_mem he))]
      rfl
    have hs : setF (g :: fs) n v q = ⟨n, v, g.ps ++ [q]⟩ :: fs := by
      show (if g.n = n then _ else _) :: setF fs n v q = _
      rw [if_pos hn, hr]
    rw [hs, cellsF_cons, cellsF_cons]
    exact ⟨by simp [hn], by simp⟩
  | g :: fs, n, k + 1, f, v, q, hd, h, hn => by
    rw [List.map_cons, List.nodup_cons] at hd
    have hgn : g.n ≠ n := fun e => hd.1 (by rw [e, ← hn]; exact List.mem_map_of_mem (List.mem_of_getElem? (by simpa using h)))
    have hs : setF (g :: fs) n v q = g :: setF fs n v q := by
      show (if g.n = n then _ else _) :: setF fs n v q = _
      rw [if_neg hgn]
    obtain ⟨i1, i2⟩ := cellsF_set fs n k f v q hd.2 (by simpa using h) hn
    rw [hs, cellsF_cons, cellsF_cons, ← i1, show (k + 1) * 2 + 1 = k * 2 + 1 + 1 + 1 by omega]
    exact ⟨rfl, by simp [i2]⟩
/-- A cell of a list of the call's own has been written. -/
theorem ownsRow_set {w : World} {B g n cap size i : Nat} {e : TypeId} {xs : List Value} {u : Value} (h : w.ownsRow B e size (.slice (some ⟨g, 0, none⟩) n cap) n xs) : (w.setCell ⟨g, i, none⟩ u).ownsRow B e size (.slice (some ⟨g, 0, none⟩) n cap) n (xs.set i u) := by
  have hl := h.1
  refine ⟨by rw [List.length_set]; exact hl, ?_⟩
  rcases h.2 with ⟨h1, _⟩ | ⟨g', cp, cur, h1, h2, h3, h4, h5, h6, h7⟩
  · cases h1
  · simp only [Value.slice.injEq, Option.some.injEq, Addr.mk.injEq] at h1
    obtain ⟨⟨rfl, _⟩, _, rfl⟩ := h1
    refine .inr ⟨g, cap, cur.setIfInBounds i u, rfl, h2, ?_, h4, h5, by simp [h6], ?_⟩
    · simp [World.setCell, Array.getElem?_modify, h3]
    · rw [← h7, Array.toList_setIfInBounds, List.take_set]
theorem setF_mem2 {fs : List Fl} {n : Int} {v : Value} {q : List Int} {f : Fl} (hd : (fs.map Fl.n).Nodup) (hf : flOf fs n = some f) {e : Fl} (he : e ∈ setF fs n v q) : (e = ⟨n, v, f.ps ++ [q]⟩) ∨ (e ∈ fs ∧ e.n ≠ n) := setF_mem hd hf he
section
variable {B : Nat} {w : World} {x : Nat} {vF vL : Value} {X : Xd}
theorem rapp_fin {w2 w3 w5 : World} {n : Int} {q : List Int} {k gL N cL Np cp g1 cap1 g5 cap5 : Nat} {Ap : Option Addr} {f : Fl} {pvs : List Value}
    (h : XdAt B w2 x vF vL X) (hvL : vL = .slice (some ⟨gL, 0, none⟩) N cL) (hfv : f.v = .slice Ap Np cp) (hN : N = X.fs.length) (hNp : Np = f.ps.length) (hpo : w2.ownsRow B 31 1 f.v f.ps.length pvs) (hpb : ∀ (i : Nat) (pv : Value) (p : List Int), pvs[i]? = some pv → f.ps[i]? = some p → w2.ownsRow B 5 1 pv p.length (p.map (Value.int .u8)))
    (hf : X.fs[k]? = some f) (hfn : f.n = n) (hfl : flOf X.fs n = some f) (hq : 256 = q.length) (hNl : Np + 1 ≤ 16384)
    (hb3 : Below w2.heap.size w2 w3) (hown3 : w3.ownsRow w2.heap.size 5 1 (.slice (some ⟨g1, 0, none⟩) 256 cap1) 256 (q.map (Value.int .u8)))
    (hown5 : w5.ownsRow B 31 1 (.slice (some ⟨g5, 0, none⟩) (Np + 1) cap5) (Np + 1) (pvs ++ [.slice (some ⟨g1, 0, none⟩) 256 cap1])) (hg5 : (w3.alloc (.cells #[.slice (some ⟨g1, 0, none⟩) 256 cap1] 31)).grownBy w5 (Value.slice Ap Np cp).ownBlock) (hgg5 : (Value.slice Ap Np cp).ownBlock = some g5 ∨ g5 = (w3.alloc (.cells #[.slice (some ⟨g1, 0, none⟩) 256 cap1] 31)).heap.size) :
    XdAt B (w5.setCell ⟨gL, k * 2 + 1, none⟩ (.slice (some ⟨g5, 0, none⟩) (Np + 1) cap5)) x vF vL { X with fs := setF X.fs n (.slice (some ⟨g5, 0, none⟩) (Np + 1) cap5) q } ∧ Xg B w2 (w5.setCell ⟨gL, k * 2 + 1, none⟩ (.slice (some ⟨g5, 0, none⟩) (Np + 1) cap5)) := by
  obtain ⟨v, hv⟩ : ∃ v, v = Value.slice (some ⟨g5, 0, none⟩) (Np + 1) cap5 := ⟨_, rfl⟩
  rw [← hv] at hown5 ⊢
  have hnd : (X.fs.map Fl.n).Nodup := List.Pairwise.imp (fun h e => by omega) h.nums
  have hfm := List.mem_of_getElem? hf
  have hb4 : Below w2.heap.size w2 (w3.alloc (.cells #[.slice (some ⟨g1, 0, none⟩) 256 cap1] 31)) := hb3.trans ((ba w3 _).mono hb3.size)
  rw [← hfv] at hg5 hgg5
  -- old blocks but the file's own
  have old : ∀ i, i < w2.heap.size → f.v.ownBlock ≠ some i → w5.heap[i]? = w2.heap[i]? := fun i hi hne => (hg5.block i (Nat.lt_of_lt_of_le hi hb4.size) (fun e => hne e.symm)).trans (hb4.block i hi)
  have hxo : f.v.ownBlock ≠ some x := fun e => h.own_ne hpo (by decide) e rfl
  have hLo := h.ofs
  have hLo2 := hLo
  rw [hvL, ← hN] at hLo2
  have hLn : f.v.ownBlock ≠ some gL := fun e => by
    obtain ⟨cs, hcs⟩ := own_cells hpo e
    obtain ⟨cs', hcs'⟩ := own_cells hLo2 rfl
    rw [hcs] at hcs'
    simp only [Option.some.injEq, Obj.cells.injEq] at hcs'
    exact absurd hcs'.2.1 (by decide)
  have hgl := (hLo2.lt gL rfl).2
  have hset : ∀ i, i ≠ gL → (w5.setCell ⟨gL, k * 2 + 1, none⟩ v).heap[i]? = w5.heap[i]? := fun i hi => set_others w5 gL _ v i hi
  have hxg : x ≠ gL := fun e => h.own_ne hLo2 (by decide) rfl e.symm
  obtain ⟨c1, c2⟩ := cellsF_set X.fs n k f v q hnd hf hfn
  have hL5 : w5.ownsRow B 60 2 (.slice (some ⟨gL, 0, none⟩) N cL) N (cellsF X.fs) := ownsRow_same hLo2 fun i hi => old i (hLo2.lt i hi).2 (by simp [Value.ownBlock] at hi; subst hi; exact hLn)
  have hL6 := ownsRow_set (u := v) hL5 (i := k * 2 + 1)
  have uint : ∀ (i : Nat) (cs : Array Value), w5.heap[i]? = some (Obj.cells cs 5 (0, 0)) → (w5.setCell ⟨gL, k * 2 + 1, none⟩ v).heap[i]? = w5.heap[i]? := fun i cs hi => hset i (fun e => by
    obtain ⟨cs', hcs'⟩ := own_cells hL5 rfl
    rw [e, hcs'] at hi
    simp only [Option.some.injEq, Obj.cells.injEq] at hi
    exact absurd hi.2.1 (by decide))
  have bytesOld : ∀ (pv : Value) (p : List Int), w2.ownsRow B 5 1 pv p.length (p.map (Value.int .u8)) → (w5.setCell ⟨gL, k * 2 + 1, none⟩ v).ownsRow B 5 1 pv p.length (p.map (Value.int .u8)) := fun pv p ho => ownsRow_same ho fun i hi => by
    obtain ⟨cs, hcs⟩ := own_cells ho hi
    have h1 : w5.heap[i]? = w2.heap[i]? := old i (ho.lt i hi).2 (fun e => by
      obtain ⟨cs', hcs'⟩ := own_cells hpo e
      rw [hcs] at hcs'
      simp only [Option.some.injEq, Obj.cells.injEq] at hcs'
      exact absurd hcs'.2.1 (by decide))
    exact (uint i cs (h1.trans hcs)).trans h1
  have hv5 : (w5.setCell ⟨gL, k * 2 + 1, none⟩ v).ownsRow B 31 1 v (f.ps.length + 1) (pvs ++ [.slice (some ⟨g1, 0, none⟩) 256 cap1]) := by
    rw [← hNp]
    refine ownsRow_same hown5 fun i hi => hset i (fun e => ?_)
    obtain ⟨cs, hcs⟩ := own_cells hown5 hi
    obtain ⟨cs', hcs'⟩ := own_cells hL5 rfl
    rw [e, hcs'] at hcs
    simp only [Option.some.injEq, Obj.cells.injEq] at hcs
    exact absurd hcs.2.1 (by decide)
  have hnew : (w5.setCell ⟨gL, k * 2 + 1, none⟩ v).ownsRow B 5 1 (.slice (some ⟨g1, 0, none⟩) 256 cap1) q.length (q.map (Value.int .u8)) := by
    rw [← hq]
    have hB := h.lt
    obtain ⟨cs, hcs⟩ := own_cells hown3 rfl
    have hlt := (hown3.lt g1 rfl)
    have h4 : w5.heap[g1]? = w3.heap[g1]? := (hg5.block g1 (by simp; omega) (fun e => by have := (hpo.lt g1 e.symm).2; omega)).trans ((ba w3 _).block g1 hlt.2)
    have h5 := ownsRow_same hown3 (w' := w5.setCell ⟨gL, k * 2 + 1, none⟩ v) fun i hi => by
      simp [Value.ownBlock] at hi; subst hi
      exact (uint g1 cs (h4.trans hcs)).trans h4
    refine ⟨h5.1, ?_⟩
    rcases h5.2 with h6 | ⟨g', cp', cur, h6, h7, h8⟩
    · exact .inl h6
    · exact .inr ⟨g', cp', cur, h6, by omega, h8⟩
  have hpl : pvs.length = f.ps.length := by have := hpo.1; omega
  have hvb : ∀ i, v.ownBlock = some i → f.v.ownBlock = some i ∨ w2.heap.size ≤ i := fun i hi => by
    rw [hv] at hi
    simp [Value.ownBlock] at hi
    subst hi
    rcases hgg5 with h1 | h1
    · exact .inl h1
    · exact .inr (by have := hb4.size; omega)
  refine ⟨⟨?_, ?_, ?_, ?_, ?_, ?_, ?_, ?_, h.pos, h.lo⟩, ?_⟩
  · exact (hset x hxg).trans ((old x (block_ltD h.box) hxo).trans h.box)
  · refine ownsRow_same h.ofa fun i hi => ?_
    obtain ⟨cs, hcs⟩ := own_cells h.ofa hi
    refine (hset i (fun e => ?_)).trans (old i (h.ofa.lt i hi).2 (fun e => ?_))
    · obtain ⟨cs', hcs'⟩ := own_cells hLo2 rfl
      rw [e, hcs'] at hcs
      simp only [Option.some.injEq, Obj.cells.injEq] at hcs
      exact absurd hcs.2.1 (by decide)
    · obtain ⟨cs', hcs'⟩ := own_cells hpo e
      rw [hcs'] at hcs
      simp only [Option.some.injEq, Obj.cells.injEq] at hcs
      exact absurd hcs.2.1 (by decide)
  · show (w5.setCell ⟨gL, k * 2 + 1, none⟩ v).ownsRow B 60 2 vL (setF X.fs n v q).length (cellsF (setF X.fs n v q))
    rw [c2, ← c1, hvL, ← hN]
    exact hL6
  · intro e he
    rcases setF_mem2 hnd hfl he with rfl | ⟨h1, h2⟩
    · refine ⟨_, by simpa using hv5, fun i pv p hpv hp => ?_⟩
      rcases Nat.lt_or_ge i f.ps.length with hlt | hge
      · rw [List.getElem?_append_left (by omega)] at hpv
        rw [List.getElem?_append_left hlt] at hp
        exact bytesOld pv p (hpb i pv p hpv hp)
      · rw [List.getElem?_append_right (by omega)] at hpv
        rw [List.getElem?_append_right hge] at hp
        have hi0 : i - f.ps.length = 0 := by
          rcases Nat.eq_zero_or_pos (i - f.ps.length) with h0 | h0
          · exact h0
          · rw [List.getElem?_eq_none (by simp; omega)] at hp; cases hp
        rw [hpl, hi0] at hpv
        rw [hi0] at hp
        simp at hpv hp
        subst hpv hp
        exact hnew
    · obtain ⟨pvs', o1, o2⟩ := h.pgs e h1
      refine ⟨pvs', ownsRow_same o1 fun i hi => ?_, fun i pv p hpv hp => bytesOld pv p (o2 i pv p hpv hp)⟩
      refine (hset i (fun e1 => ?_)).trans (old i (o1.lt i hi).2 (fun e1 => h.apart f hfm e h1 (by rw [hfn]; exact fun h3 => h2 h3.symm) i e1 hi))
      obtain ⟨cs, hcs⟩ := own_cells o1 hi
      obtain ⟨cs', hcs'⟩ := own_cells hLo2 rfl
      rw [e1, hcs'] at hcs
      simp only [Option.some.injEq, Obj.cells.injEq] at hcs
      exact absurd hcs.2.1 (by decide)
  · intro e he e2 he2 hne i hi hi2
    rcases setF_mem2 hnd hfl he with rfl | ⟨h1, h2⟩
    · rcases setF_mem2 hnd hfl he2 with rfl | ⟨h3, h4⟩
      · exact hne rfl
      · obtain ⟨pvs', o1, _⟩ := h.pgs e2 h3
        rcases hvb i hi with h5 | h5
        · exact h.apart f hfm e2 h3 (by rw [hfn]; exact fun h6 => h4 h6.symm) i h5 hi2
        · have := (o1.lt i hi2).2; omega
    · rcases setF_mem2 hnd hfl he2 with rfl | ⟨h3, h4⟩
      · obtain ⟨pvs', o1, _⟩ := h.pgs e h1
        rcases hvb i hi2 with h5 | h5
        · exact h.apart e h1 f hfm (by rw [hfn]; exact h2) i hi h5
        · have := (o1.lt i hi).2; omega
      · exact h.apart e h1 e2 h3 hne i hi hi2
  · show ((setF X.fs n v q).map Fl.n).Pairwise (· < ·)
    rw [setF_num]; exact h.nums
  · intro e he
    rcases setF_mem2 hnd hfl he with rfl | ⟨h1, _⟩
    · have := h.num f hfm; rw [hfn] at this; exact this
    · exact h.num e h1
  · refine ⟨by show (setF X.fs n v q).length ≤ 32768; rw [c2]; exact h.len.1, h.len.2.1, fun e he => ?_⟩
    rcases setF_mem2 hnd hfl he with rfl | ⟨h1, _⟩
    · refine ⟨by simp; omega, fun p hp => ?_⟩
      rcases List.mem_append.1 hp with h2 | h2
      · exact (h.len.2.2 f hfm).2 p h2
      · simp at h2; subst h2; exact hq.symm
    · exact h.len.2.2 e h1
  · have hB := h.lt
    have g1 : Xg B w2 w5 := by
      refine (Xg.of_below hB hb4).trans (Xg.grown (by have := hb4.size; omega) hg5 fun i hi => ?_)
      obtain ⟨cs, hcs⟩ := own_cells hpo hi
      exact ⟨(hpo.lt i hi).1, _, (hb4.block i (hpo.lt i hi).2).trans hcs, by simp [ofX]⟩
    obtain ⟨cs', hcs'⟩ := own_cells hL5 rfl
    exact g1.trans (Xg.set (hLo2.lt gL rfl).1 ⟨_, hcs', by simp [ofX]⟩)
end
end Go.Proofs.Ythimgldohhaimab
