/-
  DiskDoes: the document's own Create.
-/
import Derived.Test.YthimgldohhaimabDr2
import Derived.Deep.RegionLaw
namespace Go.Proofs.Ythimgldohhaimab
open Go.RowKit Go.Maps Go.Sort

theorem info_file : (Try.prog.info? 60).map (fun i => (i.zero, i.size, i.bytes)) = some (some (.agg #[.int .i64 0, .slice none 0 0]), 2, 32) := by kernel_rfl
def Xd.newF (X : Xd) : Fl := ⟨X.made + 1, .slice none 0 0, []⟩
def Xd.add (X : Xd) : Xd := { X with fs := X.fs ++ [X.newF], made := X.made + 1 }
section
variable {B : Nat} {w : World} {x : Nat} {vF vL : Value} {X : Xd}
/-- The list of files is another one now. -/
theorem XdAt.relist {w' : World} {vL' : Value} {fs' : List Fl} {m us : Int} (h : XdAt B w x vF vL X) (hbox : w'.heap[x]? = some (.cells (Xd.box { X with fs := fs', made := m, us := us } vF vL') 57 (0, 0))) (ho : w'.ownsRow B 60 2 vL' fs'.length (cellsF fs')) (hk : ∀ (k : Nat) (cs : Array Value) (t : TypeId), w.heap[k]? = some (Obj.cells cs t (0, 0)) → t = 3 ∨ t = 31 ∨ t = 5 → w'.heap[k]? = w.heap[k]?)
    (hp : ∀ f ∈ fs', f ∈ X.fs ∨ (f.v = .slice none 0 0 ∧ f.ps = [])) (hn : (fs'.map Fl.n).Pairwise (· < ·)) (hm : ∀ f ∈ fs', 1 ≤ f.n ∧ f.n ≤ m) (hl : fs'.length ≤ 32768) (hm0 : 0 ≤ m) : XdAt B w' x vF vL' { X with fs := fs', made := m, us := us } := by
  refine ⟨hbox, ownsRow_same h.ofa fun k hk1 => ?_, ho, fun f hf => ?_, fun f hf g hg hne k hk1 hk2 => ?_, hn, hm, ⟨hl, h.len.2.1, fun f hf => ?_⟩, ⟨hm0, h.pos.2⟩, h.lo⟩
  · obtain ⟨cs, hcs⟩ := own_cells h.ofa hk1
    exact hk k cs _ hcs (.inl rfl)
  · rcases hp f hf with h1 | ⟨h1, h2⟩
    · refine (h.pgs f h1).same (fun k hk1 => ?_) (fun k cs hcs => hk k cs _ hcs (.inr (.inr rfl)))
      obtain ⟨pvs, h2, _⟩ := h.pgs f h1
      obtain ⟨cs, hcs⟩ := own_cells h2 hk1
      exact hk k cs _ hcs (.inr (.inl rfl))
    · rw [h1, h2]
      exact ⟨[], World.ownsRow_nil _ _ _ _, fun i pv p hpv => by cases hpv⟩
  · rcases hp f hf with h1 | ⟨h1, _⟩
    · rcases hp g hg with h2 | ⟨h2, _⟩
      · exact h.apart f h1 g h2 hne k hk1 hk2
      · rw [h2] at hk2; cases hk2
    · rw [h1] at hk1; cases hk1
  · rcases hp f hf with h1 | ⟨_, h2⟩
    · exact h.len.2.2 f h1
    · rw [h2]; exact ⟨Nat.zero_le _, fun p hp => by cases hp⟩
/-- Behind append and store the box, and what is none of the files' lists, are as they were. -/
theorem XdAt.stored {w3 : World} {g n cap : Nat} {xs : List Value} (h : XdAt B w x vF vL X) (hg : w.grownBy w3 vL.ownBlock) (ho : w3.ownsRow B 60 2 (.slice (some ⟨g, 0, none⟩) n cap) n xs) :
    (w3.setCell ⟨x, 2, none⟩ (.slice (some ⟨g, 0, none⟩) n cap)).heap[x]? = some (.cells (X.box vF (.slice (some ⟨g, 0, none⟩) n cap)) 57 (0, 0)) ∧
    (w3.setCell ⟨x, 2, none⟩ (.slice (some ⟨g, 0, none⟩) n cap)).ownsRow B 60 2 (.slice (some ⟨g, 0, none⟩) n cap) n xs ∧
    (∀ (k : Nat) (cs : Array Value) (t : TypeId), w.heap[k]? = some (Obj.cells cs t (0, 0)) → t = 3 ∨ t = 31 ∨ t = 5 → (w3.setCell ⟨x, 2, none⟩ (.slice (some ⟨g, 0, none⟩) n cap)).heap[k]? = w.heap[k]?) ∧
    Xg B w (w3.setCell ⟨x, 2, none⟩ (.slice (some ⟨g, 0, none⟩) n cap)) := by
  have hbx : w3.heap[x]? = some (.cells (X.box vF vL) 57 (0, 0)) := (hg.block x (block_ltD h.box) (fun e => h.own_ne h.ofs (by decide) e.symm rfl)).trans h.box
  have hset : ∀ k, k ≠ x → (w3.setCell ⟨x, 2, none⟩ (.slice (some ⟨g, 0, none⟩) n cap)).heap[k]? = w3.heap[k]? := fun k hk => set_others w3 x 2 _ k hk
  have hgx : g ≠ x := fun e => by
    obtain ⟨cs, hcs⟩ := own_cells ho (k := g) rfl
    rw [e, hbx] at hcs
    simp only [Option.some.injEq, Obj.cells.injEq] at hcs
    exact absurd hcs.2.1 (by decide)
  refine ⟨?_, ownsRow_same ho fun k hk => hset k (by simp [Value.ownBlock] at hk; subst hk; exact hgx), fun k cs t hk ht => ?_, ?_⟩
  · simp only [World.setCell, Array.getElem?_modify, hbx]
    rfl
  · have hkx : k ≠ x := fun e => by
      rw [e, h.box] at hk
      simp only [Option.some.injEq, Obj.cells.injEq] at hk
      rcases ht with h1 | h1 | h1 <;> (rw [h1] at hk; exact absurd hk.2.1 (by decide))
    refine (hset k hkx).trans (hg.block k (block_ltD hk) (fun e => ?_))
    obtain ⟨cs', hcs⟩ := own_cells h.ofs e.symm
    rw [hk] at hcs
    simp only [Option.some.injEq, Obj.cells.injEq] at hcs
    rcases ht with h1 | h1 | h1 <;> (rw [h1] at hcs; exact absurd hcs.2.1 (by decide))
  · refine (Xg.grown h.lt hg fun k hk => ?_).trans (Xg.set h.lo ⟨_, hbx, by simp [ofX]⟩)
    obtain ⟨cs, hcs⟩ := own_cells h.ofs hk
    exact ⟨(h.ofs.lt k hk).1, _, hcs, by simp [ofX]⟩
theorem rcreate_fin {V w3 : World} {D : Int} {N g cap : Nat} (h : XdAt B V x vF vL { X with made := D + 1 }) (hD : D = X.made) (hp : 0 ≤ D) (hN : N = X.fs.length) (hNl : N + 1 ≤ 32768) (hw : Xg B w V) (hnum : ∀ f ∈ X.fs, 1 ≤ f.n ∧ f.n ≤ X.made)
    (ho : w3.ownsRow B 60 2 (.slice (some ⟨g, 0, none⟩) (N + 1) cap) (N + 1) (cellsF X.fs ++ [.int .i64 (D + 1), .slice none 0 0])) (hg : V.grownBy w3 vL.ownBlock) :
    XdAt B (w3.setCell ⟨x, 2, none⟩ (.slice (some ⟨g, 0, none⟩) (N + 1) cap)) x vF (.slice (some ⟨g, 0, none⟩) (N + 1) cap) X.add ∧ Xg B w (w3.setCell ⟨x, 2, none⟩ (.slice (some ⟨g, 0, none⟩) (N + 1) cap)) := by
  obtain ⟨s1, s2, s3, s4⟩ := h.stored hg ho
  have hl : (X.fs ++ [X.newF]).length = N + 1 := by simp [hN]
  have hc : cellsF (X.fs ++ [X.newF]) = cellsF X.fs ++ [.int .i64 (D + 1), .slice none 0 0] := by rw [cellsF_app, hD]; rfl
  refine ⟨?_, hw.trans s4⟩
  have := h.relist (fs' := X.fs ++ [X.newF]) (m := D + 1) (us := X.us) (vL' := .slice (some ⟨g, 0, none⟩) (N + 1) cap) s1 (by rw [hl, hc]; exact s2) s3 (fun f hf => ?_) ?_ (fun f hf => ?_) (by rw [hl]; exact hNl) (by omega)
  · unfold Xd.add
    rw [← hD]
    exact this
  · rcases List.mem_append.1 hf with h1 | h1
    · exact .inl h1
    · simp at h1; subst h1; exact .inr ⟨rfl, rfl⟩
  · rw [List.map_append, List.pairwise_append]
    refine ⟨h.nums, by simp, fun a ha b hb => ?_⟩
    obtain ⟨f, hf, rfl⟩ := List.mem_map.1 ha
    simp [Xd.newF] at hb
    subst hb
    have := (hnum f hf).2
    omega
  · rcases List.mem_append.1 hf with h1 | h1
    · have := hnum f h1; omega
    · simp at h1; subst h1; simp only [Xd.newF]; omega
def RCreateEnd (B : Nat) (w : World) (x : Nat) (vF : Value) (X : Xd) (e : Ending) (w' : World) : Prop :=
  if 32768 ≤ X.fs.length then e = .returned (.tuple #[.int .i64 0, .int .i64 2]) ∧ w' = w
  else e = .returned (.tuple #[.int .i64 (X.made + 1), .int .i64 0]) ∧ (∃ vL', XdAt B w' x vF vL' X.add) ∧ Xg B w w'
set_option maxRecDepth 100000 in
set_option maxHeartbeats 4000000 in
theorem rcreate_any (h : XdAt B w x vF vL X) (hd : X.made < 1000000000000) :
    Calls Try.prog 18 #[.pointer (some ⟨x, 0, none⟩)] w (RCreateEnd B w x vF X) := by
  obtain ⟨A, c, hvL⟩ := own_sliceD h.ofs
  have c2 := h.c2
  rw [hvL] at c2
  obtain ⟨N, hN⟩ : ∃ N, N = X.fs.length := ⟨_, rfl⟩
  have hNl : N ≤ 32768 := by rw [hN]; exact h.len.1
  rw [← hN] at c2 hvL
  have HN := Lib.hid hN
  by_cases hfull : 32768 ≤ N
  · have hfi : (32768 : Int) ≤ (N : Int) := by omega
    have HF := Lib.hid hfull
    clear h hN hvL hfull hNl
    go_enter Try.func18, Try.ntmps18
    go_wp2_with fail
    go_ret2
    unfold RCreateEnd
    rw [if_pos (by rw [← HN.out]; exact HF.out)]
    exact ⟨rfl, rfl⟩
  · have hfb : decide ((32768 : Int) ≤ (N : Int)) = false := decide_eq_false (by omega)
    have c3 := h.c3
    have f3 := h.fz 3
    have hset := h.set (X' := { X with made := X.made + 1 }) (i := 3) (n := X.made + 1) (by rfl) rfl rfl (by show X.made ≤ X.made + 1; omega) ⟨by have := h.pos.1; show 0 ≤ X.made + 1; omega, h.pos.2⟩
    have HS := Lib.hid hset
    have hp := h.pos.1
    obtain ⟨D, hD⟩ : ∃ D, D = X.made := ⟨_, rfl⟩
    rw [← hD] at c3 hd hp
    have HD := Lib.hid hD
    have HF := Lib.hid hfull
    have HV := Lib.hid hvL
    have HH := Lib.hid h
    have HNl := Lib.hid hNl
    clear h hset hD hN hvL hfull hNl
    go_enter Try.func18, Try.ntmps18
    go_upto_region 4 with fail
    rw [← HD.out] at HS
    generalize w.setCell ⟨x, 3, none⟩ (.int .i64 (D + 1)) = W at HS ⊢
    clear c2 c3 f3
    have HX := Lib.hid (HS.out.1.kept (Below.drew (Below.refl _ _)))
    have HG := Lib.hid (HS.out.2.trans (Xg.of_below HS.out.1.lt (Below.drew (Below.refl _ _))))
    have c2 := HX.out.c2
    have c3 := HX.out.c3
    simp only at c3
    rw [HV.out] at c2
    obtain ⟨V, hV⟩ : ∃ V, V = (W.alloc (.cells #[.int .i64 (D + 1), .slice none 0 0] 60)).drew := ⟨_, rfl⟩
    have hba : Below W.heap.size W V := by rw [hV]; exact Below.drew (ba W _)
    have HXa := Lib.hid (HS.out.1.kept hba)
    have HGa := Lib.hid (HS.out.2.trans (Xg.of_below HS.out.1.lt hba))
    have hnb : V.heap[W.heap.size]? = some (.cells #[.int .i64 (D + 1), .slice none 0 0] 60 (0, 0)) := by rw [hV]; exact (MapKept.heap_alloc W _).1
    have HNew := Lib.hid (show ∀ (j : Nat) (u : Value), [Value.int .i64 (D + 1), Value.slice none 0 0][j]? = some u → V.cell? ((⟨W.heap.size, 0, none⟩ : Addr).add j) = some u from fun j u hu => by
      match j, hu with
      | 0, hu => simp at hu; subst hu; simp [World.cell?, Addr.add, hnb]
      | 1, hu => simp at hu; subst hu; simp [World.cell?, Addr.add, hnb])
    have a2 := HXa.out.c2
    rw [HV.out, hV] at a2
    obtain ⟨i0, hi, hz0, hz1, hz2⟩ := info_parts info_file
    have HO := Lib.hid (show V.ownsRow B 60 2 (.slice A N c) N (cellsF X.fs) by have := HXa.out.ofs; rw [HV.out] at this; rw [HN.out] at this ⊢; exact this)
    have HLt := Lib.hid (And.intro HXa.out.lt (show N + 1 ≤ 140000 by have := HNl.out; omega))
    have HVx := Lib.hid hV
    have HOne := Lib.hid (show ∀ u ∈ [Value.int .i64 (D + 1), Value.slice none 0 0], u.oneCell' = true from fun u hu => by
      rcases List.mem_cons.1 hu with rfl | hu
      · rfl
      · simp at hu; subst hu; rfl)
    have hbox := HXa.out.box
    have HFz := Lib.hid (show ∀ w3, (W.alloc (.cells #[.int .i64 (D + 1), .slice none 0 0] 60)).drew.grownBy w3 (Value.slice A N c).ownBlock → w3.heap[x]? = some (.cells (Xd.box { X with made := D + 1 } vF vL) 57 (0, 0)) from fun w3 hg => by
      rw [← hV] at hg
      refine (hg.block x (block_ltD hbox) (fun e => ?_)).trans hbox
      exact HXa.out.own_ne HO.out (by decide) e.symm rfl)
    clear hba hnb hbox
    rw [hV] at HNew HO HLt
    clear hV
    go_region_law (first
      | (refine step_append_lies _ (by rfl) (.tmp 21) (.tmp 27) 55 (by rfl) B 60 i0 (.agg #[.int .i64 0, .slice none 0 0]) 2 32 Try.underlying55 hi hz0 hz1 hz2 (by rfl) (by decide) _ _ _ (by rfl) HO.out ⟨W.heap.size, 0, none⟩ 1 1 [.int .i64 (D + 1), .slice none 0 0] (by rfl) (by rfl) HNew.out HOne.out (by decide) (by have := HLt.out.2; unfold maxLen; omega) (by have := HLt.out.2; omega) HLt.out.1 _ (by rfl) ?_; intro g cap w3 hown3 hg3 hgg hg3s; have hb3 := HFz.out w3 hg3; have f3 : w3.frozen? ⟨x, 2, none⟩ = false := (by simp [World.frozen?, hb3]); have e3 : w3.cell? ⟨x, 2, none⟩ = some vL := (by simp [World.cell?, hb3, Xd.box])))
    all_goals
      have hfin := rcreate_fin HXa.out HD.out hp HN.out (by have := HF.out; omega) HGa.out HH.out.num hown3 (by rw [HVx.out, HV.out]; exact hg3)
      have HFin := Lib.hid hfin
      clear hfin hown3 hg3 hgg hb3 f3 e3 c2 c3 a2 hg3s
      generalize w3.setCell ⟨x, 2, none⟩ (.slice (some ⟨g, 0, none⟩) (N + 1) cap) = w5 at HFin ⊢
      have x3 := HFin.out.1.c3
      simp only [Xd.add] at x3
      rw [← HD.out] at x3
      go_wp2_with fail
      go_ret2
      unfold RCreateEnd
      rw [if_neg (by rw [← HN.out]; exact HF.out), ← HD.out]
      exact ⟨rfl, ⟨_, HFin.out.1⟩, HFin.out.2⟩
end
end Go.Proofs.Ythimgldohhaimab
