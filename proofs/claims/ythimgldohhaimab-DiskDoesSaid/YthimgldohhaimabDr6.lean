/-
  DiskDoes: the document's own Delete.
-/
import Derived.Test.YthimgldohhaimabDr5
import Derived.Deep.RegionLaw
namespace Go.Proofs.Ythimgldohhaimab
open Go.RowKit Go.Maps Go.Sort

theorem step_append_ownX {P : Program} (w : World) {ops : Array Oper} {o : Oper} {a : Act} {K : Act → World → Prop} {Q : Exit → Act → World → Prop} {E : Prop} (hgd : o.guard = none) (s x : Operand) (t : TypeId)
    (ho : o.op = .call { callee := .builtin .append, args := #[s, x], argTypes := #[t, t] })
    (base : Nat) (e : TypeId) (i : TypeInfo) (z : Value) (size bytes : Nat) (ht : P.underlying t = some (.slice e)) (hi : P.info? e = some i) (hz : i.zero = some z)
    (hsize : i.size = size) (hby : i.bytes = bytes) (hzs : z.cells.size = size) (hsz : 0 < size)
    (v : Value) (n : Nat) (xs : List Value) (hs : a.eval s = v) (hown : w.ownsRow base e size v n xs)
    (ad : Addr) (m c : Nat) (news : List Value) (hx : a.eval x = .slice (some ad) m c) (hl : news.length = m * size) (hnews : ∀ j u, news[j]? = some u → w.cell? (ad.add j) = some u) (h1 : ∀ u ∈ news, u.oneCell' = true)
    (h63 : n + m ≤ maxLen) (hbytes : (n + m) * bytes ≤ 140737488355328) (hbase : base ≤ w.heap.size)
    (h : ∀ A cp w', w'.ownsRow base e size (.slice A (n + m) cp) (n + m) (xs ++ news) → w.grownBy w' v.ownBlock → K (a.put o.dst (.slice A (n + m) cp)) w') :
    if Region.wanted o (yielded ops a.tmps) = true then Oper.wp P o a w K Q else E := by
  have hw : Region.wanted o (yielded ops a.tmps) = true := by simp [Region.wanted, hgd]
  rw [if_pos hw]
  refine wp_append_own w s x t ho base e i z size bytes ht hi hz hsize hby hzs hsz v n xs hs hown ad m c news hx hl hnews h1 h63 hbytes hbase fun v' w' h2 h3 _ => ?_
  obtain ⟨A, cp, rfl⟩ := own_sliceD h2
  exact h A cp w' h2 h3
theorem info_fileD : (Try.prog.info? 60).map (fun i => (i.zero, i.size, i.bytes)) = some (some (.agg #[.int .i64 0, .slice none 0 0]), 2, 32) := by kernel_rfl
theorem cellsF_take (fs : List Fl) (k : Nat) : cellsF (fs.take k) = (cellsF fs).take (k * 2) := by
  induction fs generalizing k with
  | nil => simp [cellsF]
  | cons f fs ih =>
    cases k with
    | zero => simp [cellsF]
    | succ k => rw [List.take_succ_cons, cellsF_cons, ih, cellsF_cons, show (k + 1) * 2 = k * 2 + 1 + 1 by omega]; rfl
theorem cellsF_drop (fs : List Fl) (k : Nat) : cellsF (fs.drop k) = (cellsF fs).drop (k * 2) := by
  induction fs generalizing k with
  | nil => simp [cellsF]
  | cons f fs ih =>
    cases k with
    | zero => simp
    | succ k => rw [List.drop_succ_cons, ih, cellsF_cons, show (k + 1) * 2 = k * 2 + 1 + 1 by omega]; rfl
theorem cellsF_one (fs : List Fl) (hf : ∀ f ∈ fs, f.v.oneCell' = true) : ∀ u ∈ cellsF fs, u.oneCell' = true := fun u hu => by
  simp only [cellsF, List.mem_flatMap] at hu
  obtain ⟨f, h1, h2⟩ := hu
  simp at h2
  rcases h2 with rfl | rfl
  · rfl
  · exact hf f h1
/-- Without one file. -/
theorem filter_at : ∀ (fs : List Fl) (k : Nat) (f : Fl) (_ : (fs.map Fl.n).Nodup) (_ : fs[k]? = some f), fs.filter (fun g => g.n != f.n) = fs.take k ++ fs.drop (k + 1)
  | [], k, f, _, h => by simp at h
  | g :: fs, 0, f, hd, h => by
    simp at h
    subst h
    rw [List.map_cons, List.nodup_cons] at hd
    rw [List.filter_cons_of_neg (by simp)]
    simp only [List.take_zero, List.nil_append, Nat.zero_add, List.drop_succ_cons, List.drop_zero]
    exact List.filter_eq_self.2 (fun e he => by simp; intro e1; exact hd.1 (e1 ▸ List.mem_map_of_mem he))
  | g :: fs, k + 1, f, hd, h => by
    rw [List.map_cons, List.nodup_cons] at hd
    have hm : f ∈ fs := List.mem_of_getElem? (by simpa using h)
    have hne : g.n ≠ f.n := fun e => hd.1 (e ▸ List.mem_map_of_mem hm)
    rw [List.filter_cons_of_pos (by simpa using hne), filter_at fs k f hd.2 (by simpa using h)]
    rfl
section
variable {B : Nat} {w : World} {x : Nat} {vF vL : Value} {X : Xd}
theorem XdAt.stored2 {w3 : World} {v2 : Value} {n : Nat} {xs : List Value} (h : XdAt B w x vF vL X) (hb : Below w.heap.size w w3) (ho : w3.ownsRow w.heap.size 60 2 v2 n xs) :
    (w3.setCell ⟨x, 2, none⟩ v2).heap[x]? = some (.cells (X.box vF v2) 57 (0, 0)) ∧
    (w3.setCell ⟨x, 2, none⟩ v2).ownsRow B 60 2 v2 n xs ∧
    (∀ (k : Nat) (cs : Array Value) (t : TypeId), w.heap[k]? = some (Obj.cells cs t (0, 0)) → t = 3 ∨ t = 31 ∨ t = 5 → (w3.setCell ⟨x, 2, none⟩ v2).heap[k]? = w.heap[k]?) ∧
    Xg B w (w3.setCell ⟨x, 2, none⟩ v2) := by
  have hxl := block_ltD h.box
  have hbx : w3.heap[x]? = some (.cells (X.box vF vL) 57 (0, 0)) := (hb.block x hxl).trans h.box
  have hset : ∀ k, k ≠ x → (w3.setCell ⟨x, 2, none⟩ v2).heap[k]? = w3.heap[k]? := fun k hk => set_others w3 x 2 _ k hk
  have hB := h.lt
  have h3 := ownsRow_same ho (w' := w3.setCell ⟨x, 2, none⟩ v2) fun k hk => hset k (by have := (ho.lt k hk).1; omega)
  refine ⟨?_, ⟨h3.1, ?_⟩, fun k cs t hk ht => ?_, ?_⟩
  · simp only [World.setCell, Array.getElem?_modify, hbx]
    rfl
  · rcases h3.2 with h6 | ⟨g', cp', cur, h6, h7, h8⟩
    · exact .inl h6
    · exact .inr ⟨g', cp', cur, h6, by omega, h8⟩
  · have hkx : k ≠ x := fun e => by
      rw [e, h.box] at hk
      simp only [Option.some.injEq, Obj.cells.injEq] at hk
      rcases ht with h1 | h1 | h1 <;> (rw [h1] at hk; exact absurd hk.2.1 (by decide))
    exact (hset k hkx).trans (hb.block k (block_ltD hk))
  · exact (Xg.of_below hB hb).trans (Xg.set h.lo ⟨_, hbx, by simp [ofX]⟩)
def RDelEnd (B : Nat) (w : World) (x : Nat) (vF : Value) (X : Xd) (n : Int) (e : Ending) (w' : World) : Prop :=
  Xg B w w' ∧ ((flOf X.fs n = none ∧ e = .returned (.int .i64 4) ∧ ∃ vL', XdAt B w' x vF vL' X) ∨
    ∃ f, flOf X.fs n = some f ∧ e = .returned (.int .i64 0) ∧ ∃ vL', XdAt B w' x vF vL' { X with fs := X.fs.filter (fun g => g.n != f.n), us := X.us - f.ps.length })
theorem rdel_fin {w5 : World} {v2 : Value} {k n : Nat} {f : Fl} (h : XdAt B w x vF vL X) (hf : X.fs[k]? = some f) (hb : Below w.heap.size w w5) (hn : n = (X.fs.take k ++ X.fs.drop (k + 1)).length) (ho : w5.ownsRow w.heap.size 60 2 v2 n (cellsF (X.fs.take k) ++ cellsF (X.fs.drop (k + 1)))) :
    XdAt B (w5.setCell ⟨x, 2, none⟩ v2) x vF v2 { X with fs := X.fs.filter (fun g => g.n != f.n) } ∧ Xg B w (w5.setCell ⟨x, 2, none⟩ v2) := by
  have hnd : (X.fs.map Fl.n).Nodup := List.Pairwise.imp (fun h e => by omega) h.nums
  have hfl := filter_at X.fs k f hnd hf
  obtain ⟨s1, s2, s3, s4⟩ := h.stored2 hb ho
  refine ⟨?_, s4⟩
  have hsub : ∀ e ∈ X.fs.filter (fun g => g.n != f.n), e ∈ X.fs := fun e he => (List.mem_filter.1 he).1
  have := h.relist (fs' := X.fs.filter (fun g => g.n != f.n)) (m := X.made) (us := X.us) (vL' := v2) s1 (by rw [hfl, ← hn, cellsF_app]; exact s2) s3 (fun e he => .inl (hsub e he)) (h.nums.sublist (List.filter_sublist.map _)) (fun e he => h.num e (hsub e he)) (Nat.le_trans (List.length_filter_le _ _) h.len.1) h.pos.1
  exact this
set_option maxRecDepth 100000 in
set_option maxHeartbeats 8000000 in
theorem rdelete_any (h : XdAt B w x vF vL X) (n : Int) (hus : -100000 ≤ X.us ∧ X.us ≤ 100000) :
    Calls Try.prog 21 #[.pointer (some ⟨x, 0, none⟩), .int .i64 n] w (RDelEnd B w x vF X n) := by
  have HA := Lib.hid (at_any h n)
  have HX := Lib.hid h
  obtain ⟨I, hI⟩ : ∃ I, I = atX X.fs n := ⟨_, rfl⟩
  rw [← hI] at HA
  have HI := Lib.hid hI
  have HU := Lib.hid hus
  clear h hI hus
  go_enter Try.func21, Try.ntmps21
  go_wp2_with fail
  refine HA.out.mono ?_
  rintro e w1 ⟨rfl, rfl⟩
  by_cases hI0 : I < 0
  · go_wp2_with fail
    go_ret
    exact ⟨Xg.refl _ _, .inl ⟨atR_none.1 (by rw [← HI.out]; exact hI0), rfl, vL, HX.out⟩⟩
  · have hI0b : decide (I < 0) = false := decide_eq_false hI0
    obtain ⟨k, f, hk, hf, hfn⟩ := atR_some (fs := X.fs) (n := n) (by rw [← HI.out]; omega)
    have hIk : I = (k : Int) := by rw [HI.out, hk]
    subst hIk
    have HFl := Lib.hid (flR_at (List.Pairwise.imp (fun h e => by omega) HX.out.nums) hf hfn)
    have HF := Lib.hid hf
    obtain ⟨hfk, hfe⟩ := List.getElem?_eq_some_iff.1 hf
    have hxd := HX.out.kept (Below.refl w.heap.size w)
    obtain ⟨gL, cL, hvL, hcL, hz9, hgB, hcn, hcP⟩ := hxd.file hfk
    rw [hfe] at hcP
    obtain ⟨pvs, hpo, hpb⟩ := hxd.pgs f (List.mem_of_getElem? hf)
    obtain ⟨Ap, cp, hfv⟩ := own_sliceD hpo
    obtain ⟨N, hN⟩ : ∃ N, N = X.fs.length := ⟨_, rfl⟩
    obtain ⟨Np, hNp⟩ : ∃ Np, Np = f.ps.length := ⟨_, rfl⟩
    have hNp2 : Np ≤ 16384 := by have := (HX.out.len.2.2 f (List.mem_of_getElem? hf)).1; omega
    have hNl : N ≤ 32768 := by have := HX.out.len.1; omega
    rw [← hN] at hvL hcL
    rw [← hNp] at hfv
    have hkN : k < N := by rw [hN]; exact hfk
    have hkNi : (k : Int) < (N : Int) := by omega
    have hk0 : (0 : Int) ≤ (k : Int) := Int.natCast_nonneg _
    have c2 := hxd.c2
    have c7 := hxd.c7
    have f7 := hxd.fz 7
    have hset := hxd.set (X' := { X with us := X.us - f.ps.length }) (i := 7) (n := X.us - f.ps.length) (by rfl) rfl rfl (Int.le_refl _) ⟨HX.out.pos.1, HX.out.pos.2.1, HX.out.pos.2.2⟩
    have HS := Lib.hid hset
    rw [hvL] at c2
    rw [hfv] at hcP
    obtain ⟨D, hD⟩ : ∃ D, D = X.us := ⟨_, rfl⟩
    have hu0 := HU.out.1
    have hu1 := HU.out.2
    rw [← hD] at c7 hu0 hu1
    rw [← hNp, ← hD] at HS
    have HN := Lib.hid (And.intro hN (And.intro hNp hD))
    have HV := Lib.hid hvL
    have HCl := Lib.hid (And.intro hcL hz9)
    have HNl := Lib.hid hNl
    clear hz9 hcn hk hf hfn hfk hfe hgB hpo hpb hfv hvL hN hNp hxd hset hD hcL hNl HA HU
    go_wp2_with fail
    go_region
    generalize w.setCell ⟨x, 7, none⟩ (.int .i64 (D - ↑Np)) = W at HS ⊢
    clear hcP c2 f7 c7
    go_upto_region 5 with fail
    have hX := HS.out.1
    have hE : Below W.heap.size W (W.alloc (.cells #[] 60)).drew.drew := Below.drew (Below.drew (ba W _))
    have c2 := hX.c2
    rw [HV.out] at c2
    have hxl := block_ltD hX.box
    have hLo : W.ownsRow B 60 2 (.slice (some ⟨gL, 0, none⟩) N cL) N (cellsF X.fs) := by
      have := hX.ofs
      rw [HV.out] at this
      rw [HN.out.1] at this ⊢
      exact this
    have hgl := (hLo.lt gL rfl).2
    obtain ⟨gg, cc, hgv, _, _, _, hcells⟩ := own_cellN hLo (by omega)
    have hggl : gg = gL := by simp only [Value.slice.injEq, Option.some.injEq, Addr.mk.injEq] at hgv; exact hgv.1.1.symm
    subst hggl
    have HOld := Lib.hid (show ∀ W', Below W.heap.size W W' → W'.cell? ⟨x, 2, none⟩ = some (.slice (some ⟨gg, 0, none⟩) N cL) ∧ W'.frozen? ⟨x, 2, none⟩ = false ∧ (∀ (i : Nat) (u : Value), (cellsF X.fs)[i]? = some u → W'.cell? ⟨gg, i, none⟩ = some u) from fun W' hb =>
      ⟨(hb.cell (p := ⟨x, 2, none⟩) hxl).trans c2, (hb.frozen (p := ⟨x, 2, none⟩) hxl).trans (hX.fz 2), fun i u hu => (hb.cell (p := ⟨gg, i, none⟩) hgl).trans (hcells i u hu)⟩)
    have HT := Lib.hid (show ∀ W', Below W.heap.size W W' → ∀ (j : Nat) (u : Value), (cellsF (X.fs.take k))[j]? = some u → W'.cell? ((⟨gg, 0, none⟩ : Addr).add j) = some u from fun W' hb j u hu => by
      rw [show (⟨gg, 0, none⟩ : Addr).add j = ⟨gg, j, none⟩ by unfold Addr.add; split <;> simp_all]
      rw [cellsF_take] at hu
      have hjl := (List.getElem?_eq_some_iff.1 hu).1
      rw [List.length_take] at hjl
      rw [List.getElem?_take_of_lt (by omega)] at hu
      exact (HOld.out W' hb).2.2 j u hu)
    have HDr := Lib.hid (show ∀ W', Below W.heap.size W W' → ∀ (j : Nat) (u : Value), (cellsF (X.fs.drop (k + 1)))[j]? = some u → W'.cell? ((⟨gg, (k + 1) * 2, none⟩ : Addr).add j) = some u from fun W' hb j u hu => by
      rw [show (⟨gg, (k + 1) * 2, none⟩ : Addr).add j = ⟨gg, (k + 1) * 2 + j, none⟩ by unfold Addr.add; split <;> simp_all]
      rw [cellsF_drop, List.getElem?_drop] at hu
      exact (HOld.out W' hb).2.2 _ u hu)
    have hone : ∀ f' ∈ X.fs, f'.v.oneCell' = true := fun f' hf' => by
      obtain ⟨pv', o1, _⟩ := hX.pgs f' hf'
      obtain ⟨A', c', e'⟩ := own_sliceD o1
      rw [e']; rfl
    have HOne := Lib.hid (And.intro (cellsF_one (X.fs.take k) fun f' hf' => hone f' (List.mem_of_mem_take hf')) (cellsF_one (X.fs.drop (k + 1)) fun f' hf' => hone f' (List.mem_of_mem_drop hf')))
    have HLen := Lib.hid (show (cellsF (X.fs.take k)).length = k * 2 ∧ (cellsF (X.fs.drop (k + 1))).length = (N - (k + 1)) * 2 by
      rw [cellsF_len, cellsF_len, List.length_take, List.length_drop, ← HN.out.1]
      exact ⟨by congr 1; omega, rfl⟩)
    have d2 : W.drew.cell? ⟨x, 2, none⟩ = some (.slice (some ⟨gg, 0, none⟩) N cL) := c2
    have d22 : W.drew.drew.cell? ⟨x, 2, none⟩ = some (.slice (some ⟨gg, 0, none⟩) N cL) := c2
    have e2 := (HOld.out _ hE).1
    have HO0 := Lib.hid (show (W.alloc (.cells #[] 60)).drew.drew.ownsRow W.heap.size 60 2 (.slice (some ⟨W.heap.size, 0, none⟩) 0 0) 0 [] from ⟨rfl, .inr ⟨W.heap.size, 0, #[], rfl, Nat.le_refl _, (MapKept.heap_alloc W _).1, Nat.le_refl _, Nat.zero_le _, rfl, rfl⟩⟩)
    have HK3 := Lib.hid (show ∀ w3, (W.alloc (.cells #[] 60)).drew.drew.grownBy w3 (some W.heap.size) → Below W.heap.size W w3 from fun w3 hg => hE.trans ((Below.refl W.heap.size _).grown hg (by simp) (fun k hk => by cases hk; exact Nat.le_refl _)))
    have HTE := Lib.hid (HT.out _ hE)
    obtain ⟨i0, hi, hz0, hz1, hz2⟩ := info_parts info_fileD
    have hcl := HCl.out.1
    have hcm : cL ≤ 9223372036854775807 := by have := HCl.out.2; unfold maxLen at this; omega
    have hNl := HNl.out
    have hkc : k ≤ cL := by omega
    obtain ⟨T, hT⟩ : ∃ T, T = cellsF (X.fs.take k) := ⟨_, rfl⟩
    obtain ⟨Z, hZ⟩ : ∃ Z, Z = cellsF (X.fs.drop (k + 1)) := ⟨_, rfl⟩
    rw [← hT] at HTE HLen HOne
    rw [← hZ] at HDr HLen HOne
    have HTZ := Lib.hid (And.intro hT hZ)
    clear c2 hX hE hLo hcells hgv hone hT hZ HT
    have hwr : IntKind.i64.wrap ((k : Int) + 1) = (k : Int) + 1 := IntWalk.i64_in _ (by omega)
    have hk1i : (k : Int) ≤ (k : Int) + 1 := by omega
    have hk2i : (0 : Int) ≤ (k : Int) + 1 := by omega
    have hk3i : (k : Int) + 1 ≤ (N : Int) := by omega
    have hk4i : ((k : Int) + 1).toNat = k + 1 := by omega
    by_cases hc1 : cL = k + 1
    · have hNk : N = k + 1 := by omega
      subst hc1
      subst hNk
      have hZ0 : Z = [] := List.eq_nil_of_length_eq_zero (by have := HLen.out.2; simpa using this)
      subst hZ0
      go_region_law (first
        | (refine step_append_ownX _ (by rfl) (.tmp 31) (.tmp 37) 55 (by rfl) W.heap.size 60 i0 (.agg #[.int .i64 0, .slice none 0 0]) 2 32 Try.underlying55 hi hz0 hz1 hz2 (by rfl) (by decide) _ _ _ (by rfl) HO0.out ⟨gg, 0, none⟩ k (k + 1) T (by rfl) HLen.out.1 HTE.out HOne.out.1 (by unfold maxLen; omega) (by omega) (by simp) ?_; intro A3 cp3 w3 hown3 hg3; rw [Nat.zero_add, List.nil_append] at hown3; have hb3 := HK3.out w3 hg3; have k32 := (HOld.out w3 hb3).1; have HO3 := Lib.hid hown3; have HB3 := Lib.hid hb3)
        | (refine step_append_ownX _ (by rfl) (.tmp 38) (.tmp 45) 55 (by rfl) W.heap.size 60 i0 (.agg #[.int .i64 0, .slice none 0 0]) 2 32 Try.underlying55 hi hz0 hz1 hz2 (by rfl) (by decide) _ _ _ (by rfl) HO3.out _ 0 _ [] (by rfl) (by rfl) (fun j u hu => by cases hu) (fun u hu => by cases hu) (by unfold maxLen; omega) (by omega) HB3.out.size ?_; intro A5 cp5 w5 hown5 hg5; have hb5 := HB3.out.trans ((Below.refl W.heap.size w3).grown hg5 HB3.out.size (fun i hi => (HO3.out.lt i hi).1)); have k52 := (HOld.out w5 hb5).1; have f52 := (HOld.out w5 hb5).2.1; have HO5 := Lib.hid hown5; have HB5 := Lib.hid hb5; clear hown5 hg5 hb5))
      all_goals
        have hO := HO5.out
        rw [HTZ.out.1, HTZ.out.2] at hO
        obtain ⟨r1, r2⟩ := rdel_fin (X := { X with us := D - ↑Np }) (f := f) (k := k) HS.out.1 HF.out HB5.out (by simp only [List.length_append, List.length_take, List.length_drop]; have := HN.out.1; omega) hO
        rw [HN.out.2.1, HN.out.2.2] at r1
        clear hO
        have HR1 := Lib.hid r1
        have HR2 := Lib.hid (HS.out.2.trans r2)
        clear r1 r2 k52 f52
        generalize World.setCell _ _ _ = W9 at HR1 HR2 ⊢
        go_wp2_with fail
        go_ret
        exact ⟨HR2.out, .inr ⟨f, HFl.out, rfl, _, HR1.out⟩⟩
    · go_region_law (first
        | (refine step_append_ownX _ (by rfl) (.tmp 31) (.tmp 37) 55 (by rfl) W.heap.size 60 i0 (.agg #[.int .i64 0, .slice none 0 0]) 2 32 Try.underlying55 hi hz0 hz1 hz2 (by rfl) (by decide) _ _ _ (by rfl) HO0.out ⟨gg, 0, none⟩ k cL T (by rfl) HLen.out.1 HTE.out HOne.out.1 (by unfold maxLen; omega) (by omega) (by simp) ?_; intro A3 cp3 w3 hown3 hg3; rw [Nat.zero_add, List.nil_append] at hown3; have hb3 := HK3.out w3 hg3; have k32 := (HOld.out w3 hb3).1; have HO3 := Lib.hid hown3; have HB3 := Lib.hid hb3; have HD3 := Lib.hid (HDr.out w3 hb3))
        | (refine step_append_ownX _ (by rfl) (.tmp 38) (.tmp 45) 55 (by rfl) W.heap.size 60 i0 (.agg #[.int .i64 0, .slice none 0 0]) 2 32 Try.underlying55 hi hz0 hz1 hz2 (by rfl) (by decide) _ _ _ (by rfl) HO3.out ⟨gg, (k + 1) * 2, none⟩ (N - (k + 1)) _ Z (by rfl) HLen.out.2 HD3.out HOne.out.2 (by unfold maxLen; omega) (by omega) HB3.out.size ?_; intro A5 cp5 w5 hown5 hg5; have hb5 := HB3.out.trans ((Below.refl W.heap.size w3).grown hg5 HB3.out.size (fun i hi => (HO3.out.lt i hi).1)); have k52 := (HOld.out w5 hb5).1; have f52 := (HOld.out w5 hb5).2.1; have HO5 := Lib.hid hown5; have HB5 := Lib.hid hb5; clear hown5 hg5 hb5))
      all_goals
        have hO := HO5.out
        rw [HTZ.out.1, HTZ.out.2] at hO
        obtain ⟨r1, r2⟩ := rdel_fin (X := { X with us := D - ↑Np }) (f := f) (k := k) HS.out.1 HF.out HB5.out (by simp only [List.length_append, List.length_take, List.length_drop]; have := HN.out.1; omega) hO
        rw [HN.out.2.1, HN.out.2.2] at r1
        clear hO
        have HR1 := Lib.hid r1
        have HR2 := Lib.hid (HS.out.2.trans r2)
        clear r1 r2 k52 f52
        generalize World.setCell _ _ _ = W9 at HR1 HR2 ⊢
        go_wp2_with fail
        go_ret
        exact ⟨HR2.out, .inr ⟨f, HFl.out, rfl, _, HR1.out⟩⟩
end
end Go.Proofs.Ythimgldohhaimab
