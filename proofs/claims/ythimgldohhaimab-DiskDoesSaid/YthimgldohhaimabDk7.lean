/-
  Package disk: Append, walked.
-/
import Derived.Test.YthimgldohhaimabDk6
import Derived.Laws.Cover3
import Derived.Great.BuildSlice
import Derived.Deep.RegionHeld3
import Derived.Deep.AppendLies
namespace Go.Proofs.Ythimgldohhaimab
open Go.RowKit Go.Maps

theorem info_pageB : (Try.prog.info? 66).map (fun i => (i.zero, i.size, i.bytes)) = some (some (.agg (Array.replicate 256 (.int .u8 0))), 256, 256) := by kernel_rfl
/-- A page block grows: what is none of it is as it was. -/
theorem DkRaw.page_turned {B : Nat} {w w3 : World} {l mf ms : Nat} {d : Dk} {f : Fl} (h : DkRaw B w l mf ms d) (hfm : f ∈ d.fs) (hg : w.grownBy w3 f.v.ownBlock) : Dg B w w3 ∧ w3.heap[l]? = w.heap[l]? ∧ w3.heap[ms]? = w.heap[ms]? := by
  have hfne : ∀ i, f.v.ownBlock = some i → i ≠ l ∧ i ≠ mf ∧ i ≠ ms := fun i hi => h.page_ne hfm hi
  refine ⟨?_, hg.block l (block_ltD h.box) (fun e => (hfne l e.symm).1 rfl), hg.block ms h.fls.lt (fun e => (hfne ms e.symm).2.2 rfl)⟩
  cases hfo : f.v.ownBlock with
  | none =>
    rw [hfo] at hg
    exact Dg.of_below h.lt ((Below.refl _ _).grown hg (Nat.le_refl _) (fun k hk => by cases hk))
  | some i =>
    rw [hfo] at hg
    obtain ⟨cs, fr, hc⟩ := h.page_typ hfm hfo
    exact Dg.grown ((h.pgs f hfm).lt i hfo).1 hc (by simp [outD]) hg
theorem wp_buildOne {o : Oper} {a : Act} {w : World} {K : Act → World → Prop} {Q : Exit → Act → World → Prop} (t e : TypeId) (x : Operand) (ho : o.op = .buildSlice t 1 #[(0, x)]) (c : Array Value) (hx : a.eval x = .agg c) (ie : TypeInfo) (z : Value)
    (hu : Try.prog.underlying t = some (.slice e)) (hie : Try.prog.info? e = some ie) (hz : ie.zero = some z) (hsz : ie.size = 256) (hc : c.size = 256) (h : ∀ V, V = w.alloc (.cells c e) → K (a.put o.dst (.slice (some ⟨w.heap.size, 0, none⟩) 1 1)) V) : o.wp Try.prog a w K Q := by
  refine wp_buildSlice t e 1 #[(0, x)] ho c ie z hu hie hz (by rw [hsz]; omega) (by rw [hsz]; omega) ?_ (h _ rfl)
  have e1 : ((#[(0, x)] : Array (Nat × Operand)).map fun (i, x) => (i, a.eval x)).toList = [(0, Value.agg c)] := by simp [hx]
  rw [e1, hsz]
  have h := Great.fill_whole (s := 256) (by omega) [Value.agg c] ((Array.range (1 * 256)).map (z.cells[· % z.cells.size]!)) (by simp [Value.cells, hc]) (by simp)
  simpa [Value.cells] using h
set_option linter.unusedSimpArgs false in
set_option maxRecDepth 100000 in
set_option maxHeartbeats 8000000 in
theorem append_in (B l mf ms : Nat) (d : Dk) (n : Int) (q : List Int) (b o c : Nat) (f : Fl) (w : World) (h : DkAt B w l mf ms d) (hw : (Lit.int .i64 n).wf = true) (hd : d.deeds < 1000000000000) (hr : d.wr < 1000000000000)
    (hq : q.length = 256) (hf : flOf d.fs n = some f) (hroom : d.us < d.room) (hrg : ∀ W, Dg B w W → W.rangeAt b o (q.map (Value.int .u8))) :
    Calls Try.prog 10 #[.pointer (some ⟨l, 0, none⟩), .int .i64 n, .slice (some ⟨b, o, none⟩) 256 c] w (AppEnd B w l mf ms d n q) := by
  have c2 := h.c2
  have HC := Lib.hid (dclosed_no l ms w c2)
  have hlk := h.fls.look hw Try.underlying51 (zeroS w) true
  rw [show vOf d.fls n = _ from vOf_fls d.fs n, hf] at hlk
  simp only [if_true, Option.map_some, Option.getD_some, Option.isSome_some] at hlk
  have HF := Lib.hid hf
  have hfm := (flOf_mem hf).1
  obtain ⟨A, cp, hv⟩ := pgs_shape (h.pgs f hfm)
  rw [hv] at hlk
  have HV := Lib.hid hv
  have HRg := Lib.hid hrg
  have HQ := Lib.hid hq
  have HD := Lib.hid h
  have HRo := Lib.hid hroom
  have HDe := Lib.hid (deed_any B l mf ms d w.drew (h.kept (Below.drew (Below.refl _ _))) hd)
  have c7 := h.c7
  have c0 := h.c0
  obtain ⟨N, hN⟩ : ∃ N, N = f.ps.length := ⟨_, rfl⟩
  rw [← hN] at hlk
  have HN := Lib.hid hN
  clear h hf hfm hv hrg hq hN
  go_enter Try.func10, Try.ntmps10
  go_wp2_with fail
  refine HC.out.mono ?_
  rintro e w1 ⟨rfl, rfl⟩
  go_wp2_with fail
  go_region
  go_wp2_with fail
  refine HDe.out.mono ?_
  rintro e w1 ⟨rfl, hd1, hg1⟩
  have HD1 := Lib.hid hd1
  have HG1 := Lib.hid (show Dg B w w1 from (Dg.of_below HD.out.lt (Below.drew (Below.refl _ _))).trans hg1)
  clear hd1 hg1 c2 c7 c0 hlk
  by_cases hm : d.deeds + 1 ∈ d.fa
  · have HM := Lib.hid hm
    rw [if_pos hm]
    clear hm
    go_wp2_with fail
    go_ret
    unfold AppEnd
    rw [if_neg (by rw [HQ.out]; simp), if_neg (by rw [HF.out]; simp), if_neg (by have := HRo.out; omega), if_pos HM.out]
    exact ⟨rfl, HD1.out, HG1.out⟩
  · have HM := Lib.hid hm
    rw [if_neg hm]
    have hlm : (Try.prog.info? 66).map (·.size) = some (q.map (Value.int .u8)).length := by rw [List.length_map, HQ.out]; exact (zero_of_info info_page).2
    clear hm
    go_upto_region 12 with fail
    refine wp_region_noPanic ?_
    refine wp_region_held_drew (S := fun w' => Dg B w1 w' ∧ w'.cell? ⟨l, 2, none⟩ = some (.map (some ms))) (by kernel_rfl) ⟨Dg.of_below HD1.out.lt (Below.drew (Below.refl _ _)), HD1.out.c2⟩ (fun hHeld => ?_)
    refine wpAnyH_take (i := 0) (v := ?_) rfl (by kernel_rfl) (by kernel_rfl) (by kernel_rfl) (fun _ _ _ h => h) (Or.inl ⟨by rfl, ?_⟩) hHeld ?_
    rotate_left 1
    · (intro w0 hSw); (try dsimp only at hSw); have hSc := hSw.2; go_simp <;> with_reducible rfl
    (try simp only [Act.put, List.setIfInBounds_toArray, List.set_cons_zero, List.set_cons_succ])
    refine wpAnyH_take (i := 1) (v := ?_) rfl (by kernel_rfl) (by kernel_rfl) (by kernel_rfl) (fun _ _ _ h => h) (Or.inl ⟨by rfl, ?_⟩) hHeld ?_
    rotate_left 1
    · (intro w0 hSw); (try dsimp only at hSw); have hSc := hSw.2; go_simp <;> with_reducible rfl
    (try simp only [Act.put, List.setIfInBounds_toArray, List.set_cons_zero, List.set_cons_succ])
    refine wpAnyH_take (i := 2) (v := ?_) rfl (by kernel_rfl) (by kernel_rfl) (by kernel_rfl) (fun _ _ _ h => h) (Or.inl ⟨by rfl, ?_⟩) hHeld ?_
    rotate_left 1
    · (intro w0 hSw); (try dsimp only at hSw); have hSc := hSw.2; go_simp <;> with_reducible rfl
    (try simp only [Act.put, List.setIfInBounds_toArray, List.set_cons_zero, List.set_cons_succ])
    refine wpAnyH_take (i := 3) (v := ?_) rfl (by kernel_rfl) (by kernel_rfl) (by kernel_rfl) (fun _ _ _ h => h) (Or.inl ⟨by rfl, ?_⟩) hHeld ?_
    rotate_left 1
    · (intro w0 hSw); (try dsimp only at hSw); have hSc := hSw.2; go_simp <;> with_reducible rfl
    (try simp only [Act.put, List.setIfInBounds_toArray, List.set_cons_zero, List.set_cons_succ])
    refine wpAnyH_take (i := 4) (v := ?_) rfl (by kernel_rfl) (by kernel_rfl) (by kernel_rfl) (fun _ _ _ h => h) (Or.inl ⟨by rfl, ?_⟩) hHeld ?_
    rotate_left 1
    · (intro w0 hSw); (try dsimp only at hSw); have hSc := hSw.2; go_simp <;> with_reducible rfl
    (try simp only [Act.put, List.setIfInBounds_toArray, List.set_cons_zero, List.set_cons_succ])
    refine wpAnyH_take (i := 5) (v := ?_) rfl (by kernel_rfl) (by kernel_rfl) (by kernel_rfl) (fun _ _ _ h => h) (Or.inl ⟨by rfl, ?_⟩) hHeld ?_
    rotate_left 1
    · (intro w0 hSw); (try dsimp only at hSw); have hSc := hSw.2; go_simp <;> with_reducible rfl
    (try simp only [Act.put, List.setIfInBounds_toArray, List.set_cons_zero, List.set_cons_succ])
    refine wpAnyH_take (i := 6) (v := ?_) rfl (by kernel_rfl) (by kernel_rfl) (by kernel_rfl) (fun _ _ _ h => h) (Or.inl ⟨by rfl, ?_⟩) hHeld ?_
    rotate_left 1
    · (intro w0 hSw); (try dsimp only at hSw); have hSc := hSw.2; go_simp <;> with_reducible rfl
    (try simp only [Act.put, List.setIfInBounds_toArray, List.set_cons_zero, List.set_cons_succ])
    refine wpAnyH_take (i := 7) (v := ?_) rfl (by kernel_rfl) (by kernel_rfl) (by kernel_rfl) (fun _ _ _ h => h) (Or.inl ⟨by rfl, ?_⟩) hHeld ?_
    rotate_left 1
    · (intro w0 hSw); have harr := run_arrayAt (P := Try.prog) (w := w0) 66 5 256 (some ⟨b, o, none⟩) 256 c Try.underlying66 (Nat.le_refl _); go_simp <;> with_reducible rfl
    (try simp only [Act.put, List.setIfInBounds_toArray, List.set_cons_zero, List.set_cons_succ])
    refine wpAnyH_take (i := 8) (v := .agg (q.map (Value.int .u8)).toArray) rfl (by kernel_rfl) (by kernel_rfl) (by kernel_rfl) (fun _ _ _ h => h) ?_ hHeld ?_
    · refine Or.inl ⟨by rfl, fun w0 hSw => ?_⟩
      have hr0 := HRg.out w0 (HG1.out.trans hSw.1)
      have hl0 := run_loadVar_mid (P := Try.prog) w0 b o 66 (q.map (Value.int .u8)) _ hr0 Try.underlying66 rfl hlm
      unfold execOp
      simp only [Act.eval, Instr.loadAt, Instr.sureAddr, Sem.run_bind, Sem.run_pure, Result.andThen_ok]
      simp [hl0]
    (try simp only [Act.put, List.setIfInBounds_toArray, List.set_cons_zero, List.set_cons_succ])
    obtain ⟨ie, hie, hz0, hz1, hz2⟩ := info_parts info_pageB
    refine wpAnyH_ready (rs := [9]) (by kernel_rfl) (by simp) ?_
    refine AllReadyH.cons (o := { dst := some 47, op := .buildSlice 62 1 #[(0, .tmp 46)], type := 62, pos := "disk.go:73", after := #[{ on := 8, ground := .data }], guard := none }) rfl (fun K hK => ?_) AllReadyH.nil
    rw [if_pos (by rfl)]
    refine wp_buildOne 62 66 (.tmp 46) rfl (q.map (Value.int .u8)).toArray (by with_reducible (first | rfl | go_simp)) ie _ Try.underlying62 hie hz0 hz1 (by rw [List.size_toArray, List.length_map, HQ.out]) ?_
    intro V hV
    have hbW : Below w1.heap.size w1 V := by rw [hV]; exact (Below.drew (Below.refl _ _)).alloc (Nat.le_refl _) _
    have hxb : V.heap[w1.heap.size]? = some (.cells (q.map (Value.int .u8)).toArray 66 (0, 0)) := by rw [hV]; exact (MapKept.heap_alloc w1.drew _).1
    have HR2 := Lib.hid (HD1.out.toDkRaw.kept hbW)
    have HG2 := Lib.hid (Dg.of_below HD1.out.lt hbW)
    have HX := Lib.hid hxb
    refine hK.out _ _ ⟨HG2.out, HR2.out.c2⟩ (fun hHeld => ?_)
    clear hK K hV hbW hxb hHeld
    (try simp only [Act.put, List.setIfInBounds_toArray, List.set_cons_zero, List.set_cons_succ])
    have hVB : w1.heap.size < V.heap.size := block_ltD HX.out
    have hfm := (flOf_mem HF.out).1
    have hown : V.ownsRow B 66 256 (.slice A N cp) N (cellsP f.ps) := by
      have := HR2.out.pgs f hfm
      rw [HV.out] at this
      unfold PgsAt at this
      rw [← HN.out] at this
      exact this
    obtain ⟨z, hz⟩ : ∃ z, z = Value.agg (Array.replicate 256 (.int .u8 0)) := ⟨_, rfl⟩
    rw [← hz] at hz0
    have hzc : z.cells.size = 256 := by rw [hz]; simp [Value.cells]
    clear hz
    have hN16 : N ≤ 16384 := by
      have h1 := sum_mem hfm
      rw [← HD.out.sane.used, ← HN.out] at h1
      have h2 := HD.out.sane.most
      have h3 := HD.out.sane.room
      omega
    refine wpAnyH_ready (rs := [10]) (by kernel_rfl) (by simp) ?_
    refine AllReadyH.cons (o := { dst := some 48, op := .call { callee := .builtin .append, args := #[.tmp 43, .tmp 47], argTypes := #[62, 62] }, type := 62, pos := "disk.go:73", after := #[{ on := 5, ground := .data }, { on := 9, ground := .data }], guard := none }) rfl (fun K hK => ?_) AllReadyH.nil
    rw [if_pos (by rfl)]
    refine wp_append_lies (P := Try.prog) V (.tmp 43) (.tmp 47) 62 rfl B 66 ie z 256 256 Try.underlying62 hie hz0 hz1 hz2 (by rw [hzc]) (by omega) (.slice A N cp) N (cellsP f.ps) (by with_reducible (first | rfl | go_simp)) hown ⟨w1.heap.size, 0, none⟩ 1 1 (q.map (Value.int .u8)) (by with_reducible (first | rfl | go_simp)) (by rw [List.length_map, HQ.out]) (World.news_of_block HX.out) (fun u hu => by obtain ⟨x, _, rfl⟩ := List.mem_map.1 hu; rfl) (by omega) (by simp [maxLen]; omega) (by omega) HR2.out.lt _ rfl ?_
    intro g cap w3 hown3 hg3 hgg _
    have hpt := HR2.out.page_turned hfm (by rw [HV.out, ← HN.out]; exact hg3)
    have HP3 := Lib.hid hpt
    refine hK.out _ _ ⟨HG2.out.trans hpt.1, by rw [World.cell?_of_block (a := ⟨l, 2, none⟩) hpt.2.1]; exact HR2.out.c2⟩ (fun hHeld => ?_)
    clear hK K hHeld hpt
    (try simp only [Act.put, List.setIfInBounds_toArray, List.set_cons_zero, List.set_cons_succ])
    have hm3 : MpAt w3 ms d.fls := HR2.out.fls.kept HP3.out.2.2
    obtain ⟨w4, hrun, hm4, ht4⟩ := hm3.put (.slice (some ⟨g, 0, none⟩) (N + 1) cap) hw (by have := HD.out.sane.len; simp [Dk.fls, maxLen]; omega) Try.underlying51
    have hown3' : PgsAt B w3 (.slice (some ⟨g, 0, none⟩) (N + 1) cap) (f.ps ++ [q]) := by
      unfold PgsAt
      rw [cellsP_app, List.length_append, ← HN.out]
      exact hown3
    have hfin := HR2.out.appended (q := q) HD1.out.sane HF.out hown3' (by rw [HV.out, ← HN.out]; exact hg3) (by rw [HV.out, ← HN.out]; exact hgg) hm4 ht4
    have HFin := Lib.hid hfin
    refine wpAnyH_ready (rs := [11]) (by kernel_rfl) (by simp) ?_
    refine AllReadyH.cons (o := { dst := none, op := .mapUpdate 51 (.tmp 41) (.tmp 42) (.tmp 48), type := 0, pos := "disk.go:73", after := #[{ on := 3, ground := .data }, { on := 4, ground := .data }, { on := 10, ground := .data }, { on := 10, ground := .chain }, { on := 0, ground := .phase }, { on := 1, ground := .phase }, { on := 2, ground := .phase }, { on := 3, ground := .phase }, { on := 4, ground := .phase }, { on := 5, ground := .phase }, { on := 6, ground := .phase }, { on := 7, ground := .phase }, { on := 8, ground := .phase }, { on := 9, ground := .phase }, { on := 10, ground := .phase }], guard := none }) rfl (fun K hK => ?_) AllReadyH.nil
    rw [if_pos (by rfl)]
    clear hown hown3 hown3' hg3 hgg hm3 hm4 ht4 hfin hN16 hfm hVB
    go_simp
    refine hK.out _ _ ⟨HG2.out.trans HFin.out.2.1, HFin.out.1.c2⟩ (fun hHeld => ?_)
    clear hK K hHeld hrun
    (try simp only [Act.put, List.setIfInBounds_toArray, List.set_cons_zero, List.set_cons_succ])
    refine wpAnyH_done (by kernel_rfl) ?_ _
    refine NoPanic.normal ?_
    have hr0 := HD.out.sane.pos.2.2.2
    have hp1 := HD.out.sane.peak
    have hu0 : 0 ≤ d.us := by rw [HD.out.sane.used]; exact sum_nonneg
    have hro := HD.out.sane.room
    have c6 : w4.cell? ⟨l, 6, none⟩ = some (.int .i64 d.wr) := HFin.out.1.c6
    have f6 := HFin.out.1.fz 6
    have HS1 := Lib.hid (HFin.out.1.set (d' := { d.deed with fs := setF d.fs n (.slice (some ⟨g, 0, none⟩) (N + 1) cap) q, wr := d.wr + 1 }) (i := 6) (x := d.wr + 1) (by rfl) rfl rfl)
    obtain ⟨wr0, hwr⟩ : ∃ x, x = d.wr := ⟨_, rfl⟩
    obtain ⟨us0, hus⟩ : ∃ x, x = d.us := ⟨_, rfl⟩
    obtain ⟨pk0, hpk⟩ : ∃ x, x = d.pk := ⟨_, rfl⟩
    have HWr := Lib.hid hwr
    have HUs := Lib.hid hus
    have HPk := Lib.hid hpk
    rw [← hwr] at c6 hr0 HS1 hr
    rw [← hus, ← hpk] at hp1
    rw [← hus] at hu0 hroom
    clear hwr hus hpk
    go_upto_region 14 with fail
    generalize w4.setCell ⟨l, 6, none⟩ (.int .i64 (wr0 + 1)) = W5 at HS1 ⊢
    have c7 : W5.cell? ⟨l, 7, none⟩ = some (.int .i64 us0) := by rw [HUs.out]; exact HS1.out.1.c7
    have f7 := HS1.out.1.fz 7
    have HS2 := Lib.hid (HS1.out.1.set (d' := { d.deed with fs := setF d.fs n (.slice (some ⟨g, 0, none⟩) (N + 1) cap) q, wr := wr0 + 1, us := us0 + 1 }) (i := 7) (x := us0 + 1) (by rfl) rfl rfl)
    clear c6 f6
    go_upto_region 15 with fail
    generalize W5.setCell ⟨l, 7, none⟩ (.int .i64 (us0 + 1)) = W6 at HS2 ⊢
    clear c7 f7
    have c7 : W6.cell? ⟨l, 7, none⟩ = some (.int .i64 (us0 + 1)) := HS2.out.1.c7
    have c8 : W6.cell? ⟨l, 8, none⟩ = some (.int .i64 pk0) := by rw [HPk.out]; exact HS2.out.1.c8
    have f8 := HS2.out.1.fz 8
    have HVd := Lib.hid (HS2.out.1.kept (Below.drew (Below.refl _ _)))
    have HGd := Lib.hid (Dg.of_below HS2.out.1.lt (Below.drew (Below.refl W6.heap.size W6)))
    have hfinal : ∀ m, m = max pk0 (us0 + 1) → DkAt B (W6.drew.setCell ⟨l, 8, none⟩ (.int .i64 m)) l mf ms (d.deed.app n (.slice (some ⟨g, 0, none⟩) (N + 1) cap) q) ∧ Dg B w (W6.drew.setCell ⟨l, 8, none⟩ (.int .i64 m)) := by
      intro m hm
      have h3 := HVd.out.set (d' := d.deed.app n (.slice (some ⟨g, 0, none⟩) (N + 1) cap) q) (i := 8) (x := m) (by rw [hm, HWr.out, HUs.out, HPk.out]; rfl) rfl (by rw [HWr.out, HUs.out] at HVd; rfl)
      refine ⟨⟨h3.1, HD1.out.sane.app HF.out HQ.out HRo.out HFin.out.2.2⟩, ?_⟩
      exact HG1.out.trans (HG2.out.trans (HFin.out.2.1.trans (HS1.out.2.trans (HS2.out.2.trans (HGd.out.trans h3.2)))))
    have HFn := Lib.hid hfinal
    clear hfinal
    rcases Int.lt_or_le pk0 (us0 + 1) with hlt | hle
    · have hmx := HFn.out (us0 + 1) (by omega)
      have HMx := Lib.hid hmx
      clear hmx
      go_wp2_with fail
      go_region
      go_wp2_with fail
      go_ret
      unfold AppEnd
      rw [if_neg (by rw [HQ.out]; simp), if_neg (by rw [HF.out]; simp), if_neg (by have := HRo.out; omega), if_neg HM.out]
      exact ⟨rfl, ⟨_, HMx.out.1⟩, HMx.out.2⟩
    · have hmx := HFn.out pk0 (by omega)
      have HMx := Lib.hid hmx
      clear hmx
      go_wp2_with fail
      go_region
      go_wp2_with fail
      go_ret
      unfold AppEnd
      rw [if_neg (by rw [HQ.out]; simp), if_neg (by rw [HF.out]; simp), if_neg (by have := HRo.out; omega), if_neg HM.out]
      exact ⟨rfl, ⟨_, HMx.out.1⟩, HMx.out.2⟩
end Go.Proofs.Ythimgldohhaimab
