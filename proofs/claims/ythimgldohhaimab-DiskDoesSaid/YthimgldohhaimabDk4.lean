/-
  Package disk: Size, Create, Delete.
-/
import Derived.Test.YthimgldohhaimabDk3
namespace Go.Proofs.Ythimgldohhaimab
open Go.RowKit Go.Maps

def flOf (fs : List Fl) (n : Int) : Option Fl := fs.find? (fun f => f.n == n)
theorem flOf_mem {fs : List Fl} {n : Int} {f : Fl} (h : flOf fs n = some f) : f ∈ fs ∧ f.n = n := by
  unfold flOf at h
  exact ⟨List.mem_of_find?_eq_some h, by simpa using List.find?_some h⟩
theorem vOf_fls (fs : List Fl) (n : Int) : vOf (fs.map fun f => (f.n, f.v)) n = (flOf fs n).map Fl.v := by
  induction fs with
  | nil => rfl
  | cons a fs ih =>
    rw [List.map_cons, vOf_cons, ih]
    unfold flOf
    by_cases e : a.n = n
    · rw [List.find?_cons_of_pos (by simp [e]), if_pos e]; rfl
    · rw [List.find?_cons_of_neg (by simp [e]), if_neg e]
theorem fst_fls (fs : List Fl) : (fs.map fun f => (f.n, f.v)).map Prod.fst = fs.map Fl.n := by
  rw [List.map_map]; rfl
theorem pgs_shape {B : Nat} {w : World} {v : Value} {ps : List (List Int)} (h : PgsAt B w v ps) : ∃ A c, v = .slice A ps.length c := by
  rcases h.2 with ⟨hv, hn⟩ | ⟨g, cap, cur, hv, _⟩
  · exact ⟨none, 0, by rw [hv, hn]⟩
  · exact ⟨_, cap, hv⟩
theorem set_others (w : World) (l i : Nat) (x : Value) : ∀ k, k ≠ l → (w.setCell ⟨l, i, none⟩ x).heap[k]? = w.heap[k]? := fun k hk => by simp [World.setCell, Array.getElem?_modify, Ne.symm hk]
theorem zeroS (w : World) : (zeroValue 62).run Try.prog w = .ok (.slice none 0 0) w := by kernel_rfl
def sizeV (d : Dk) (n : Int) : Value := match flOf d.fs n with
  | some f => .tuple #[.int .i64 f.ps.length, .int .i64 0]
  | none => .tuple #[.int .i64 0, .int .i64 4]
set_option maxRecDepth 100000 in
set_option maxHeartbeats 1000000 in
theorem size_any (B l mf ms : Nat) (d : Dk) (n : Int) (w : World) (h : DkRaw B w l mf ms d) (hw : (Lit.int .i64 n).wf = true) :
    Calls Try.prog 13 #[.pointer (some ⟨l, 0, none⟩), .int .i64 n] w fun e w' => e = .returned (sizeV d n) ∧ w = w' := by
  have c2 := h.c2
  have HC := Lib.hid (dclosed_no l ms w c2)
  have hlk := h.fls.look hw Try.underlying51 (zeroS w) true
  rw [show vOf d.fls n = _ from vOf_fls d.fs n] at hlk
  cases hf : flOf d.fs n with
  | none =>
    have HV := Lib.hid (show sizeV d n = .tuple #[.int .i64 0, .int .i64 4] by unfold sizeV; rw [hf])
    rw [hf] at hlk
    simp only [if_true, Option.map_none, Option.getD_none, Option.isSome_none] at hlk
    clear hf h
    go_enter Try.func13, Try.ntmps13
    go_wp2_with fail
    refine HC.out.mono ?_
    rintro e w1 ⟨rfl, rfl⟩
    go_wp2_with fail
    go_ret2
    exact ⟨by rw [HV.out]; rfl, rfl⟩
  | some f =>
    have HV := Lib.hid (show sizeV d n = .tuple #[.int .i64 f.ps.length, .int .i64 0] by unfold sizeV; rw [hf])
    obtain ⟨A, c, hv⟩ := pgs_shape (h.pgs f (flOf_mem hf).1)
    rw [hf] at hlk
    simp only [if_true, Option.map_some, Option.getD_some, Option.isSome_some] at hlk
    rw [hv] at hlk
    clear hf h hv
    go_enter Try.func13, Try.ntmps13
    go_wp2_with fail
    refine HC.out.mono ?_
    rintro e w1 ⟨rfl, rfl⟩
    go_wp2_with fail
    go_ret2
    exact ⟨by rw [HV.out]; rfl, rfl⟩
set_option maxRecDepth 100000 in
set_option maxHeartbeats 1000000 in
theorem size_nil (n : Int) (w : World) :
    Calls Try.prog 13 #[.pointer none, .int .i64 n] w fun e w' => e = .returned (.tuple #[.int .i64 0, .int .i64 6]) ∧ w = w' := by
  have HC := Lib.hid (dclosed_nil w)
  go_enter Try.func13, Try.ntmps13
  go_wp2_with fail
  refine HC.out.mono ?_
  rintro e w1 ⟨rfl, rfl⟩
  go_wp2_with fail
  go_ret2
  exact ⟨rfl, rfl⟩
/-- The map of files has been written. -/
theorem DkRaw.fls_turned {B : Nat} {w w' : World} {l mf ms : Nat} {d d' : Dk} (h : DkRaw B w l mf ms d) (hm : MpAt w' ms d'.fls) (ht : w.mapTurned w' ms) (hb : d'.box mf ms = d.box mf ms) (hf : d'.fa = d.fa) (hp : ∀ f ∈ d'.fs, PgsAt B w f.v f.ps) : DkRaw B w' l mf ms d' ∧ Dg B w w' := by
  have hg := ht.grown
  have hpt := h.ptr
  obtain ⟨es, c, h1⟩ := h.fls.isMap
  have ho : ∀ k, k < w.heap.size → k ≠ ms → w'.heap[k]? = w.heap[k]? := fun k hk hne => hg.block k hk (by simpa using hne)
  refine ⟨⟨?_, ?_, hm, fun f hf' => ?_, h.lo, h.ne⟩, Dg.grown h.lo.2.2 h1 rfl hg⟩
  · rw [hb]; exact (ho l (block_ltD h.box) hpt.2).trans h.box
  · unfold Dk.flt; rw [hf]; exact h.flt.kept (ho mf h.flt.lt h.ne)
  · have hpf := hp f hf'
    refine ownsRow_same hpf (fun k hk => ho k (hpf.lt k hk).2 (fun e => ?_))
    rcases hpf.2 with ⟨hv, _⟩ | ⟨g, cap, cur, hv, hbb, hgg, _⟩
    · rw [hv] at hk; cases hk
    · rw [hv] at hk
      simp [Value.ownBlock] at hk
      rw [hk, e, h1] at hgg
      cases hgg
def Dk.del (d : Dk) (f : Fl) : Dk := { d with fs := d.fs.filter (fun g => g.n != f.n), us := d.us - f.ps.length }
def Dk.newF (d : Dk) : Fl := ⟨d.last + 1, .slice none 0 0, []⟩
def Dk.add (d : Dk) : Dk := { d with fs := d.fs ++ [d.newF], last := d.last + 1 }
theorem sum_filter {fs : List Fl} (hd : (fs.map Fl.n).Nodup) {f : Fl} (hf : f ∈ fs) (F : Fl → Int) : ((fs.filter (fun g => g.n != f.n)).map F).sum = (fs.map F).sum - F f := by
  induction fs with
  | nil => cases hf
  | cons a fs ih =>
    rw [List.map_cons, List.nodup_cons] at hd
    rcases List.mem_cons.1 hf with e | hf2
    · subst e
      have : fs.filter (fun g => g.n != f.n) = fs := List.filter_eq_self.2 (fun g hg => by
        simp; intro e; exact hd.1 (e ▸ List.mem_map_of_mem hg))
      rw [List.filter_cons_of_neg (by simp), this, List.map_cons, List.sum_cons]
      omega
    · have hne : a.n ≠ f.n := fun e => hd.1 (e ▸ List.mem_map_of_mem hf2)
      rw [List.filter_cons_of_pos (by simpa using hne), List.map_cons, List.map_cons, List.sum_cons, List.sum_cons, ih hd.2 hf2]
      omega
theorem sum_nonneg {fs : List Fl} : 0 ≤ (fs.map fun f => (f.ps.length : Int)).sum := by
  induction fs with
  | nil => simp
  | cons a fs ih => rw [List.map_cons, List.sum_cons]; omega
theorem sum_mem {fs : List Fl} {f : Fl} (hf : f ∈ fs) : (f.ps.length : Int) ≤ (fs.map fun f => (f.ps.length : Int)).sum := by
  induction fs with
  | nil => cases hf
  | cons a fs ih =>
    rw [List.map_cons, List.sum_cons]
    rcases List.mem_cons.1 hf with e | hf2
    · subst e; have := sum_nonneg (fs := fs); omega
    · have := ih hf2; omega
theorem Sd.del {d : Dk} (h : Sd d) {f : Fl} (hf : f ∈ d.fs) : Sd (d.del f) := by
  have hsub : ∀ g ∈ d.fs.filter (fun g => g.n != f.n), g ∈ d.fs := fun g hg => (List.mem_filter.1 hg).1
  have hsum := sum_filter h.nums hf (fun f => (f.ps.length : Int))
  have hu := h.used
  have hm := h.most
  have hp := h.peak
  refine ⟨h.room, h.fnod, h.flen, h.nums.sublist ((List.filter_sublist).map _), fun g hg => h.num g (hsub g hg), Nat.le_trans (List.length_filter_le _ _) h.len, fun g hg k hk => h.apart g (hsub g hg) k (hsub k hk), fun g hg => h.pages g (hsub g hg), ?_, ?_, ?_, h.pos⟩
  · show d.us - f.ps.length = ((d.fs.filter (fun g => g.n != f.n)).map fun f => (f.ps.length : Int)).sum
    rw [hsum, hu]
  · show d.us - f.ps.length ≤ d.room; omega
  · show d.us - f.ps.length ≤ d.pk ∧ d.pk ≤ d.room; omega
theorem Sd.add {d : Dk} (h : Sd d) (hl : d.fs.length < 32768) : Sd d.add := by
  have hlast := h.pos.1
  refine ⟨h.room, h.fnod, h.flen, ?_, ?_, ?_, ?_, ?_, ?_, h.most, h.peak, by show 0 ≤ d.last + 1; omega, h.pos.2⟩
  · show ((d.fs ++ [d.newF]).map Fl.n).Nodup
    rw [List.map_append, List.nodup_append]
    refine ⟨h.nums, by simp, fun x hx y hy => ?_⟩
    obtain ⟨g, hg, rfl⟩ := List.mem_map.1 hx
    simp [Dk.newF] at hy
    subst hy
    have := (h.num g hg).2
    omega
  · intro g hg
    show 1 ≤ g.n ∧ g.n ≤ d.last + 1
    rcases List.mem_append.1 hg with hg | hg
    · have := h.num g hg; omega
    · simp at hg; subst hg; exact ⟨by show 1 ≤ d.last + 1; omega, Int.le_refl _⟩
  · show (d.fs ++ [d.newF]).length ≤ 32768
    simp; omega
  · intro g hg k hk hne b hb
    rcases List.mem_append.1 hg with hg | hg
    · rcases List.mem_append.1 hk with hk | hk
      · exact h.apart g hg k hk hne b hb
      · simp at hk; subst hk; simp [Value.ownBlock, Dk.newF]
    · simp at hg; subst hg; simp [Value.ownBlock, Dk.newF] at hb
  · intro g hg p hp
    rcases List.mem_append.1 hg with hg | hg
    · exact h.pages g hg p hp
    · simp at hg; subst hg; cases hp
  · show d.us = ((d.fs ++ [d.newF]).map fun f => (f.ps.length : Int)).sum
    rw [List.map_append, List.sum_append, ← h.used]; simp [Dk.newF]
def CreateEnd (B : Nat) (w : World) (l mf ms : Nat) (d : Dk) (e : Ending) (w' : World) : Prop :=
  if 32768 ≤ d.fs.length then e = .returned (.tuple #[.int .i64 0, .int .i64 2]) ∧ w' = w else e = .returned (.tuple #[.int .i64 (d.last + 1), .int .i64 0]) ∧ DkAt B w' l mf ms d.add ∧ Dg B w w' ∧ ∀ k, k < w.heap.size → k ≠ l → k ≠ ms → w'.heap[k]? = w.heap[k]?
set_option maxRecDepth 100000 in
set_option maxHeartbeats 2000000 in
theorem create_any (B l mf ms : Nat) (d : Dk) (w : World) (h : DkAt B w l mf ms d) (hd : d.last < 1000000000000) :
    Calls Try.prog 9 #[.pointer (some ⟨l, 0, none⟩)] w (CreateEnd B w l mf ms d) := by
  have c2 := h.c2
  have HC := Lib.hid (dclosed_no l ms w c2)
  have hlen := fun ty => h.fls.len Try.underlying51 ty
  rw [show d.fls.length = d.fs.length by simp [Dk.fls]] at hlen
  by_cases hfull : 32768 ≤ d.fs.length
  · have HF := Lib.hid hfull
    have hfi : (32768 : Int) ≤ (d.fs.length : Int) := by omega
    clear h hfull hd
    go_enter Try.func9, Try.ntmps9
    go_wp2_with fail
    refine HC.out.mono ?_
    rintro e w1 ⟨rfl, rfl⟩
    go_wp2_with fail
    go_ret2
    unfold CreateEnd
    rw [if_pos HF.out]
    exact ⟨rfl, rfl⟩
  · have HF := Lib.hid hfull
    have hfi : (d.fs.length : Int) < (32768 : Int) := by omega
    have c3 := h.c3
    have f3 := h.fz 3
    obtain ⟨n, hn⟩ : ∃ n, n = d.last := ⟨_, rfl⟩
    have hpos := h.sane.pos.1
    have HS := Lib.hid (h.toDkRaw.set (d' := { d with last := d.last + 1 }) (i := 3) (x := d.last + 1) (by rfl) rfl rfl)
    have HD := Lib.hid h
    rw [← hn] at c3 hpos hd HS
    have HN := Lib.hid hn
    clear h hn hfull
    go_enter Try.func9, Try.ntmps9
    go_wp2_with fail
    refine HC.out.mono ?_
    rintro e w1 ⟨rfl, rfl⟩
    obtain ⟨k, hk⟩ : ∃ k : Int, k = (d.fs.length : Int) := ⟨_, rfl⟩
    rw [← hk] at hlen hfi
    clear hk
    go_upto_region 5 with fail
    go_upto_region 6 with fail
    have HW := Lib.hid (set_others w l 3 (.int .i64 (n + 1)))
    have HWs := Lib.hid (show (w.setCell ⟨l, 3, none⟩ (.int .i64 (n + 1))).heap.size = w.heap.size by simp [World.setCell])
    generalize w.setCell ⟨l, 3, none⟩ (.int .i64 (n + 1)) = W at HS HW HWs ⊢
    have x2 := HS.out.1.c2
    have x3 : W.cell? ⟨l, 3, none⟩ = some (.int .i64 (n + 1)) := HS.out.1.c3
    have HVd := Lib.hid (HS.out.1.kept (Below.drew (Below.refl _ _)))
    obtain ⟨w', hrun, hm', ht'⟩ := HVd.out.fls.put (n := n + 1) (.slice none 0 0) (wfI (by omega) (by omega)) (by have := HF.out; simp [Dk.fls, maxLen]; omega) Try.underlying51
    have hnone : flOf d.fs (n + 1) = none := by
      cases hh : flOf d.fs (n + 1) with
      | none => rfl
      | some f =>
        obtain ⟨h1, h2⟩ := flOf_mem hh
        have := (HD.out.sane.num f h1).2
        rw [← HN.out] at this
        omega
    have hput : putV (Dk.fls { d with last := n + 1 }) (n + 1) (.slice none 0 0) = d.add.fls := by
      unfold putV
      rw [show vOf (Dk.fls { d with last := n + 1 }) (n + 1) = _ from vOf_fls d.fs (n + 1), hnone, HN.out]
      simp [Dk.fls, Dk.add, Dk.newF]
    rw [hput] at hm'
    have hfin := HVd.out.fls_turned (d' := d.add) hm' ht' (by rw [HN.out]; rfl) rfl (fun f hf => by
      rcases List.mem_append.1 hf with hf | hf
      · exact HVd.out.pgs f hf
      · simp at hf; subst hf; exact World.ownsRow_nil _ _ _ _)
    have HFin := Lib.hid hfin
    have HT := Lib.hid ht'.grown
    have z3 : w'.cell? ⟨l, 3, none⟩ = some (.int .i64 (n + 1)) := by rw [hfin.1.c3, HN.out]; rfl
    clear c2 c3 f3 hlen hm' ht' hput hnone hfin HC
    go_wp2_with fail
    go_region
    go_wp2_with fail
    go_ret2
    unfold CreateEnd
    rw [if_neg HF.out]
    exact ⟨by rw [HN.out]; rfl, ⟨HFin.out.1, HD.out.sane.add (by have := HF.out; omega)⟩, HS.out.2.trans ((Dg.of_below HS.out.1.lt (Below.drew (Below.refl _ _))).trans HFin.out.2), fun k hk h1 h2 => (HT.out.block k (by show k < W.heap.size; rw [HWs.out]; exact hk) (by simpa using h2)).trans (HW.out k h1)⟩
set_option maxRecDepth 100000 in
set_option maxHeartbeats 1000000 in
theorem create_nil (w : World) :
    Calls Try.prog 9 #[.pointer none] w fun e w' => e = .returned (.tuple #[.int .i64 0, .int .i64 6]) ∧ w = w' := by
  have HC := Lib.hid (dclosed_nil w)
  go_enter Try.func9, Try.ntmps9
  go_wp2_with fail
  refine HC.out.mono ?_
  rintro e w1 ⟨rfl, rfl⟩
  go_wp2_with fail
  go_ret2
  exact ⟨rfl, rfl⟩
def DelEnd (B : Nat) (w : World) (l mf ms : Nat) (d : Dk) (n : Int) (e : Ending) (w' : World) : Prop :=
  match flOf d.fs n with
  | none => e = .returned (.int .i64 4) ∧ w' = w
  | some f => e = .returned (.int .i64 0) ∧ DkAt B w' l mf ms (d.del f) ∧ Dg B w w' ∧ ∀ k, k < w.heap.size → k ≠ l → k ≠ ms → w'.heap[k]? = w.heap[k]?
set_option maxRecDepth 100000 in
set_option maxHeartbeats 2000000 in
theorem delete_any (B l mf ms : Nat) (d : Dk) (n : Int) (w : World) (h : DkAt B w l mf ms d) (hw : (Lit.int .i64 n).wf = true) :
    Calls Try.prog 15 #[.pointer (some ⟨l, 0, none⟩), .int .i64 n] w (DelEnd B w l mf ms d n) := by
  have c2 := h.c2
  have HZ := Lib.hid (size_any B l mf ms d n w h.toDkRaw hw)
  cases hf : flOf d.fs n with
  | none =>
    have HF := Lib.hid hf
    rw [show sizeV d n = .tuple #[.int .i64 0, .int .i64 4] by unfold sizeV; rw [hf]] at HZ
    clear h hf
    go_enter Try.func15, Try.ntmps15
    go_wp2_with fail
    refine HZ.out.mono ?_
    rintro e w1 ⟨rfl, rfl⟩
    go_wp2_with fail
    go_ret
    unfold DelEnd
    rw [HF.out]
    exact ⟨rfl, rfl⟩
  | some f =>
    have HF := Lib.hid hf
    rw [show sizeV d n = .tuple #[.int .i64 f.ps.length, .int .i64 0] by unfold sizeV; rw [hf]] at HZ
    obtain ⟨hfm, hfn⟩ := flOf_mem hf
    have hu0 := sum_mem hfm
    rw [← h.sane.used] at hu0
    have hu1 := h.sane.most
    have hu2 := h.sane.room.2
    obtain ⟨w', hrun0, hm', ht'⟩ := h.fls.del n hw (by rw [show d.fls.map Prod.fst = _ from fst_fls d.fs]; exact h.sane.nums) Try.underlying51 0
    have hdel : delV d.fls n = Dk.fls { d with fs := d.fs.filter (fun g => g.n != f.n) } := by
      unfold delV Dk.fls
      rw [List.filter_map, hfn]
      rfl
    rw [hdel] at hm'
    have hraw := h.toDkRaw.fls_turned (d' := { d with fs := d.fs.filter (fun g => g.n != f.n) }) hm' ht' rfl rfl (fun g hg => h.pgs g (List.mem_filter.1 hg).1)
    have hset := hraw.1.set (d' := d.del f) (i := 7) (x := d.us - f.ps.length) (by rfl) rfl rfl
    have hoth := fun k (hk : k < w.heap.size) (h1 : k ≠ l) (h2 : k ≠ ms) => (set_others w' l 7 (.int .i64 (d.us - f.ps.length)) k h1).trans (ht'.grown.block k hk (by simpa using h2))
    have HO := Lib.hid hoth
    have HR := Lib.hid (show Dg B w _ from hraw.2.trans hset.2)
    have HA := Lib.hid (show DkAt B _ l mf ms (d.del f) from ⟨hset.1, h.sane.del hfm⟩)
    have c7 := hraw.1.c7
    have f7 := hraw.1.fz 7
    simp only at c7
    obtain ⟨u, hu⟩ : ∃ u, u = d.us := ⟨_, rfl⟩
    rw [← hu] at c7 hu0 hu1 HR HA HO
    obtain ⟨k, hk⟩ : ∃ k : Int, k = (f.ps.length : Int) := ⟨_, rfl⟩
    rw [← hk] at HZ hu0 HR HA HO
    have hk0 : 0 ≤ k := by omega
    have hur : u ≤ 16384 := by omega
    clear h hf hfm hfn hm' ht' hdel hraw hset hu hk hu1 hoth
    go_enter Try.func15, Try.ntmps15
    go_wp2_with fail
    refine HZ.out.mono ?_
    rintro e w1 ⟨rfl, rfl⟩
    go_wp2_with fail
    go_ret
    unfold DelEnd
    rw [HF.out]
    exact ⟨rfl, HA.out, HR.out, HO.out⟩
set_option maxRecDepth 100000 in
set_option maxHeartbeats 1000000 in
theorem delete_nil (n : Int) (w : World) :
    Calls Try.prog 15 #[.pointer none, .int .i64 n] w fun e w' => e = .returned (.int .i64 6) ∧ w = w' := by
  have HZ := Lib.hid (size_nil n w)
  go_enter Try.func15, Try.ntmps15
  go_wp2_with fail
  refine HZ.out.mono ?_
  rintro e w1 ⟨rfl, rfl⟩
  go_wp2_with fail
  go_ret
  exact ⟨rfl, rfl⟩
end Go.Proofs.Ythimgldohhaimab
