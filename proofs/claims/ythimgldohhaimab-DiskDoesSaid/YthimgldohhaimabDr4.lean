/-
  DiskDoes: the document's own Append.
-/
import Derived.Test.YthimgldohhaimabDr4a
import Derived.Deep.DeepCutAuto
namespace Go.Proofs.Ythimgldohhaimab
open Go.RowKit Go.Maps Go.Sort

/-- A slice of bytes that calls leave alone. -/
def BytesIn (B : Nat) (w : World) (A : Option Addr) (q : List Int) : Prop := ∃ b o : Nat, A = some ⟨b, o, none⟩ ∧ ∀ W, Below B w W → ∀ (i : Nat) (u : Value), (q.map (Value.int .u8))[i]? = some u → W.cell? ⟨b, o + i, none⟩ = some u
theorem atX_some {fs : List Fl} {n : Int} (h : 0 ≤ atX fs n) : ∃ (k : Nat) (f : Fl), atX fs n = k ∧ fs[k]? = some f ∧ f.n = n := by
  unfold atX at h ⊢
  cases hf : fs.findIdx? (fun f => f.n == n) with
  | none => rw [hf] at h; simp at h
  | some k =>
    rw [List.findIdx?_eq_some_iff_getElem] at hf
    obtain ⟨hk, h1, _⟩ := hf
    exact ⟨k, fs[k], rfl, List.getElem?_eq_getElem hk, by simpa using h1⟩
theorem atX_none {fs : List Fl} {n : Int} : atX fs n < 0 ↔ flOf fs n = none := by
  unfold atX flOf
  cases hf : fs.findIdx? (fun f => f.n == n) with
  | none =>
    rw [List.findIdx?_eq_none_iff] at hf
    simp only [List.find?_eq_none]
    constructor
    · intro _ f hm; have := hf f hm; simpa using this
    · intro _; omega
  | some k =>
    rw [List.findIdx?_eq_some_iff_getElem] at hf
    obtain ⟨hk, h1, _⟩ := hf
    constructor
    · intro h; exact absurd h (by show ¬ ((k : Int) < 0); omega)
    · intro h
      rw [List.find?_eq_none] at h
      exact absurd h1 (by simpa using h fs[k] (List.getElem_mem hk))
theorem flOf_at {fs : List Fl} {n : Int} {k : Nat} {f : Fl} (hd : (fs.map Fl.n).Nodup) (hf : fs[k]? = some f) (hn : f.n = n) : flOf fs n = some f := by
  cases h : flOf fs n with
  | none =>
    unfold flOf at h
    rw [List.find?_eq_none] at h
    exact absurd hn (by simpa using h f (List.mem_of_getElem? hf))
  | some g =>
    obtain ⟨h1, h2⟩ := flOf_mem h
    obtain ⟨j, hj, rfl⟩ := List.getElem_of_mem h1
    have : j = k := by
      obtain ⟨hk, rfl⟩ := List.getElem?_eq_some_iff.1 hf
      have e : (fs.map Fl.n)[j]'(by simpa using hj) = (fs.map Fl.n)[k]'(by simpa using hk) := by simp [h2, hn]
      exact (List.getElem_inj hd).1 e
    subst this
    rw [List.getElem?_eq_getElem hj] at hf
    exact hf
section
variable {B : Nat} {w : World} {x : Nat} {vF vL : Value} {X : Xd}
theorem info_u8D : (Try.prog.info? 5).map (fun i => (i.zero, i.size, i.bytes)) = some (some (.int .u8 0), 1, 1) := by kernel_rfl
theorem info_sliceD : (Try.prog.info? 31).map (fun i => (i.zero, i.size, i.bytes)) = some (some (.slice none 0 0), 1, 24) := by kernel_rfl
theorem news_slice {w : World} {H : Nat} {v : Value} (h : w.heap[H]? = some (Obj.cells #[v] 31 (0, 0))) : ∀ (j : Nat) (u : Value), [v][j]? = some u → w.cell? ((⟨H, 0, none⟩ : Addr).add j) = some u := fun j u hu => by
  match j, hu with
  | 0, hu => simp at hu; subst hu; simp [World.cell?, Addr.add, h]
def RAppEnd (B : Nat) (w : World) (x : Nat) (vF : Value) (X : Xd) (n : Int) (q : List Int) (e : Ending) (w' : World) : Prop :=
  ∃ (r : Int) (X' : Xd) (vL' : Value), e = .returned (.int .i64 r) ∧ XdAt B w' x vF vL' X' ∧ Xg B w w' ∧
    (if q.length ≠ 256 then r = 1 ∧ X' = X
    else if (flOf X.fs n).isNone then r = 4 ∧ X' = X
    else if X.room ≤ X.us then r = 2 ∧ X' = X
    else if X.deeds + 1 ∈ X.fa then r = 50 ∧ X' = { X with deeds := X.deeds + 1 }
    else r = 0 ∧ ∃ v, X' = { X with deeds := X.deeds + 1, fs := setF X.fs n v q, wr := X.wr + 1, us := X.us + 1, pk := max X.pk (X.us + 1) })
theorem addr_addD (b o j : Nat) : (⟨b, o, none⟩ : Addr).add j = ⟨b, o + j, none⟩ := by unfold Addr.add; split <;> simp_all
set_option maxRecDepth 100000 in
set_option maxHeartbeats 8000000 in
theorem rappend_any (h : XdAt B w x vF vL X) (n : Int) (q : List Int) (A : Option Addr) (c : Nat) (hq : q.length = 256 → BytesIn B w A q) (hql : q.length ≤ 9223372036854775807) (hd : X.deeds < 1000000000000) (hwr : X.wr < 1000000000000) (hus : 0 ≤ X.us ∧ X.us ≤ 16384) (hpl : X.us < X.room → ∀ f ∈ X.fs, f.ps.length + 1 ≤ 16384) :
    Calls Try.prog 19 #[.pointer (some ⟨x, 0, none⟩), .int .i64 n, .slice A q.length c] w (RAppEnd B w x vF X n q) := by
  have HA := Lib.hid (at_any h n)
  have HX := Lib.hid h
  obtain ⟨M, hM⟩ : ∃ M, M = q.length := ⟨_, rfl⟩
  rw [← hM] at hq hql ⊢
  have HM := Lib.hid hM
  have HQ := Lib.hid hq
  have HU := Lib.hid hus
  have HPl0 := Lib.hid hpl
  clear hpl
  have HD := Lib.hid (And.intro hd hwr)
  obtain ⟨I, hI⟩ : ∃ I, I = atX X.fs n := ⟨_, rfl⟩
  rw [← hI] at HA
  have HI := Lib.hid hI
  clear hM hq h hd hwr hus hI
  go_enter Try.func19, Try.ntmps19
  go_wp2_with fail
  refine HA.out.mono ?_
  rintro e w1 ⟨rfl, rfl⟩
  by_cases h256 : M = 256
  · subst h256
    by_cases hI0 : I < 0
    · go_wp2_with fail
      go_ret
      refine ⟨4, X, vL, rfl, HX.out, Xg.refl _ _, ?_⟩
      rw [if_neg (by rw [← HM.out]; decide), if_pos (by rw [atX_none.1 (by rw [← HI.out]; exact hI0)]; rfl)]
      exact ⟨rfl, rfl⟩
    · obtain ⟨k, f, hk, hf, hfn⟩ := atX_some (fs := X.fs) (n := n) (by rw [← HI.out]; omega)
      have hIk : I = (k : Int) := by rw [HI.out, hk]
      subst hIk
      have HF := Lib.hid (And.intro hf (And.intro hfn (flOf_at (List.Pairwise.imp (fun h e => by omega) HX.out.nums) hf hfn)))
      have c0 := (HX.out.kept (Below.drew (Below.refl _ _))).c0
      have c7 := (HX.out.kept (Below.drew (Below.refl _ _))).c7
      generalize hR : X.room = R at c0
      generalize hU : X.us = u at c7
      have HRU := Lib.hid (And.intro hR hU)
      clear hk hf hfn hR hU
      have HXd := Lib.hid (HX.out.kept (Below.drew (Below.refl _ _)))
      by_cases hfull : R ≤ u
      · go_wp2_with fail
        go_region
        all_goals
          go_wp2_with fail
          go_ret
          refine ⟨2, X, vL, rfl, HXd.out, Xg.of_below HX.out.lt (Below.drew (Below.refl _ _)), ?_⟩
          rw [if_neg (by rw [← HM.out]; decide), if_neg (by rw [HF.out.2.2]; simp), if_pos (by rw [HRU.out.1, HRU.out.2]; exact hfull)]
          exact ⟨rfl, rfl⟩
      · have hfb : decide (R ≤ u) = false := decide_eq_false hfull
        go_wp2_with fail
        go_region
        all_goals
          have HG1 := Lib.hid (Xg.of_below HX.out.lt (Below.drew (Below.refl _ _)))
          go_wp2_with fail
          refine (rdeed_any HXd.out HD.out.1).mono ?_
          rintro e w2 ⟨rfl, hx2, hg2⟩
          have HX2 := Lib.hid hx2
          have HG2 := Lib.hid (HG1.out.trans hg2)
          clear hx2 hg2 c0 c7
          by_cases hfa : X.deeds + 1 ∈ X.fa
          · rw [decide_eq_true hfa]
            go_wp2_with fail
            go_ret
            refine ⟨50, _, vL, rfl, HX2.out, HG2.out, ?_⟩
            rw [if_neg (by rw [← HM.out]; decide), if_neg (by rw [HF.out.2.2]; simp), if_neg (by rw [HRU.out.1, HRU.out.2]; omega), if_pos hfa]
            exact ⟨rfl, rfl⟩
          · rw [decide_eq_false hfa]
            go_upto_region 10 with fail
            have HPl := Lib.hid (HPl0.out (by rw [HRU.out.1, HRU.out.2]; omega))
            clear HX HA HI HXd HG1 hfb HPl0
            go_cut [] (fun wx => ∃ v, Hid (XdAt B wx x vF vL { X with deeds := X.deeds + 1, fs := setF X.fs n v q }) ∧ Hid (Xg B w wx))
            case first =>
              obtain ⟨hfk, hfn⟩ := List.getElem?_eq_some_iff.1 HF.out.1
              obtain ⟨gL, cL, hvL, hcL, hz9, hgB, hcn, hcP⟩ := HX2.out.file hfk
              simp only at hvL hcP hcL
              rw [hfn] at hcP
              clear hz9 hcn
              obtain ⟨pvs, hpo, hpb⟩ := HX2.out.pgs f (List.mem_of_getElem? HF.out.1)
              obtain ⟨Ap, cp, hfv⟩ := own_sliceD hpo
              obtain ⟨N, hN⟩ : ∃ N, N = X.fs.length := ⟨_, rfl⟩
              obtain ⟨Np, hNp⟩ : ∃ Np, Np = f.ps.length := ⟨_, rfl⟩
              rw [← hN] at hvL hcL
              rw [← hNp] at hfv
              have hkN : k < N := by rw [hN]; exact hfk
              have hkNi : (k : Int) < (N : Int) := by omega
              have hk0 : (0 : Int) ≤ (k : Int) := Int.natCast_nonneg _
              have hNl : N ≤ 32768 := by have := HX2.out.len.1; simp only at this; omega
              have hNp2 : Np + 1 ≤ 16384 := by have := HPl.out f (List.mem_of_getElem? HF.out.1); omega
              have c2 := HX2.out.c2
              rw [hvL] at c2
              rw [hfv] at hcP
              have hpo2 : w2.ownsRow B 31 1 (.slice Ap Np cp) Np pvs := by rw [← hfv, hNp]; exact hpo
              obtain ⟨H, hH⟩ : ∃ H, H = w2.heap.size := ⟨_, rfl⟩
              have hxl : x < H := by rw [hH]; exact block_ltD HX2.out.box
              have hgl : gL < H := by rw [hH]; have := HX2.out.ofs; rw [hvL] at this; exact (this.lt gL rfl).2
              have HFacts := Lib.hid (And.intro hvL (And.intro hfv (And.intro hN (And.intro hNp (And.intro hpo hpb)))))
              obtain ⟨i0, hi, hz0, hz1, hz2⟩ := info_parts info_u8D
              obtain ⟨i1, hj, hy0, hy1, hy2⟩ := info_parts info_sliceD
              have hown0 : (w2.alloc (.cells #[] 5)).drew.ownsRow H 5 1 (.slice (some ⟨H, 0, none⟩) 0 0) 0 [] := ⟨rfl, .inr ⟨H, 0, #[], rfl, Nat.le_refl _, by rw [hH]; exact (MapKept.heap_alloc w2 _).1, Nat.le_refl _, Nat.zero_le _, rfl, rfl⟩⟩
              have d2 : w2.drew.cell? ⟨x, 2, none⟩ = some (.slice (some ⟨gL, 0, none⟩) N cL) := c2
              have dP : w2.drew.cell? ⟨gL, k * 2 + 1, none⟩ = some (.slice Ap Np cp) := hcP
              have hE : Below H w2 (w2.alloc (.cells #[] 5)).drew := by rw [hH]; exact Below.drew (ba w2 _)
              have e2 := (hE.cell (p := ⟨x, 2, none⟩) hxl).trans c2
              have eP := (hE.cell (p := ⟨gL, k * 2 + 1, none⟩) hgl).trans hcP
              have hBH : B ≤ H := by rw [hH]; exact HX2.out.lt
              obtain ⟨b, o, hA, hbytes⟩ := HQ.out trivial
              subst hA
              have HBy := Lib.hid (show ∀ (j : Nat) (u : Value), (q.map (Value.int .u8))[j]? = some u → (w2.alloc (.cells #[] 5)).drew.cell? ((⟨b, o, none⟩ : Addr).add j) = some u from fun j u hu => by
                have := hbytes _ (HG2.out.below.trans (hE.mono hBH)) j u hu
                rw [addr_addD]
                exact this)
              have HK3 := Lib.hid (show ∀ w3, (w2.alloc (.cells #[] 5)).drew.grownBy w3 (some H) → Below H w2 w3 from fun w3 hg => hE.trans ((Below.refl H _).grown hg (by rw [hH]; simp) (fun k hk => by cases hk; exact Nat.le_refl _)))
              have HKc := Lib.hid (show ∀ w3, Below H w2 w3 → w3.cell? ⟨x, 2, none⟩ = some (.slice (some ⟨gL, 0, none⟩) N cL) ∧ w3.cell? ⟨gL, k * 2 + 1, none⟩ = some (.slice Ap Np cp) from fun w3 hb => ⟨(hb.cell (p := ⟨x, 2, none⟩) hxl).trans c2, (hb.cell (p := ⟨gL, k * 2 + 1, none⟩) hgl).trans hcP⟩)
              have HKo := Lib.hid (show ∀ w3, Below H w2 w3 → w3.ownsRow B 31 1 (.slice Ap Np cp) Np pvs from fun w3 hb => ownsRow_same hpo2 fun i hi => hb.block i (by rw [hH]; exact (hpo2.lt i hi).2))
              have HKs := Lib.hid (show ∀ w3, Below H w2 w3 → H ≤ w3.heap.size from fun w3 hb => by rw [hH]; exact hb.size)
              obtain ⟨csL, hcsL⟩ : ∃ cs, w2.heap[gL]? = some (Obj.cells cs 60 (0, 0)) := by have := HX2.out.ofs; rw [hvL] at this; exact own_cells this rfl
              have HK5 := Lib.hid (show ∀ w4 w5, Below H w2 w4 → w4.grownBy w5 (Value.slice Ap Np cp).ownBlock → w5.cell? ⟨gL, k * 2 + 1, none⟩ = some (.slice Ap Np cp) ∧ w5.frozen? ⟨gL, k * 2 + 1, none⟩ = false ∧ w5.cell? ⟨x, 2, none⟩ = some (.slice (some ⟨gL, 0, none⟩) N cL) from fun w4 w5 hb hg => by
                have h1 : w5.heap[gL]? = w2.heap[gL]? := (hg.block gL (Nat.lt_of_lt_of_le hgl (by rw [hH]; exact hb.size)) (fun e => by
                  obtain ⟨cs', hcs'⟩ := own_cells hpo2 e.symm
                  rw [hcsL] at hcs'
                  simp only [Option.some.injEq, Obj.cells.injEq] at hcs'
                  exact absurd hcs'.2.1 (by decide))).trans (hb.block gL hgl)
                have h2 : w5.heap[x]? = w2.heap[x]? := (hg.block x (Nat.lt_of_lt_of_le hxl (by rw [hH]; exact hb.size)) (fun e => HX2.out.own_ne hpo2 (by decide) e.symm rfl)).trans (hb.block x hxl)
                exact ⟨(World.cell?_of_block (a := ⟨gL, k * 2 + 1, none⟩) h1).trans hcP, by simp [World.frozen?, h1, hcsL], (World.cell?_of_block (a := ⟨x, 2, none⟩) h2).trans c2⟩)
              clear hcsL
              have HO0 := Lib.hid hown0
              have HE := Lib.hid hE
              have HBd := Lib.hid (And.intro hNp2 hBH)
              have hql2 : (q.map (Value.int .u8)).length = 256 * 1 := by rw [List.length_map, ← HM.out]
              have HQl := Lib.hid hql2
              have HQ1 := Lib.hid (show ∀ u ∈ q.map (Value.int .u8), u.oneCell' = true from fun u hu => by obtain ⟨y, _, rfl⟩ := List.mem_map.1 hu; rfl)
              have HHs := Lib.hid hH
              clear hown0 hE hbytes hpo hpb hpo2 hcL hNp2 hBH hvL hN hNp hfv hql2 hNl hfk hfn hql hgB hI0
              subst hH
              go_region_law (first
                | (refine step_append_lies _ (by rfl) (.tmp 46) (.tmp 47) 31 (by rfl) w2.heap.size 5 i0 (.int .u8 0) 1 1 Try.underlying31 hi hz0 hz1 hz2 (by rfl) (by decide) _ _ _ (by rfl) HO0.out ⟨b, o, none⟩ 256 c (q.map (Value.int .u8)) (by rfl) HQl.out HBy.out HQ1.out (by decide) (by decide) (by decide) (by simp) _ (by rfl) ?_; intro g1 cap1 w3 hown3 hg3 hgg3 hs3; have hb3 := HK3.out w3 hg3; obtain ⟨k32, k3P⟩ := HKc.out w3 hb3; have hb4 := hb3.trans ((ba w3 (.cells #[.slice (some ⟨g1, 0, none⟩) 256 cap1] 31)).mono (HKs.out w3 hb3)); obtain ⟨k42, k4P⟩ := HKc.out _ hb4; have HO4 := Lib.hid (HKo.out _ hb4); have hnb4 := (MapKept.heap_alloc w3 (.cells #[.slice (some ⟨g1, 0, none⟩) 256 cap1] 31)).1; have HN4 := Lib.hid (news_slice hnb4); have HS4 := Lib.hid (HKs.out _ hb4))
                | (refine step_append_lies _ (by rfl) (.tmp 45) (.tmp 49) 58 (by rfl) B 31 i1 (.slice none 0 0) 1 24 Try.underlying58 hj hy0 hy1 hy2 (by rfl) (by decide) _ _ _ (by rfl) HO4.out ⟨w3.heap.size, 0, none⟩ 1 1 [.slice (some ⟨g1, 0, none⟩) 256 cap1] (by rfl) (by rfl) HN4.out (fun u hu => by simp at hu; subst hu; rfl) (by decide) (by have := HBd.out.1; unfold maxLen; omega) (by have := HBd.out.1; omega) (Nat.le_trans HBd.out.2 HS4.out) _ (by rfl) ?_; intro g5 cap5 w5 hown5 hg5 hgg5 hs5; obtain ⟨k5P, f5P, k52⟩ := HK5.out _ _ hb4 hg5))
              all_goals
                have hfin := rapp_fin HX2.out HFacts.out.1 HFacts.out.2.1 HFacts.out.2.2.1 HFacts.out.2.2.2.1 HFacts.out.2.2.2.2.1 HFacts.out.2.2.2.2.2 HF.out.1 HF.out.2.1 HF.out.2.2 HM.out HBd.out.1 hb3 (by simpa using hown3) hown5 hg5 hgg5
                have HFin := Lib.hid (And.intro hfin.1 (HG2.out.trans hfin.2))
                clear hfin hown3 hg3 hgg3 hs3 hb3 k32 k3P hb4 k42 k4P HO4 hnb4 HN4 HS4 hown5 hg5 hgg5 hs5 k5P f5P k52 HK3 HKc HKo HKs HK5 HO0 HE HBy HFacts d2 dP e2 eP c2 hcP hi hz0 hz1 hz2 hj hy0 hy1 hy2
                go_wp2_with fail
                go_meet
                case rel => exact ⟨_, Lib.hid HFin.out.1, Lib.hid HFin.out.2⟩
            case rest =>
              obtain ⟨v, HX3, HG3⟩ := hcut
              clear HX2 HG2 HQ HPl
              obtain ⟨X3, hX3⟩ : ∃ X3 : Xd, X3 = { X with deeds := X.deeds + 1, fs := setF X.fs n v q } := ⟨_, rfl⟩
              rw [← hX3] at HX3
              have hw3 : X3.wr = X.wr := by rw [hX3]
              have hu3 : X3.us = X.us := by rw [hX3]
              have hp3 : X3.pk = X.pk := by rw [hX3]
              have HE3 := Lib.hid hX3
              clear hX3
              obtain ⟨wn, hwn⟩ : ∃ wn, wn = X.wr := ⟨_, rfl⟩
              obtain ⟨un, hun⟩ : ∃ un, un = X.us := ⟨_, rfl⟩
              obtain ⟨pn, hpn⟩ : ∃ pn, pn = X.pk := ⟨_, rfl⟩
              have hw0 : 0 ≤ wn := by rw [hwn, ← hw3]; exact HX3.out.pos.2.2.2
              have hw1 : wn < 1000000000000 := by rw [hwn]; exact HD.out.2
              have hu0 : 0 ≤ un ∧ un ≤ 16384 := by rw [hun]; exact HU.out
              have hu00 := hu0.1
              have hu01 := hu0.2
              have c6 := HX3.out.c6
              have f6 := HX3.out.fz 6
              rw [hw3, ← hwn] at c6
              have c7 := HX3.out.c7
              have f7 := HX3.out.fz 7
              rw [hu3, ← hun] at c7
              have s6 := HX3.out.set (X' := { X3 with wr := wn + 1 }) (i := 6) (n := wn + 1) (by rfl) rfl rfl (Int.le_refl _) ⟨HX3.out.pos.1, HX3.out.pos.2.1, HX3.out.pos.2.2.1, by show 0 ≤ wn + 1; omega⟩
              have s7 := s6.1.set (X' := { X3 with wr := wn + 1, us := un + 1 }) (i := 7) (n := un + 1) (by rfl) rfl rfl (Int.le_refl _) s6.1.pos
              have HS7 := Lib.hid (And.intro s7.1 ((HG3.out.trans s6.2).trans s7.2))
              have HW := Lib.hid (And.intro hw3 (And.intro hu3 (And.intro hp3 (And.intro hwn (And.intro hun hpn)))))
              clear s6 s7 hu0 hw3 hu3 hp3 hwn hun hpn HX3 HG3
              go_upto_region 13 with fail
              generalize (wc.setCell ⟨x, 6, none⟩ (.int .i64 (wn + 1))).setCell ⟨x, 7, none⟩ (.int .i64 (un + 1)) = W7 at HS7 ⊢
              clear c6 f6 c7 f7
              have c7 : W7.drew.cell? ⟨x, 7, none⟩ = some (.int .i64 (un + 1)) := HS7.out.1.c7
              have c8 : W7.drew.cell? ⟨x, 8, none⟩ = some (.int .i64 pn) := by
                have := HS7.out.1.c8
                simp only at this
                rw [HW.out.2.2.1, ← HW.out.2.2.2.2.2] at this
                exact this
              by_cases hpk : pn < un + 1
              · have hpkb : decide (pn < un + 1) = true := decide_eq_true hpk
                go_wp2_with fail
                go_region
                all_goals
                  have f8 : W7.drew.frozen? ⟨x, 8, none⟩ = false := HS7.out.1.fz 8
                  have s8 := (HS7.out.1.kept (Below.drew (Below.refl _ W7))).set (X' := { X3 with wr := wn + 1, us := un + 1, pk := un + 1 }) (i := 8) (n := un + 1) (by rfl) rfl rfl (Int.le_refl _) HS7.out.1.pos
                  have HS8 := Lib.hid (And.intro s8.1 ((HS7.out.2.trans (Xg.of_below HS7.out.1.lt (Below.drew (Below.refl _ W7)))).trans s8.2))
                  clear s8
                  go_wp2_with fail
                  go_ret
                  refine ⟨0, _, _, rfl, HS8.out.1, HS8.out.2, ?_⟩
                  rw [if_neg (by rw [← HM.out]; decide), if_neg (by rw [HF.out.2.2]; simp), if_neg (by rw [HRU.out.1, HRU.out.2]; omega), if_neg hfa]
                  refine ⟨rfl, v, ?_⟩
                  obtain ⟨w1, w2, w3, w4, w5, w6⟩ := HW.out
                  rw [show max X.pk (X.us + 1) = un + 1 by rw [← w5, ← w6]; omega, HE3.out, ← w4, ← w5]
              · have hpkb : decide (pn < un + 1) = false := decide_eq_false hpk
                go_region
                all_goals
                  have HS8 := Lib.hid (And.intro (HS7.out.1.kept (Below.drew (Below.refl _ W7))) (HS7.out.2.trans (Xg.of_below HS7.out.1.lt (Below.drew (Below.refl _ W7)))))
                  go_wp2_with fail
                  go_ret
                  refine ⟨0, _, _, rfl, HS8.out.1, HS8.out.2, ?_⟩
                  rw [if_neg (by rw [← HM.out]; decide), if_neg (by rw [HF.out.2.2]; simp), if_neg (by rw [HRU.out.1, HRU.out.2]; omega), if_neg hfa]
                  refine ⟨rfl, v, ?_⟩
                  obtain ⟨w1, w2, w3, w4, w5, w6⟩ := HW.out
                  rw [show max X.pk (X.us + 1) = X.pk by rw [← w5, ← w6]; omega, HE3.out, ← w4, ← w5]
  · have hne : ((M : Int) != 256) = true := by simp; omega
    go_wp2_with fail
    go_ret
    refine ⟨1, X, vL, rfl, HX.out, Xg.refl _ _, ?_⟩
    rw [if_pos (by rw [← HM.out]; exact h256)]
    exact ⟨rfl, rfl⟩
end
end Go.Proofs.Ythimgldohhaimab
