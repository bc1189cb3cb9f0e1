/-
  DiskDoes: the document's own Read.
-/
import Derived.Test.YthimgldohhaimabDr4a
import Derived.Deep.CutRange
namespace Go.Proofs.Ythimgldohhaimab
open Go.RowKit Go.Maps Go.Sort

theorem info_u8R : (Try.prog.info? 5).map (fun i => (i.zero, i.size, i.bytes)) = some (some (.int .u8 0), 1, 1) := by kernel_rfl
theorem atR_some {fs : List Fl} {n : Int} (h : 0 ≤ atX fs n) : ∃ (k : Nat) (f : Fl), atX fs n = k ∧ fs[k]? = some f ∧ f.n = n := by
  unfold atX at h ⊢
  cases hf : fs.findIdx? (fun f => f.n == n) with
  | none => rw [hf] at h; simp at h
  | some k =>
    rw [List.findIdx?_eq_some_iff_getElem] at hf
    obtain ⟨hk, h1, _⟩ := hf
    exact ⟨k, fs[k], rfl, List.getElem?_eq_getElem hk, by simpa using h1⟩
theorem atR_none {fs : List Fl} {n : Int} : atX fs n < 0 ↔ flOf fs n = none := by
  unfold atX flOf
  cases hf : fs.findIdx? (fun f => f.n == n) with
  | none =>
    rw [List.findIdx?_eq_none_iff] at hf
    simp only [List.find?_eq_none]
    constructor
    · intro _ f hm; have := hf f hm; simpa using this
    · intro _; omega
  | some k =>
    rw [List.findIdx?_eq_some_iff_getElem] at hf
    obtain ⟨hk, h1, _⟩ := hf
    constructor
    · intro h; exact absurd h (by show ¬ ((k : Int) < 0); omega)
    · intro h
      rw [List.find?_eq_none] at h
      exact absurd h1 (by simpa using h fs[k] (List.getElem_mem hk))
theorem flR_at {fs : List Fl} {n : Int} {k : Nat} {f : Fl} (hd : (fs.map Fl.n).Nodup) (hf : fs[k]? = some f) (hn : f.n = n) : flOf fs n = some f := by
  cases h : flOf fs n with
  | none =>
    unfold flOf at h
    rw [List.find?_eq_none] at h
    exact absurd hn (by simpa using h f (List.mem_of_getElem? hf))
  | some g =>
    obtain ⟨h1, h2⟩ := flOf_mem h
    obtain ⟨j, hj, rfl⟩ := List.getElem_of_mem h1
    have : j = k := by
      obtain ⟨hk, rfl⟩ := List.getElem?_eq_some_iff.1 hf
      have e : (fs.map Fl.n)[j]'(by simpa using hj) = (fs.map Fl.n)[k]'(by simpa using hk) := by simp [h2, hn]
      exact (List.getElem_inj hd).1 e
    subst this
    rw [List.getElem?_eq_getElem hj] at hf
    exact hf
def pagesX (X : Xd) (n : Int) : List (List Int) := match flOf X.fs n with | some f => f.ps | none => []
section
variable {B : Nat} {w : World} {x : Nat} {vF vL : Value} {X : Xd}
def RReadEnd (B : Nat) (w : World) (x : Nat) (vF vL : Value) (X : Xd) (n i : Int) (e : Ending) (w' : World) : Prop :=
  Xg B w w' ∧ (if i < 0 ∨ (pagesX X n).length ≤ i then e = .returned (.tuple #[.slice none 0 0, .int .i64 4]) ∧ XdAt B w' x vF vL X
  else if X.deeds + 1 ∈ X.fa then e = .returned (.tuple #[.slice none 0 0, .int .i64 50]) ∧ XdAt B w' x vF vL { X with deeds := X.deeds + 1 }
  else ∃ p v, (pagesX X n)[i.toNat]? = some p ∧ e = .returned (.tuple #[v, .int .i64 0]) ∧ w'.ownsRow w.heap.size 5 1 v 256 (p.map (Value.int .u8)) ∧ XdAt B w' x vF vL { X with deeds := X.deeds + 1, rd := X.rd + 1 })
set_option maxRecDepth 100000 in
set_option maxHeartbeats 8000000 in
theorem rread_any (h : XdAt B w x vF vL X) (n i : Int) (hd : X.deeds < 1000000000000) (hrd : X.rd < 1000000000000) :
    Calls Try.prog 20 #[.pointer (some ⟨x, 0, none⟩), .int .i64 n, .int .i64 i] w (RReadEnd B w x vF vL X n i) := by
  have HA := Lib.hid (at_any h n)
  have HX := Lib.hid h
  have HD := Lib.hid (And.intro hd hrd)
  obtain ⟨I, hI⟩ : ∃ I, I = atX X.fs n := ⟨_, rfl⟩
  rw [← hI] at HA
  have HI := Lib.hid hI
  clear h hd hrd hI
  go_enter Try.func20, Try.ntmps20
  go_wp2_with fail
  refine HA.out.mono ?_
  rintro e w1 ⟨rfl, rfl⟩
  by_cases hI0 : I < 0
  · have hP : pagesX X n = [] := by unfold pagesX; rw [atR_none.1 (by rw [← HI.out]; exact hI0)]
    have HP := Lib.hid hP
    clear hP
    go_wp2_with fail
    go_ret2
    refine ⟨Xg.refl _ _, ?_⟩
    rw [if_pos (by rw [HP.out]; simp; omega)]
    exact ⟨rfl, HX.out⟩
  · have hI0b : decide (I < 0) = false := decide_eq_false hI0
    by_cases hi0 : i < 0
    · go_wp2_with fail
      go_ret2
      refine ⟨Xg.refl _ _, ?_⟩
      rw [if_pos (.inl hi0)]
      exact ⟨rfl, HX.out⟩
    · have hi0b : decide (i < 0) = false := decide_eq_false hi0
      obtain ⟨k, f, hk, hf, hfn⟩ := atR_some (fs := X.fs) (n := n) (by rw [← HI.out]; omega)
      have hIk : I = (k : Int) := by rw [HI.out, hk]
      subst hIk
      have hfl := flR_at (List.Pairwise.imp (fun h e => by omega) HX.out.nums) hf hfn
      have HP := Lib.hid (show pagesX X n = f.ps by unfold pagesX; rw [hfl])
      obtain ⟨hfk, hfe⟩ := List.getElem?_eq_some_iff.1 hf
      obtain ⟨gL, cL, hvL, hcL, hz9, hgB, hcn, hcP⟩ := HX.out.file hfk
      rw [hfe] at hcP
      obtain ⟨pvs, hpo, hpb⟩ := HX.out.pgs f (List.mem_of_getElem? hf)
      obtain ⟨Ap, cp, hfv⟩ := own_sliceD hpo
      obtain ⟨N, hN⟩ : ∃ N, N = X.fs.length := ⟨_, rfl⟩
      obtain ⟨Np, hNp⟩ : ∃ Np, Np = f.ps.length := ⟨_, rfl⟩
      rw [← hN] at hvL hcL
      rw [← hNp] at hfv
      have hkN : k < N := by rw [hN]; exact hfk
      have hkNi : (k : Int) < (N : Int) := by omega
      have hk0 : (0 : Int) ≤ (k : Int) := Int.natCast_nonneg _
      have c2 := HX.out.c2
      rw [hvL] at c2
      rw [hfv] at hcP
      have HFm := Lib.hid (List.mem_of_getElem? hf)
      have HFk := Lib.hid (And.intro hN hf)
      have HFv := Lib.hid (And.intro hfv (And.intro hvL hNp))
      have HPo := Lib.hid (And.intro hpo hpb)
      clear hz9 hcn hk hf hfn hfl hfk hfe hgB hcL hpo hpb hfv hvL hN
      by_cases hbig : (Np : Int) ≤ i
      · clear hNp
        go_wp2_with fail
        go_ret2
        refine ⟨Xg.refl _ _, ?_⟩
        rw [if_pos (.inr (by rw [HP.out, ← HFv.out.2.2]; exact hbig))]
        exact ⟨rfl, HX.out⟩
      · have hbigb : decide ((Np : Int) ≤ i) = false := decide_eq_false hbig
        have hnot : ¬ (i < 0 ∨ ((pagesX X n).length : Int) ≤ i) := by rw [HP.out, ← HFv.out.2.2]; omega
        have HNot := Lib.hid hnot
        clear hNp hnot
        go_wp2_with fail
        refine (rdeed_any HX.out HD.out.1).mono ?_
        rintro e w2 ⟨rfl, hx2, hg2⟩
        have HX2 := Lib.hid hx2
        have HG2 := Lib.hid hg2
        clear hx2 hg2 c2 hcP
        by_cases hfa : X.deeds + 1 ∈ X.fa
        · rw [decide_eq_true hfa]
          go_wp2_with fail
          go_ret2
          refine ⟨HG2.out, ?_⟩
          rw [if_neg HNot.out, if_pos hfa]
          exact ⟨rfl, HX2.out⟩
        · rw [decide_eq_false hfa]
          have HFa := Lib.hid hfa
          have c5 := HX2.out.c5
          have f5 := HX2.out.fz 5
          have hset := HX2.out.set (X' := { X with deeds := X.deeds + 1, rd := X.rd + 1 }) (i := 5) (n := X.rd + 1) (by rfl) rfl rfl (Int.le_refl _) ⟨HX2.out.pos.1, HX2.out.pos.2.1, by have := HX2.out.pos.2.2.1; simp only at this; show 0 ≤ X.rd + 1; omega, HX2.out.pos.2.2.2⟩
          have HS := Lib.hid hset
          have hr0 := HX2.out.pos.2.2.1
          have hr1 := HD.out.2
          simp only at c5 hr0
          obtain ⟨D, hD⟩ : ∃ D, D = X.rd := ⟨_, rfl⟩
          rw [← hD] at c5 hr0 hr1
          have HDD := Lib.hid hD
          clear hset hD hfa
          go_upto_region 7 with fail
          rw [← HDD.out] at HS
          generalize w2.setCell ⟨x, 5, none⟩ (.int .i64 (D + 1)) = W at HS ⊢
          clear c5 f5 HA HX2
          obtain ⟨j, rfl⟩ : ∃ j : Nat, i = (j : Int) := ⟨i.toNat, by omega⟩
          have hjN : j < Np := by omega
          have hba := ba W (.cells #[] 5)
          have hxe := HS.out.1.kept hba
          obtain ⟨hfk, hfe⟩ := List.getElem?_eq_some_iff.1 HFk.out.2
          obtain ⟨gL', cL', hv', hz5, hz6, hz7, hz8, eP⟩ := hxe.file hfk
          clear hz5 hz6 hz7 hz8
          simp only at hv' eP
          rw [hfe, HFv.out.1] at eP
          have hgg : gL' = gL ∧ cL' = cL := by
            have := HFv.out.2.1
            rw [hv'] at this
            simp only [Value.slice.injEq, Option.some.injEq, Addr.mk.injEq] at this
            exact ⟨this.1.1, this.2.2⟩
          rw [hgg.1] at eP
          have e2 := hxe.c2
          rw [HFv.out.2.1] at e2
          obtain ⟨pvs2, o1, o2⟩ := hxe.pgs f HFm.out
          obtain ⟨gP, cP, hvP, hcP, _, _, hcells⟩ := own_cellN o1 (by rw [← HFv.out.2.2]; omega)
          have hAp : Ap = some ⟨gP, 0, none⟩ := by
            have := HFv.out.1
            rw [hvP] at this
            simp only [Value.slice.injEq] at this
            exact this.1.symm
          subst hAp
          have hpl : pvs2.length = Np := by have := o1.1; rw [HFv.out.2.2]; omega
          have hj1 : j < pvs2.length := by omega
          have hj2 : j < f.ps.length := by rw [← HFv.out.2.2]; exact hjN
          have ePg := hcells j _ (List.getElem?_eq_getElem hj1)
          have hb := o2 j _ _ (List.getElem?_eq_getElem hj1) (List.getElem?_eq_getElem hj2)
          have h256 := (HX.out.len.2.2 f HFm.out).2 _ (List.getElem_mem hj2)
          have HPj := Lib.hid (show (pagesX X n)[(j : Int).toNat]? = some f.ps[j] by rw [HP.out]; exact List.getElem?_eq_getElem hj2)
          generalize pvs2[j] = pv at ePg hb
          generalize f.ps[j] = p at hb h256 HPj
          rw [h256] at hb
          obtain ⟨gp, cpp, hpv, _, _, _, hbc⟩ := own_cellN hb (by decide)
          subst hpv
          obtain ⟨i0, hi, hz0, hz1, hz2⟩ := info_parts info_u8R
          have hown0 : (W.alloc (.cells #[] 5)).ownsRow W.heap.size 5 1 (.slice (some ⟨W.heap.size, 0, none⟩) 0 0) 0 [] := ⟨rfl, .inr ⟨W.heap.size, 0, #[], rfl, Nat.le_refl _, (MapKept.heap_alloc W _).1, Nat.le_refl _, Nat.zero_le _, rfl, rfl⟩⟩
          have HBc := Lib.hid (show ∀ (j' : Nat) (u : Value), (p.map (Value.int .u8))[j']? = some u → (W.alloc (.cells #[] 5)).cell? ((⟨gp, 0, none⟩ : Addr).add j') = some u from fun j' u hu => by
            rw [show (⟨gp, 0, none⟩ : Addr).add j' = ⟨gp, j', none⟩ by unfold Addr.add; split <;> simp_all]
            exact hbc j' u hu)
          have HPl := Lib.hid (show (p.map (Value.int .u8)).length = 256 * 1 by rw [List.length_map, h256])
          have HP1 := Lib.hid (show ∀ u ∈ p.map (Value.int .u8), u.oneCell' = true from fun u hu => by obtain ⟨y, _, rfl⟩ := List.mem_map.1 hu; rfl)
          have hjNi : (j : Int) < (Np : Int) := by omega
          have hj0 : (0 : Int) ≤ (j : Int) := Int.natCast_nonneg _
          have HO0 := Lib.hid hown0
          clear hown0 hbc hb hcells o1 o2 hxe hv' hgg hvP hcP hpl hj1 hj2 h256 hba hfk hfe hi0 hi0b hI0 hI0b hbig hbigb
          go_wp2_with (at_builtin; refine wpList_append_own _ rfl (.tmp 43) (.tmp 54) 31 rfl W.heap.size 5 i0 (.int .u8 0) 1 1 Try.underlying31 hi hz0 hz1 hz2 rfl (by decide) _ _ _ rfl HO0.out ⟨gp, 0, none⟩ 256 cpp (p.map (Value.int .u8)) rfl HPl.out HBc.out HP1.out (by decide) (by decide) (by simp) ?_)
          intro v' w5 hown5 hg5 _
          have hb5 : Below W.heap.size W w5 := ((Below.refl _ W).alloc (Nat.le_refl _) _).grown hg5 (by simp) (fun i hi => by simp [Value.ownBlock] at hi; omega)
          have HX5 := Lib.hid (HS.out.1.kept hb5)
          have HG5 := Lib.hid ((HG2.out.trans HS.out.2).trans (Xg.of_below HS.out.1.lt hb5))
          have HO5 := Lib.hid (show w5.ownsRow w.heap.size 5 1 v' 256 (p.map (Value.int .u8)) by
            have h5 : w5.ownsRow W.heap.size 5 1 v' 256 (p.map (Value.int .u8)) := by simpa using hown5
            refine ⟨h5.1, ?_⟩
            rcases h5.2 with h6 | ⟨g', cp', cur, h6, h7, h8⟩
            · exact .inl h6
            · exact .inr ⟨g', cp', cur, h6, Nat.le_trans (HG2.out.trans HS.out.2).below.size h7, h8⟩)
          obtain ⟨A5, c5, rfl⟩ := own_sliceD HO5.out
          clear hown5 hg5 hb5
          go_wp2_with fail
          go_ret2
          refine ⟨HG5.out, ?_⟩
          rw [if_neg HNot.out, if_neg HFa.out]
          exact ⟨p, _, HPj.out, rfl, HO5.out, by rw [← HDD.out]; exact HX5.out⟩
end
end Go.Proofs.Ythimgldohhaimab
