/-
  DiskDoes: do both tell the same (alike): its walk.
-/
import Derived.Test.YthimgldohhaimabDrc
namespace Go.Proofs.Ythimgldohhaimab
open Go.RowKit Go.Maps Go.Sort

section
variable {w : World} {B l mf ms x : Nat} {j : Int}
set_option maxRecDepth 100000 in
set_option maxHeartbeats 8000000 in
theorem alike_any (h : Two B w l mf ms x j) (hj : j < 1000000000000) (n : Int) (hw : (Lit.int .i64 n).wf = true) :
    Calls Try.prog 8 #[.pointer (some ⟨l, 0, none⟩), .pointer (some ⟨x, 0, none⟩), .int .i64 n] w fun e w' => e = .returned (.bool true) ∧ Below w.heap.size w w' := by
  obtain ⟨d, X, vF, vL, hd, hx, hs⟩ := h.ex
  have HS := Lib.hid hs
  have HD := Lib.hid hd
  have HX := Lib.hid hx
  have HJ := Lib.hid hj
  have HW := Lib.hid hw
  clear h hd hx hs hj hw
  go_enter Try.func8, Try.ntmps8
  go_wp2_with fail
  refine (files_any B l mf ms d w HD.out).mono ?_
  rintro e w1 ⟨⟨v, ys, rfl, hp, hy, ho⟩, hb⟩
  obtain ⟨A, c, rfl, hal⟩ := al_start HD.out HX.out HS.out hp hy ho hb
  have HA := Lib.hid (hal.kept (Below.drew (Below.refl _ _)))
  clear hp hy ho hb hal
  obtain ⟨AL, cL, hvL⟩ := own_sliceD HX.out.ofs
  subst hvL
  obtain ⟨N, hN⟩ : ∃ N, N = X.fs.length := ⟨_, rfl⟩
  have hNl : N ≤ 32768 := by rw [hN]; exact HX.out.len.1
  rw [← hN] at HA HX ⊢
  have HN := Lib.hid hN
  clear hN
  go_wp2_with fail
  have x1 := HA.out.s
  unfold AlS at x1
  go_region_held3 (fun w' => w'.cell? ⟨x, 2, none⟩ = some (.slice AL N cL) ∧ w'.cell? ⟨x, 4, none⟩ = some (.int .i64 X.deeds) ∧ w'.cell? ⟨x, 5, none⟩ = some (.int .i64 X.rd) ∧ w'.cell? ⟨x, 6, none⟩ = some (.int .i64 X.wr) ∧ w'.cell? ⟨x, 7, none⟩ = some (.int .i64 X.us) ∧ w'.cell? ⟨x, 8, none⟩ = some (.int .i64 X.pk))
    (first
      | exact x1
      | exact x2
      | exact x3)
    (first
      | (go_at_call 14; refine (al_meter (by assumption) HS).mono ?_; rintro e w2 ⟨rfl, hp1, x2⟩)
      | (go_at_call 16; refine (al_deeds (by assumption) HS).mono ?_; rintro e w3 ⟨rfl, hp2, x3⟩))
  clear x1 x2 x3 hp1 HA
  go_wp2_with fail
  go_loopw [8] (fun v wr => ∃ k : Nat, v = .int .i64 k ∧ k ≤ N ∧ Hid (Al w wr B l mf ms x vF (.slice AL N cL) d X A c)) (fun v _ => N - (intOf v).toNat)
  case atStart => exact ⟨0, rfl, Nat.zero_le _, hp2⟩
  case round =>
    obtain ⟨k, rfl, hk, HA⟩ := hrel
    by_cases hlt : k < N
    · have hk2 : k < X.fs.length := by rw [← HN.out]; exact hlt
      have hlti : (k : Int) < (N : Int) := by omega
      obtain ⟨gL, capL, hv, hcL, hmL, _, d0, d1⟩ := HA.out.hX.file hk2
      obtain ⟨b, hAb, e0⟩ := HA.out.at (List.getElem?_eq_getElem hk2)
      have hAL : AL = some ⟨gL, 0, none⟩ := by
        simp only [Value.slice.injEq] at hv
        exact hv.1
      subst hAL
      subst hAb
      have hm := List.getElem_mem hk2
      have HFl := Lib.hid (flR_at (n := (X.fs[k]).n) (List.Pairwise.imp (fun h e => by omega) HX.out.nums) (List.getElem?_eq_getElem hk2) rfl)
      obtain ⟨pvs, hpo, hpb⟩ := HX.out.pgs _ hm
      clear hpb
      have hnum := HX.out.num _ hm
      generalize X.fs[k] = f at d0 d1 e0 hm HFl hpo hnum
      obtain ⟨Ap, cp, hfv⟩ := own_sliceD hpo
      have HWf := Lib.hid (show (Lit.int .i64 f.n).wf = true by
        have h1 := HS.out.made
        have h2 := HS.out.cnt.1
        have h3 := HJ.out
        simp [Lit.wf, IntKind.min, IntKind.max, IntKind.signed, IntKind.bits]
        omega)
      rw [hfv] at d1
      clear hpo hnum hm hv hcL hmL hk2
      have c2 := HA.out.hX.c2
      go_wp2_with fail
      refine (al_size HA HS HFl.out HWf.out).mono ?_
      rintro e w4 ⟨rfl, rfl⟩
      obtain ⟨Np, hNp⟩ : ∃ Np, Np = f.ps.length := ⟨_, rfl⟩
      obtain ⟨fn, hfn⟩ : ∃ fn, fn = f.n := ⟨_, rfl⟩
      rw [← hNp] at d1 ⊢
      rw [← hfn] at d0 e0 ⊢
      clear hfv hNp hfn
      have HAd := Lib.hid (HA.out.kept (Below.drew (Below.refl _ _)))
      go_wp2_with fail
      go_region
      all_goals
        go_wp2_with fail
        go_roundw
        case rel => exact ⟨k + 1, by go_num, hlt, HAd⟩
        case measure => simp [intOf]; omega
    · have hkN : k = N := by omega
      subst hkN
      obtain ⟨I, hI⟩ : ∃ I, I = atX X.fs n := ⟨_, rfl⟩
      have HAt := Lib.hid (show Calls Try.prog 22 #[.pointer (some ⟨x, 0, none⟩), .int .i64 n] wr fun e w' => e = .returned (.int .i64 I) ∧ wr = w' by rw [hI]; exact at_any HA.out.hX n)
      cases hf : flOf X.fs n with
      | some f =>
        have hI0 : 0 ≤ I := by
          by_cases h0 : I < 0
          · rw [hI] at h0
            rw [atR_none.1 h0] at hf
            cases hf
          · omega
        have hIb : decide (0 ≤ I) = true := decide_eq_true hI0
        have hfn := (flOf_n hf).1
        subst hfn
        clear hI hIb
        go_wp2_with fail
        refine (al_size HA HS hf HW.out).mono ?_
        rintro e w4 ⟨rfl, rfl⟩
        generalize (f.ps.length : Int) = NP
        clear hf
        go_wp2_with fail
        refine HAt.out.mono ?_
        rintro e w4 ⟨rfl, rfl⟩
        go_wp2_with fail
        go_ret
        exact ⟨rfl, HA.out.below⟩
      | none =>
        have hI0 : I < 0 := by rw [hI]; exact atR_none.2 hf
        clear hI
        go_wp2_with fail
        refine (al_none HA HS hf HW.out).mono ?_
        rintro e w4 ⟨rfl, rfl⟩
        clear hf
        go_wp2_with fail
        refine HAt.out.mono ?_
        rintro e w4 ⟨rfl, rfl⟩
        go_wp2_with fail
        go_ret
        have hIb : decide (0 ≤ I) = false := decide_eq_false (by omega)
        exact ⟨by show Ending.returned (.bool (!decide (0 ≤ I))) = _; rw [hIb]; rfl, HA.out.below⟩
end
end Go.Proofs.Ythimgldohhaimab
