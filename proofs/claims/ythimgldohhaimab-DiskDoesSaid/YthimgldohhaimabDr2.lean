/-
  DiskDoes: the document's own At, deed, New.
-/
import Derived.Test.YthimgldohhaimabDr1
namespace Go.Proofs.Ythimgldohhaimab
open Go.RowKit Go.Maps Go.Sort

/-- A file's place among files; below 0: there is none. -/
def atX (fs : List Fl) (n : Int) : Int := match fs.findIdx? (fun f => f.n == n) with | some i => i | none => -1
theorem own_cellN {w : World} {base n size : Nat} {e : TypeId} {v : Value} {xs : List Value} (h : w.ownsRow base e size v n xs) (hn : 0 < n) : ∃ g cap, v = .slice (some ⟨g, 0, none⟩) n cap ∧ n ≤ cap ∧ cap ≤ maxLen ∧ base ≤ g ∧ ∀ (i : Nat) (u : Value), xs[i]? = some u → w.cell? ⟨g, i, none⟩ = some u := by
  have hl := h.1
  rcases h.2 with ⟨hv, h0⟩ | ⟨g, cap, cur, hv, hb, hg, h1, h2, _, ht⟩
  · omega
  · refine ⟨g, cap, hv, h1, h2, hb, fun i u hu => ?_⟩
    have hil : i < xs.length := (List.getElem?_eq_some_iff.1 hu).1
    rw [← ht, List.getElem?_take_of_lt (by omega), Array.getElem?_toList] at hu
    simp [World.cell?, hg, hu]
theorem own_sliceD {w : World} {base n : Nat} {e : TypeId} {v : Value} {xs : List Value} {sz : Nat} (h : w.ownsRow base e sz v n xs) : ∃ A c, v = .slice A n c := by
  rcases h.2 with ⟨hv, hn⟩ | ⟨g, cap, cur, hv, _⟩
  · exact ⟨none, 0, by rw [hv, hn]⟩
  · exact ⟨_, cap, hv⟩
section
variable {B : Nat} {w : World} {x : Nat} {vF vL : Value} {X : Xd}
/-- The files' list as it is read. -/
theorem XdAt.file (h : XdAt B w x vF vL X) {j : Nat} (hj : j < X.fs.length) : ∃ g cap, vL = .slice (some ⟨g, 0, none⟩) X.fs.length cap ∧ X.fs.length ≤ cap ∧ cap ≤ maxLen ∧ B ≤ g ∧ w.cell? ⟨g, j * 2, none⟩ = some (.int .i64 X.fs[j].n) ∧ w.cell? ⟨g, j * 2 + 1, none⟩ = some X.fs[j].v := by
  obtain ⟨g, cap, hv, h1, h2, h3, hc⟩ := own_cellN h.ofs (by omega)
  have := cellsF_at X.fs j _ (List.getElem?_eq_getElem hj)
  exact ⟨g, cap, hv, h1, h2, h3, hc _ _ this.1, hc _ _ this.2⟩
set_option maxRecDepth 100000 in
set_option maxHeartbeats 4000000 in
theorem at_any (h : XdAt B w x vF vL X) (n : Int) :
    Calls Try.prog 22 #[.pointer (some ⟨x, 0, none⟩), .int .i64 n] w fun e w' => e = .returned (.int .i64 (atX X.fs n)) ∧ w = w' := by
  obtain ⟨A, c, hvL⟩ := own_sliceD h.ofs
  have c2 := h.c2
  rw [hvL] at c2
  obtain ⟨N, hN⟩ : ∃ N, N = X.fs.length := ⟨_, rfl⟩
  have hNl : N ≤ 32768 := by rw [hN]; exact h.len.1
  rw [← hN] at c2
  have HN := Lib.hid hN
  have HH := Lib.hid h
  have HV := Lib.hid hvL
  clear h hN hvL
  go_enter Try.func22, Try.ntmps22
  go_wp2_with fail
  go_loopw [5] (fun v wr => ∃ j : Nat, v = .int .i64 j ∧ j ≤ N ∧ w = wr ∧ Hid (∀ f ∈ X.fs.take j, f.n ≠ n)) (fun v _ => N - (intOf v).toNat)
  case atStart => exact ⟨0, rfl, Nat.zero_le _, rfl, Lib.hid (by simp)⟩
  case round =>
    obtain ⟨j, rfl, hj, rfl, HF⟩ := hrel
    by_cases hlt : j < N
    · have hj2 : j < X.fs.length := by rw [← HN.out]; exact hlt
      obtain ⟨g, cap, hv, _, _, _, d0, _⟩ := HH.out.file hj2
      have hA : A = some ⟨g, 0, none⟩ := by
        have := HV.out
        rw [hv] at this
        simp only [Value.slice.injEq] at this
        exact this.1.symm
      subst hA
      have HE := Lib.hid (List.take_succ_eq_append_getElem hj2)
      have HI := Lib.hid (show (X.fs[j].n == n) = true → X.fs.findIdx? (fun f => f.n == n) = some j from fun hh => by
        rw [List.findIdx?_eq_some_iff_getElem]
        refine ⟨hj2, hh, fun k hk => ?_⟩
        have := HF.out X.fs[k] (List.mem_take_iff_getElem.2 ⟨k, by omega, by simp⟩)
        simpa using this)
      generalize X.fs[j] = f at d0 HE HI
      by_cases hn : f.n = n
      · have hnb : (f.n == n) = true := by simp [hn]
        go_wp2_with fail
        go_ret
        refine ⟨?_, rfl⟩
        unfold atX
        rw [HI.out (by simp [hn])]
        rfl
      · have hnb : (f.n == n) = false := by simp [hn]
        go_wp2_with fail
        go_roundw
        case rel => exact ⟨j + 1, by go_num, hlt, (by first | trivial | rfl), Lib.hid (by rw [HE.out]; intro f' hf'; rcases List.mem_append.1 hf' with h1 | h1; exact HF.out f' h1; simp at h1; rw [h1]; exact hn)⟩
        case measure => simp [intOf]; omega
    · have hjN : j = N := by omega
      subst hjN
      go_wp2_with fail
      go_ret
      refine ⟨?_, rfl⟩
      unfold atX
      have hnone : X.fs.findIdx? (fun f => f.n == n) = none := by
        rw [List.findIdx?_eq_none_iff]
        intro f hf
        have := HF.out f (by rw [HN.out, List.take_length]; exact hf)
        simpa using this
      rw [hnone]
      rfl
set_option maxRecDepth 100000 in
set_option maxHeartbeats 4000000 in
theorem rdeed_any (h : XdAt B w x vF vL X) (hd : X.deeds < 1000000000000) :
    Calls Try.prog 26 #[.pointer (some ⟨x, 0, none⟩)] w fun e w' => e = .returned (.bool (!decide (X.deeds + 1 ∈ X.fa))) ∧ XdAt B w' x vF vL { X with deeds := X.deeds + 1 } ∧ Xg B w w' := by
  obtain ⟨A, c, hvF⟩ := own_sliceD h.ofa
  have c4 := h.c4
  have f4 := h.fz 4
  have hset := h.set (X' := { X with deeds := X.deeds + 1 }) (i := 4) (n := X.deeds + 1) (by rfl) rfl rfl (Int.le_refl _) ⟨h.pos.1, by have := h.pos.2.1; show 0 ≤ X.deeds + 1; omega, h.pos.2.2⟩
  have hp := h.pos.2.1
  obtain ⟨D, hD⟩ : ∃ D, D = X.deeds := ⟨_, rfl⟩
  rw [← hD] at c4 hd hp
  have HS := Lib.hid hset
  have hfl := h.len.2.1
  obtain ⟨N, hN⟩ : ∃ N, N = X.fa.length := ⟨_, rfl⟩
  rw [← hN] at hfl
  have HN := Lib.hid hN
  have HD := Lib.hid hD
  have HV := Lib.hid hvF
  clear h hset hD hN hvF
  go_enter Try.func26, Try.ntmps26
  go_upto_region 2 with fail
  rw [← HD.out] at HS
  generalize w.setCell ⟨x, 4, none⟩ (.int .i64 (D + 1)) = W at HS ⊢
  clear c4 f4
  have HX := Lib.hid HS.out.1
  have HG := Lib.hid HS.out.2
  go_wp2_with fail
  go_loopw [3] (fun v wr => ∃ j : Nat, v = .int .i64 j ∧ j ≤ N ∧ Hid (XdAt B wr x vF vL { X with deeds := D + 1 }) ∧ Hid (Xg B w wr) ∧ Hid (D + 1 ∉ X.fa.take j)) (fun v _ => N - (intOf v).toNat)
  case atStart => exact ⟨0, rfl, Nat.zero_le _, HX, HG, Lib.hid (by simp)⟩
  case round =>
    clear HX HG HS
    obtain ⟨j, rfl, hj, HX, HG, HF⟩ := hrel
    have c1 := HX.out.c1
    rw [HV.out, ← HN.out] at c1
    by_cases hlt : j < N
    · have hj2 : j < X.fa.length := by rw [← HN.out]; exact hlt
      obtain ⟨g, cap, hv, _, _, _, hc⟩ := own_cellN HX.out.ofa (by show 0 < X.fa.length; omega)
      have hA : A = some ⟨g, 0, none⟩ := by
        have := HV.out
        rw [hv] at this
        simp only [Value.slice.injEq] at this
        exact this.1.symm
      subst hA
      have d0 := hc j (.int .i64 X.fa[j]) (by simp [List.getElem?_eq_getElem hj2])
      have c4 := HX.out.c4
      simp only at c4
      have HE := Lib.hid (List.take_succ_eq_append_getElem hj2)
      have HM := Lib.hid (List.getElem_mem hj2)
      generalize X.fa[j] = f at d0 HE HM
      have hi0 : (0 : Int) ≤ (j : Int) := Int.natCast_nonneg _
      have hi1 : (j : Int) < (N : Int) := by omega
      have hdr : Below wr.heap.size wr wr.drew := Below.drew (Below.refl _ _)
      have HX2 := Lib.hid (HX.out.kept hdr)
      have HG2 := Lib.hid (HG.out.trans (Xg.of_below HX.out.lt hdr))
      clear hc hv hdr
      by_cases hn : f = D + 1
      · subst hn
        go_wp2_with fail
        go_region
        all_goals
          go_wp2_with fail
          go_ret
          refine ⟨?_, ?_, HG2.out⟩
          · rw [← HD.out, decide_eq_true HM.out]; rfl
          · rw [← HD.out]; exact HX2.out
      · have hnb : (f == D + 1) = false := by simp [hn]
        go_wp2_with fail
        go_region
        all_goals
          go_wp2_with fail
          go_roundw
          case rel => exact ⟨j + 1, by go_num, hlt, HX2, HG2, Lib.hid (by rw [HE.out]; intro h1; rcases List.mem_append.1 h1 with h1 | h1; exact HF.out h1; simp at h1; exact hn h1.symm)⟩
          case measure => simp [intOf]; omega
    · have hjN : j = N := by omega
      subst hjN
      go_wp2_with fail
      go_ret
      refine ⟨?_, ?_, HG.out⟩
      · have := HF.out
        rw [HN.out, List.take_length] at this
        rw [← HD.out, decide_eq_false this]; rfl
      · rw [← HD.out]; exact HX.out
end
end Go.Proofs.Ythimgldohhaimab
