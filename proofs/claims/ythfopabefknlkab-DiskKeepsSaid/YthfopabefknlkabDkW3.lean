/-
  The walk of DiskKeeps.
-/
import Derived.Test.YthfopabefknlkabDkg
import Derived.Deep.RegionHeld3
namespace Go.Proofs.Ythfopabefknlkab
open Go.RowKit Go.Maps Go.Sort

set_option maxRecDepth 100000 in
set_option maxHeartbeats 2000000 in
theorem diskKeeps_out (A : Option Addr) (c : Nat) (xs : List Int) (n : Int) (w : World) (hl : xs.length ≤ 9223372036854775807) (hout : 300 < xs.length) :
    Calls Try.prog 5 #[.slice A xs.length c, .int .i64 n] w fun e w' => e = .returned (.bool true) ∧ Below w.heap.size w w' := by
  go_enter Try.func5, Try.ntmps5
  go_wp2_with fail
  refine (k_new w).mono ?_
  rintro e w1 ⟨⟨l, mf, ms, rfl, _⟩, hb1⟩
  have HB1 := Lib.hid hb1
  clear hb1
  go_wp2_with fail
  refine (lives5_yes w1).mono ?_
  rintro e w2 ⟨rfl, hb2⟩
  have HB2 := Lib.hid (bt HB1.out hb2)
  clear hb2
  go_wp2_with fail
  refine (lives5_yes w2).mono ?_
  rintro e w3 ⟨rfl, hb3⟩
  have HB3 := Lib.hid (bt HB2.out hb3)
  clear hb3
  go_wp2_with fail
  go_ret
  exact ⟨rfl, HB3.out⟩
set_option linter.unusedSimpArgs false in
set_option maxRecDepth 100000 in
set_option maxHeartbeats 16000000 in
theorem diskKeeps_in (A : Option Addr) (c : Nat) (xs : List Int) (n : Int) (w : World) (hA : NumsAt w A xs) (hwf : ∀ n ∈ xs, (Lit.int .i64 n).wf = true) (hl : xs.length ≤ 300) (hn : (Lit.int .i64 n).wf = true) :
    Calls Try.prog 5 #[.slice A xs.length c, .int .i64 n] w fun e w' => e = .returned (.bool true) ∧ Below w.heap.size w w' := by
  obtain ⟨i0, hi, hz0, hz1, hz2⟩ := info_parts info_intD
  have HA := Lib.hid hA
  have HW := Lib.hid hwf
  have HNn := Lib.hid hn
  clear hA hwf hn
  go_enter Try.func5, Try.ntmps5
  go_wp2_with fail
  refine (k_new w).mono ?_
  rintro e w1 ⟨⟨l, mf, ms, rfl, hd⟩, hb1⟩
  have HD1 := Lib.hid hd
  have HB1 := Lib.hid hb1
  clear hb1 hd
  go_wp2_with fail
  refine (lives5_yes w1).mono ?_
  rintro e w2 ⟨rfl, hb2⟩
  have HD2 := Lib.hid (HD1.out.kept hb2)
  have HB2 := Lib.hid (bt HB1.out hb2)
  clear hb2 HD1 HB1
  go_wp2_with fail
  go_loopw [7, 8] (fun s v wr => ∃ j : Nat, v = .int .i64 j ∧ j ≤ 3 ∧ Hid (DkAt w.heap.size wr l mf ms (dk3 j)) ∧ Hid (FAt wr w.heap.size s j) ∧ Hid (Below w.heap.size w wr)) (fun _ v _ => 3 - (intOf v).toNat)
  case atStart => exact ⟨0, rfl, by omega, HD2, Lib.hid (World.ownsRow_nil _ _ _ _), HB2⟩
  case round =>
    obtain ⟨j, rfl, hj, HD, HF, HB⟩ := hrel
    clear HD2 HB2
    by_cases hj3 : j < 3
    · go_wp2_with fail
      refine (k_create HD.out hj3).mono ?_
      rintro e w3 ⟨rfl, hd3, hg3⟩
      have HD3 := Lib.hid hd3
      have HF3 := Lib.hid (HF.out.dg hg3)
      have HB3 := Lib.hid (HB.out.trans hg3.below)
      clear hd3 hg3
      go_wp2_with (at_builtin; refine wpList_append_own _ rfl _ _ 34 rfl w.heap.size 3 i0 (.int .i64 0) 1 8 Try.underlying34 hi hz0 hz1 hz2 rfl (by decide) _ _ _ rfl (HF3.out.alloc _) ⟨w3.heap.size, 0, none⟩ 1 1 [.int .i64 ((j + 1 : Nat) : Int)] rfl rfl ?c1 ?c2 ?c3 ?c4 ?c5 ?_)
      case c1 =>
        intro j' u hj'
        match j', hj' with
        | 0, hj' => simp at hj'; subst hj'; simp [Addr.add]
      case c2 => intro u hu; simp at hu; subst hu; rfl
      case c3 => unfold maxLen; omega
      case c4 => omega
      case c5 => have := HB3.out.size; simp; omega
      · intro v' w5 hown' hg5 _
        have hbA := ba w3 (.cells #[.int .i64 ((j : Int) + 1)] 3)
        have hasd := (Aside.of_below hbA).trans (Aside.grown hg5 (own_out (HF3.out.below hbA) (by simp [outD])))
        have hd5 := HD3.out.aside hasd
        have HD5 := Lib.hid hd5
        have HF5 := Lib.hid (show FAt w5 w.heap.size v' (j + 1) by unfold FAt; rw [List.range_succ, List.map_append]; simpa using hown')
        have HB5 := Lib.hid ((bt HB3.out hbA).grown hg5 (by have := HB3.out.size; simp; omega) (fun k hk => (HF3.out.lt k hk).1))
        clear hbA hown' hg5 hd5 hasd
        go_wp2_with fail
        go_roundw
        case rel => exact ⟨j + 1, by go_num, by omega, HD5, HF5, HB5⟩
        case measure => simp [intOf]; omega
    · have hj3 : j = 3 := by omega
      subst hj3
      have HK := Lib.hid (k_start HD.out)
      obtain ⟨fb, fc, rfl, hfc⟩ := HF.out.read
      have HFc := Lib.hid hfc
      clear hfc
      have hba := ba wr (.cells #[.slice none 0 0, .slice none 0 0, .slice none 0 0] 52)
      have HW0 := Lib.hid (want_start wr w.heap.size)
      have HK0 := Lib.hid (HK.out.kept hba)
      have HF0 := Lib.hid (HF.out.below hba)
      have HB0 := Lib.hid (bt HB.out hba)
      clear hba
      go_wp2_with fail
      obtain ⟨wb, hwb⟩ : ∃ wb, wb = wr.heap.size := ⟨_, rfl⟩
      rw [← hwb] at HW0 ⊢
      have HWb := Lib.hid (show w.heap.size ≤ wb by rw [hwb]; exact HB.out.size)
      clear hwb HK HD HF HB HFc
      go_loopw [12] (fun v wr => ∃ (j : Nat) (V : Nat → Value) (W : Nat → List Int), v = .int .i64 j ∧ j ≤ xs.length ∧ Hid (KS w.heap.size wr l mf ms (fun _ => True) W j j j) ∧ Hid (FAt wr w.heap.size (.slice (some ⟨fb, 0, none⟩) 3 fc) 3) ∧ Hid (WantAt wr w.heap.size wb V W) ∧ Hid (tot3 W = j) ∧ Hid (Below w.heap.size w wr)) (fun v _ => xs.length - (intOf v).toNat)
      case atStart => exact ⟨0, _, _, rfl, Nat.zero_le _, HK0, HF0, HW0, Lib.hid rfl, HB0⟩
      case round =>
        obtain ⟨j, V, W, rfl, hj, HK, HF, HWt, HT, HB⟩ := hrel
        clear HK0 HF0 HW0 HB0
        by_cases hjl : j < xs.length
        · obtain ⟨b, off, hAe, hbb, c0⟩ := (HA.out.kept HB.out).at hjl
          subst hAe
          generalize xs[j] = x at c0
          have htm := tmod3 x
          obtain ⟨k, hk, hkx⟩ := tmod33 x
          go_upto_region 17 with fail
          have hfk : wr.drew.cell? ⟨fb, k, none⟩ = some (.int .i64 ((k + 1 : Nat) : Int)) := HF.out.cell hk
          have HJb := Lib.hid (show (j : Int) < 16384 by omega)
          have HJc := Lib.hid (show (j : Int) < 100000000 by omega)
          have hk0 : (0 : Int) ≤ (k : Int) := Int.natCast_nonneg _
          have hk1 : (k : Int) < 3 := by omega
          go_region_held3 (fun w' => w'.cell? ⟨fb, k, none⟩ = some (.int .i64 ((k + 1 : Nat) : Int)))
            (first
              | exact hfk
              | exact (HF.out.below (bt (Below.drew (Below.refl _ _)) hbx)).cell hk
              | exact ((HF.out.below (bt (Below.drew (Below.refl _ _)) hbx)).dg hg2).cell hk)
            (first
              | (go_at_call 28; refine (page_any _ _).mono ?_; rintro e w' ⟨g, rfl, _, hp, hbx⟩)
              | (go_at_call 27; refine (ks_append (HK.out.kept (bt (Below.drew (Below.refl _ _)) hbx)) k hk trivial _ HJb.out HJc.out _ hp).mono ?_; rintro e w'' ⟨rfl, hk2, hg2⟩))
          have hbd := bt (Below.drew (Below.refl wr.heap.size wr)) hbx
          rw [show max (j : Int) ((j : Int) + 1) = (j : Int) + 1 by omega] at hk2
          rw [show IntKind.u8.wrap (j : Int) = (j : Int) % 256 by simp [IntKind.wrap, IntKind.signed, IntKind.bits]] at hk2
          have HK2 := Lib.hid hk2
          have HF2 := Lib.hid ((HF.out.below hbd).dg hg2)
          have HW2 := Lib.hid ((HWt.out.below hbd).dg hg2)
          have HB2 := Lib.hid ((bt HB.out hbd).trans hg2.below)
          clear hbd hk2 hg2 hbx hp hfk HK HF HWt HB c0 htm hkx
          obtain ⟨i1, hi1, hy0, hy1, hy2⟩ := info_parts info_byteD
          have hwl : (W k).length ≤ 300 := by have := len_le_tot3 W k hk; have := HT.out; omega
          have cw := HW2.out.cell k hk
          have hbA := ba w'' (.cells #[.int .u8 ((j : Int) % 256)] 5)
          have HWa := Lib.hid (HW2.out.below hbA)
          have HFa := Lib.hid (HF2.out.below hbA)
          have HKa := Lib.hid (HK2.out.kept hbA)
          have HBa := Lib.hid (bt HB2.out hbA)
          clear hbA
          go_wp2_with (at_builtin; refine wpList_append_lies _ rfl _ _ 45 rfl w.heap.size 5 i1 (.int .u8 0) 1 1 Try.underlying45 hi1 hy0 hy1 hy2 rfl (by decide) (V k) (W k).length ((W k).map (Value.int .u8)) rfl (HWa.out.own k hk) ⟨w''.heap.size, 0, none⟩ 1 1 [.int .u8 ((j : Int) % 256)] rfl rfl ?d1 ?d2 (by omega) ?d3 ?d4 ?d5 _ rfl ?_)
          case d1 =>
            intro j' u hj'
            match j', hj' with
            | 0, hj' => simp at hj'; subst hj'; simp [Addr.add]
          case d2 => intro u hu; simp at hu; subst hu; rfl
          case d3 => unfold maxLen; omega
          case d4 => omega
          case d5 => exact HBa.out.size
          · intro g3 cap3 w3 hown3 hg3 hgg3 _
            have cw3 : w3.cell? ⟨wb, k, none⟩ = some (V k) := by
              rw [World.cell?_of_block (a := ⟨wb, k, none⟩) (hg3.block wb (block_ltD HWa.out.box) (fun e => HWa.out.ne k hk e.symm))]
              exact HWa.out.cell k hk
            have fw3 : w3.frozen? ⟨wb, k, none⟩ = false := by
              rw [World.frozen?_of_block (a := ⟨wb, k, none⟩) (hg3.block wb (block_ltD HWa.out.box) (fun e => HWa.out.ne k hk e.symm))]
              exact HWa.out.fz k
            have HWn := Lib.hid (HWa.out.more hk hown3 hg3 (by rw [World.size_alloc]; exact hgg3))
            have HFn := Lib.hid (HFa.out.step (x := .slice (some ⟨g3, 0, none⟩) ((W k).length + 1) cap3) HWa.out hk hg3)
            have hwb3 : ∃ o, w3.heap[wb]? = some o ∧ outD o = true := ⟨_, (hg3.block wb (block_ltD HWa.out.box) (fun e => HWa.out.ne k hk e.symm)).trans HWa.out.box, by simp [outD]⟩
            have HKn := Lib.hid (HKa.out.aside ((Aside.grown hg3 (own_out (HWa.out.own k hk) (by simp [outD]))).trans (Aside.set (i := k) (x := .slice (some ⟨g3, 0, none⟩) ((W k).length + 1) cap3) hwb3)))
            have HBn := Lib.hid (show Below w.heap.size w (w3.setCell ⟨wb, k, none⟩ (.slice (some ⟨g3, 0, none⟩) ((W k).length + 1) cap3)) from (HBa.out.grown hg3 HBa.out.size (fun i hi => ((HWa.out.own k hk).lt i hi).1)).setCell HWb.out _)
            have HTn := Lib.hid (show tot3 (updW W k ((j : Int) % 256)) = j + 1 by rw [tot3_upd W k hk, HT.out])
            clear hown3 hg3 hgg3 hwb3
            go_wp2_with fail
            go_roundw
            case rel =>
              (repeat apply Exists.intro)
              exact ⟨⟨j + 1, _, _, rfl, by omega, HKn, HFn, HWn, HTn, HBn⟩, rfl⟩
            case measure => simp [intOf]; omega
        · have hje : j = xs.length := by omega
          have HJe := Lib.hid hje
          have htm := tmod3 n
          obtain ⟨gk, hgk, hgx⟩ := tmod33 n
          have cf := HF.out.cell hgk
          have hg0 : (0 : Int) ≤ (gk : Int) := Int.natCast_nonneg _
          have hg1 : (gk : Int) < 3 := by omega
          clear hje
          go_wp2_with fail
          refine (ks_delete HK.out gk hgk trivial).mono ?_
          rintro e w3 ⟨rfl, hk3, hdg⟩
          have HK3 := Lib.hid hk3
          have HF3 := Lib.hid (HF.out.dg hdg)
          have HW3 := Lib.hid (HWt.out.dg hdg)
          have HB3 := Lib.hid (HB.out.trans hdg.below)
          clear hk3 hdg cf HK HF HWt HB htm hgx
          go_wp2_with fail
          have HTj := Lib.hid (show tot3 W = j from HT.out)
          go_loopw [15] (fun v wr => ∃ (kk : Nat) (cnt : Int), v = .int .i64 kk ∧ kk ≤ 3 ∧ Hid (cnt ≤ 301 + 301 * kk) ∧ Hid (KS w.heap.size wr l mf ms (fun i => True ∧ i ≠ gk) W ((j : Int) - (W gk).length) j cnt) ∧ Hid (FAt wr w.heap.size (.slice (some ⟨fb, 0, none⟩) 3 fc) 3) ∧ Hid (WantAt wr w.heap.size wb V W) ∧ Hid (Below w.heap.size w wr)) (fun v _ => 3 - (intOf v).toNat)
          case atStart => exact ⟨0, _, rfl, by omega, Lib.hid (by omega), HK3, HF3, HW3, HB3⟩
          case round =>
            obtain ⟨kk, cnt, rfl, hkk, HC, HK, HF, HWt, HB⟩ := hrel
            clear HK3 HF3 HW3 HB3
            by_cases hk3 : kk < 3
            · have hk0 : (0 : Int) ≤ (kk : Int) := Int.natCast_nonneg _
              have hk1 : (kk : Int) < 3 := by omega
              have cf := HF.out.cell hk3
              by_cases hkg : kk = gk
              · subst hkg
                go_wp2_with fail
                refine (ks_size_gone HK.out kk hk3 (fun h => h.2 rfl)).mono ?_
                rintro e w4 ⟨rfl, rfl⟩
                have HC2 := Lib.hid (show cnt ≤ 301 + 301 * ((kk + 1 : Nat) : Int) by have := HC.out; omega)
                go_wp2_with fail
                go_roundw
                case rel => first
                  | exact ⟨kk + 1, cnt, rfl, by omega, HC2, HK, HF, HWt, HB⟩
                  | ((repeat apply Exists.intro); exact ⟨⟨kk + 1, cnt, rfl, by omega, HC2, HK, HF, HWt, HB⟩, rfl⟩)
                case measure => simp [intOf]; omega
              · have hkgi : ¬ ((kk : Int) = (gk : Int)) := by omega
                have hkgb : ((kk : Int) == (gk : Int)) = false := by simpa using hkgi
                obtain ⟨Av, cv, hV, hVc⟩ := HWt.out.shape hk3
                have cw := HWt.out.cell kk hk3
                rw [hV] at cw
                have HV := Lib.hid hV
                have hwl : (W kk).length ≤ 300 := by have := len_le_tot3 W kk hk3; have := HTj.out; omega
                obtain ⟨N, hN⟩ : ∃ N, N = (W kk).length := ⟨_, rfl⟩
                rw [← hN] at cw hwl
                have HNl := Lib.hid hN
                clear hV hVc
                go_wp2_with fail
                refine (ks_size HK.out kk hk3 ⟨trivial, hkg⟩).mono ?_
                rintro e w4 ⟨rfl, rfl⟩
                rw [← hN]
                clear hN
                go_wp2_with fail
                clear cf cw
                go_loopw [18] (fun v wr => ∃ (ii : Nat) (ct : Int), v = .int .i64 ii ∧ ii ≤ N ∧ Hid (ct ≤ 301 + 301 * kk + ii) ∧ Hid (KS w.heap.size wr l mf ms (fun i => True ∧ i ≠ gk) W ((j : Int) - (W gk).length) j ct) ∧ Hid (FAt wr w.heap.size (.slice (some ⟨fb, 0, none⟩) 3 fc) 3) ∧ Hid (WantAt wr w.heap.size wb V W) ∧ Hid (Below w.heap.size w wr)) (fun v _ => N - (intOf v).toNat)
                case atStart => exact ⟨0, cnt, rfl, by omega, Lib.hid (by have := HC.out; omega), HK, HF, HWt, HB⟩
                case round =>
                  obtain ⟨ii, ct, rfl, hii, HC, HK, HF, HWt, HB⟩ := hrel
                  by_cases hiN : ii < N
                  · have cf := HF.out.cell hk3
                    have hiW : ii < (W kk).length := by rw [← HNl.out]; exact hiN
                    have HCt := Lib.hid (show ct < 100000000 by have := HC.out; omega)
                    go_wp2_with fail
                    refine (ks_read HK.out kk hk3 ⟨trivial, hkg⟩ ii hiW HCt.out).mono ?_
                    rintro e w5 ⟨⟨g, rfl, _, hpg⟩, hk5, hdg⟩
                    have HK5 := Lib.hid hk5
                    have HF5 := Lib.hid (HF.out.dg hdg)
                    have HW5 := Lib.hid (HWt.out.dg hdg)
                    have HB5 := Lib.hid (HB.out.trans hdg.below)
                    have HP5 := Lib.hid hpg
                    clear hk5 hdg hpg cf
                    obtain ⟨Av2, cv2, hV2, hVc2⟩ := HW5.out.shape hk3
                    obtain ⟨vb, hA2, hvb, cb⟩ := hVc2 ii hiW
                    subst hA2
                    have cw := HW5.out.cell kk hk3
                    rw [hV2, ← HNl.out] at cw
                    generalize (W kk)[ii] = b0 at HP5 cb
                    have HX := Lib.hid (show ∀ Wd, Below w5.heap.size w5 Wd → (convert 45 9 (.slice (some ⟨g, 0, none⟩) 256 256)).run Try.prog Wd = .ok (.string (strOfNums (pageC b0))) Wd ∧ Wd.cell? ⟨wb, kk, none⟩ = some (.slice (some ⟨vb, 0, none⟩) N cv2) ∧ Wd.cell? ⟨vb, ii, none⟩ = some (.int .u8 b0) from fun Wd hWd =>
                      ⟨str_cells ((hWd.block g (block_ltD HP5.out)).trans HP5.out) (pageC_len b0) 256, (hWd.cell (p := ⟨wb, _, none⟩) (block_ltD HW5.out.box)).trans cw, (hWd.cell (p := ⟨vb, _, none⟩) hvb).trans cb⟩)
                    have hi0 : (0 : Int) ≤ (ii : Int) := Int.natCast_nonneg _
                    have hi1 : (ii : Int) < (N : Int) := by omega
                    clear hV2 hVc2 cw cb
                    go_upto_region 36 with fail
                    refine wp_region_noPanic ?_
                    refine wp_region_held_drew (S := fun Wd => Below w5.heap.size w5 Wd) (by kernel_rfl) (Below.drew (Below.refl _ _)) (fun hHeld => ?_)
                    refine wpAnyH_take (i := 0) (oi := { dst := some 142, op := Go.Op.move (Go.Operand.tmp 20), type := 24, pos := "law.go:140", after := #[], guard := none }) (v := ?_) rfl (by kernel_rfl) (by kernel_rfl) (by kernel_rfl) (fun _ _ _ h => h) (Or.inl ⟨by rfl, ?_⟩) hHeld ?_
                    rotate_left 1
                    · (intro w0 hSw); (try dsimp only at hSw); have hS1 := HX.out w0 hSw; obtain ⟨hS2, hS3, hS4⟩ := hS1; go_simp <;> with_reducible rfl
                    (try simp only [Act.put, List.setIfInBounds_toArray, List.set_cons_zero, List.set_cons_succ])
                    refine wpAnyH_take (i := 1) (oi := { dst := some 143, op := Go.Op.binOp Go.BinOp.neq 24 (Go.Operand.tmp 142) (Go.Operand.const (Go.Value.int Go.IntKind.i64 0)) 24, type := 4, pos := "law.go:140", after := #[{ on := 0, ground := Go.Ground.data }], guard := none }) (v := ?_) rfl (by kernel_rfl) (by kernel_rfl) (by kernel_rfl) (fun _ _ _ h => h) (Or.inl ⟨by rfl, ?_⟩) hHeld ?_
                    rotate_left 1
                    · (intro w0 hSw); (try dsimp only at hSw); have hS1 := HX.out w0 hSw; obtain ⟨hS2, hS3, hS4⟩ := hS1; go_simp <;> with_reducible rfl
                    (try simp only [Act.put, List.setIfInBounds_toArray, List.set_cons_zero, List.set_cons_succ])
                    refine wpAnyH_take (i := 2) (oi := { dst := some 144, op := Go.Op.move (Go.Operand.tmp 143), type := 4, pos := "law.go:140", after := #[{ on := 1, ground := Go.Ground.data }], guard := none }) (v := ?_) rfl (by kernel_rfl) (by kernel_rfl) (by kernel_rfl) (fun _ _ _ h => h) (Or.inl ⟨by rfl, ?_⟩) hHeld ?_
                    rotate_left 1
                    · (intro w0 hSw); (try dsimp only at hSw); have hS1 := HX.out w0 hSw; obtain ⟨hS2, hS3, hS4⟩ := hS1; go_simp <;> with_reducible rfl
                    (try simp only [Act.put, List.setIfInBounds_toArray, List.set_cons_zero, List.set_cons_succ])
                    refine wpAnyH_take (i := 3) (oi := { dst := some 145, op := Go.Op.move (Go.Operand.tmp 19), type := 45, pos := "law.go:140", after := #[{ on := 2, ground := Go.Ground.guard }], guard := some (2, false) }) (v := ?_) rfl (by kernel_rfl) (by kernel_rfl) (by kernel_rfl) (fun _ _ _ h => h) (Or.inl ⟨by rfl, ?_⟩) hHeld ?_
                    rotate_left 1
                    · (intro w0 hSw); (try dsimp only at hSw); have hS1 := HX.out w0 hSw; obtain ⟨hS2, hS3, hS4⟩ := hS1; go_simp <;> with_reducible rfl
                    (try simp only [Act.put, List.setIfInBounds_toArray, List.set_cons_zero, List.set_cons_succ])
                    refine wpAnyH_take (i := 4) (oi := { dst := some 146, op := Go.Op.convert 45 9 (Go.Operand.tmp 145), type := 9, pos := "law.go:140", after := #[{ on := 3, ground := Go.Ground.data }, { on := 2, ground := Go.Ground.guard }], guard := some (2, false) }) (v := ?_) rfl (by kernel_rfl) (by kernel_rfl) (by kernel_rfl) (fun _ _ _ h => h) (Or.inl ⟨by rfl, ?_⟩) hHeld ?_
                    rotate_left 1
                    · (intro w0 hSw); (try dsimp only at hSw); have hS1 := HX.out w0 hSw; obtain ⟨hS2, hS3, hS4⟩ := hS1; go_simp <;> with_reducible rfl
                    (try simp only [Act.put, List.setIfInBounds_toArray, List.set_cons_zero, List.set_cons_succ])
                    refine wpAnyH_take (i := 5) (oi := { dst := some 147, op := Go.Op.move (Go.Operand.tmp 15), type := 3, pos := "law.go:140", after := #[{ on := 2, ground := Go.Ground.guard }], guard := some (2, false) }) (v := ?_) rfl (by kernel_rfl) (by kernel_rfl) (by kernel_rfl) (fun _ _ _ h => h) (Or.inl ⟨by rfl, ?_⟩) hHeld ?_
                    rotate_left 1
                    · (intro w0 hSw); (try dsimp only at hSw); have hS1 := HX.out w0 hSw; obtain ⟨hS2, hS3, hS4⟩ := hS1; go_simp <;> with_reducible rfl
                    (try simp only [Act.put, List.setIfInBounds_toArray, List.set_cons_zero, List.set_cons_succ])
                    refine wpAnyH_take (i := 6) (oi := { dst := some 148, op := Go.Op.indexAddr 52 (Go.Operand.tmp 11) (Go.Operand.tmp 147), type := 0, pos := "law.go:140", after := #[{ on := 5, ground := Go.Ground.data }, { on := 2, ground := Go.Ground.guard }], guard := some (2, false) }) (v := ?_) rfl (by kernel_rfl) (by kernel_rfl) (by kernel_rfl) (fun _ _ _ h => h) (Or.inl ⟨by rfl, ?_⟩) hHeld ?_
                    rotate_left 1
                    · (intro w0 hSw); (try dsimp only at hSw); have hS1 := HX.out w0 hSw; obtain ⟨hS2, hS3, hS4⟩ := hS1; go_simp <;> with_reducible rfl
                    (try simp only [Act.put, List.setIfInBounds_toArray, List.set_cons_zero, List.set_cons_succ])
                    refine wpAnyH_take (i := 7) (oi := { dst := some 149, op := Go.Op.load 45 (Go.Operand.tmp 148), type := 45, pos := "law.go:140", after := #[{ on := 6, ground := Go.Ground.data }, { on := 2, ground := Go.Ground.guard }], guard := some (2, false) }) (v := ?_) rfl (by kernel_rfl) (by kernel_rfl) (by kernel_rfl) (fun _ _ _ h => h) (Or.inl ⟨by rfl, ?_⟩) hHeld ?_
                    rotate_left 1
                    · (intro w0 hSw); (try dsimp only at hSw); have hS1 := HX.out w0 hSw; obtain ⟨hS2, hS3, hS4⟩ := hS1; go_simp <;> with_reducible rfl
                    (try simp only [Act.put, List.setIfInBounds_toArray, List.set_cons_zero, List.set_cons_succ])
                    refine wpAnyH_take (i := 8) (oi := { dst := some 150, op := Go.Op.move (Go.Operand.tmp 18), type := 3, pos := "law.go:140", after := #[{ on := 2, ground := Go.Ground.guard }], guard := some (2, false) }) (v := ?_) rfl (by kernel_rfl) (by kernel_rfl) (by kernel_rfl) (fun _ _ _ h => h) (Or.inl ⟨by rfl, ?_⟩) hHeld ?_
                    rotate_left 1
                    · (intro w0 hSw); (try dsimp only at hSw); have hS1 := HX.out w0 hSw; obtain ⟨hS2, hS3, hS4⟩ := hS1; go_simp <;> with_reducible rfl
                    (try simp only [Act.put, List.setIfInBounds_toArray, List.set_cons_zero, List.set_cons_succ])
                    refine wpAnyH_take (i := 9) (oi := { dst := some 151, op := Go.Op.indexAddr 45 (Go.Operand.tmp 149) (Go.Operand.tmp 150), type := 0, pos := "law.go:140", after := #[{ on := 7, ground := Go.Ground.data }, { on := 8, ground := Go.Ground.data }, { on := 2, ground := Go.Ground.guard }], guard := some (2, false) }) (v := ?_) rfl (by kernel_rfl) (by kernel_rfl) (by kernel_rfl) (fun _ _ _ h => h) (Or.inl ⟨by rfl, ?_⟩) hHeld ?_
                    rotate_left 1
                    · (intro w0 hSw); (try dsimp only at hSw); have hS1 := HX.out w0 hSw; obtain ⟨hS2, hS3, hS4⟩ := hS1; go_simp <;> with_reducible rfl
                    (try simp only [Act.put, List.setIfInBounds_toArray, List.set_cons_zero, List.set_cons_succ])
                    refine wpAnyH_take (i := 10) (oi := { dst := some 152, op := Go.Op.load 5 (Go.Operand.tmp 151), type := 5, pos := "law.go:140", after := #[{ on := 9, ground := Go.Ground.data }, { on := 2, ground := Go.Ground.guard }], guard := some (2, false) }) (v := ?_) rfl (by kernel_rfl) (by kernel_rfl) (by kernel_rfl) (fun _ _ _ h => h) (Or.inl ⟨by rfl, ?_⟩) hHeld ?_
                    rotate_left 1
                    · (intro w0 hSw); (try dsimp only at hSw); have hS1 := HX.out w0 hSw; obtain ⟨hS2, hS3, hS4⟩ := hS1; go_simp <;> with_reducible rfl
                    (try simp only [Act.put, List.setIfInBounds_toArray, List.set_cons_zero, List.set_cons_succ])
                    refine wpAnyH_ready (rs := [11]) (by kernel_rfl) (by simp) ?_
                    refine AllReadyH.cons (o := { dst := some 153, op := .call { callee := .value (.func 28), args := #[.tmp 152], argTypes := #[5] }, type := 45, pos := "law.go:140", after := #[{ on := 10, ground := .data }, { on := 2, ground := .chain }, { on := 2, ground := .guard }], guard := some (2, false) }) rfl (fun K hK => ?_) AllReadyH.nil
                    rw [if_pos (by rfl)]
                    go_simp
                    refine (page_any _ _).mono ?_
                    rintro e w6 ⟨g6, rfl, _, hp6, hb6⟩
                    have hcv2 := str_cells hp6 (pageC_len b0) 256
                    have HB6 := Lib.hid (show Below w5.heap.size w5 w6 from bt (Below.drew (Below.refl _ _)) hb6)
                    clear hb6 hp6 hHeld
                    go_wp2_with fail
                    refine hK.out _ _ HB6.out (fun hHeld => ?_)
                    clear hK K
                    (try simp only [Act.put, List.setIfInBounds_toArray, List.set_cons_zero, List.set_cons_succ])
                    refine wpAnyH_ready (rs := [12]) (by kernel_rfl) (by simp) ?_
                    refine AllReadyH.cons (o := { dst := some 154, op := .convert 45 9 (.tmp 153), type := 9, pos := "law.go:140", after := #[{ on := 11, ground := .data }, { on := 2, ground := .guard }], guard := some (2, false) }) rfl (fun K hK => ?_) AllReadyH.nil
                    rw [if_pos (by rfl)]
                    go_simp
                    refine hK.out _ _ HB6.out (fun hHeld => ?_)
                    clear hK K hcv2
                    (try simp only [Act.put, List.setIfInBounds_toArray, List.set_cons_zero, List.set_cons_succ])
                    refine wpAnyH_take (i := 13) (oi := { dst := some 155, op := Go.Op.binOp Go.BinOp.neq 9 (Go.Operand.tmp 146) (Go.Operand.tmp 154) 9, type := 4, pos := "law.go:140", after := #[{ on := 4, ground := Go.Ground.data }, { on := 12, ground := Go.Ground.data }, { on := 2, ground := Go.Ground.guard }], guard := some (2, false) }) (v := ?_) rfl (by kernel_rfl) (by kernel_rfl) (by kernel_rfl) (fun _ _ _ h => h) (Or.inl ⟨by rfl, ?_⟩) hHeld ?_
                    rotate_left 1
                    · (intro w0 hSw); (try dsimp only at hSw); have hS1 := HX.out w0 hSw; obtain ⟨hS2, hS3, hS4⟩ := hS1; go_simp <;> with_reducible rfl
                    (try simp only [Act.put, List.setIfInBounds_toArray, List.set_cons_zero, List.set_cons_succ])
                    refine wpAnyH_take (i := 14) (oi := { dst := some 156, op := Go.Op.pick (Go.Operand.tmp 144) (Go.Operand.const (Go.Value.bool true)) (Go.Operand.tmp 155), type := 4, pos := "law.go:140", after := #[{ on := 2, ground := Go.Ground.data }, { on := 13, ground := Go.Ground.data }], guard := none }) (v := ?_) rfl (by kernel_rfl) (by kernel_rfl) (by kernel_rfl) (fun _ _ _ h => h) (Or.inl ⟨by rfl, ?_⟩) hHeld ?_
                    rotate_left 1
                    · (intro w0 hSw); (try dsimp only at hSw); have hS1 := HX.out w0 hSw; obtain ⟨hS2, hS3, hS4⟩ := hS1; go_simp <;> with_reducible rfl
                    (try simp only [Act.put, List.setIfInBounds_toArray, List.set_cons_zero, List.set_cons_succ])
                    refine wpAnyH_done (by kernel_rfl) ?_ _
                    refine NoPanic.normal ?_
                    have HK6 := Lib.hid (HK5.out.kept HB6.out)
                    have HF6 := Lib.hid (HF5.out.below HB6.out)
                    have HW6 := Lib.hid (HW5.out.below HB6.out)
                    have HBn := Lib.hid (bt HB5.out HB6.out)
                    have HC6 := Lib.hid (show ct + 1 ≤ 301 + 301 * (kk : Int) + ((ii + 1 : Nat) : Int) by have := HC.out; omega)
                    clear hHeld
                    go_wp2_with fail
                    go_roundw
                    case rel => first
                      | exact ⟨ii + 1, ct + 1, rfl, by omega, HC6, HK6, HF6, HW6, HBn⟩
                      | ((repeat apply Exists.intro); exact ⟨⟨ii + 1, ct + 1, rfl, by omega, HC6, HK6, HF6, HW6, HBn⟩, rfl⟩)
                    case measure => simp [intOf]; omega
                  · have hiN : ii = N := by omega
                    subst hiN
                    have HC2 := Lib.hid (show ct ≤ 301 + 301 * ((kk + 1 : Nat) : Int) by have := HC.out; omega)
                    go_wp2_with fail
                    first
                      | exact ⟨⟨kk + 1, ct, rfl, by omega, HC2, HK, HF, HWt, HB⟩, by simp [intOf]; omega⟩
                      | (go_goals; sorry)
            · have hk3 : kk = 3 := by omega
              subst hk3
              obtain ⟨Ag, cg, hVg, _⟩ := HWt.out.shape hgk
              have cw := HWt.out.cell gk hgk
              rw [hVg] at cw
              have hM3 : (W gk).length ≤ 300 := by have := len_le_tot3 W gk hgk; have := HTj.out; omega
              obtain ⟨M, hM⟩ : ∃ M, M = (W gk).length := ⟨_, rfl⟩
              rw [← hM] at cw hM3
              have HKe := Lib.hid (show KS w.heap.size wr l mf ms (fun i => True ∧ i ≠ gk) W ((xs.length : Int) - M) xs.length cnt by rw [hM, ← HJe.out]; exact HK.out)
              have HMt := Lib.hid (fun (Wd : World) (hWd : Below wr.heap.size wr Wd) => (ks_meter (HKe.out.kept hWd)).mono (fun e w' hq => (show (∃ r s, e = .returned (.agg #[.int .i64 r, .int .i64 s, .int .i64 ((xs.length : Int) - M), .int .i64 xs.length])) ∧ Below wr.heap.size wr w' from ⟨hq.1, bt hWd hq.2⟩)))
              have HCw := Lib.hid (fun (Wd : World) (hWd : Below wr.heap.size wr Wd) => (show Wd.cell? ⟨wb, gk, none⟩ = some (.slice Ag M cg) from (hWd.cell (p := ⟨wb, _, none⟩) (block_ltD HWt.out.box)).trans cw))
              have hfd := field_usedA
              have hfd2 := field_peakA
              have hwr : IntKind.i64.wrap ((xs.length : Int) - (M : Int)) = (xs.length : Int) - (M : Int) := IntWalk.i64_in _ (by omega)
              have hbo : ((xs.length : Int) - (M : Int) == (xs.length : Int) - (M : Int)) = true := by simp
              have hB1 := Below.drew (Below.refl wr.heap.size wr)
              clear hVg hM
              go_upto_region 38 with fail
              go_region_held3 (fun Wd => Below wr.heap.size wr Wd ∧ Wd.cell? ⟨wb, gk, none⟩ = some (.slice Ag M cg))
                (first
                  | exact ⟨hB1, cw⟩
                  | exact ⟨hbx, HCw.out _ hbx⟩
                  | exact ⟨Below.drew hbx, HCw.out _ hbx⟩)
                (first
                  | (go_at_call 32; refine (HMt.out _ (by first | exact hbx | exact hB1 | exact Below.drew hbx | assumption)).mono ?_; rintro e w' ⟨⟨r, s, rfl⟩, hbx⟩))
              rename_i hold
              have HBe := Lib.hid (bt HB.out hold.1)
              clear hold
              go_wp2_with fail
              go_ret
              exact ⟨rfl, HBe.out⟩
theorem diskKeeps_walk (A : Option Addr) (c : Nat) (xs : List Int) (n : Int) (w : World) (hA : NumsAt w A xs) (hwf : ∀ n ∈ xs, (Lit.int .i64 n).wf = true) (hl : xs.length ≤ maxLen) (hn : (Lit.int .i64 n).wf = true) :
    Calls Try.prog 5 #[.slice A xs.length c, .int .i64 n] w fun e w' => e = .returned (.bool true) ∧ Below w.heap.size w w' := by
  by_cases h : 300 < xs.length
  · exact diskKeeps_out A c xs n w (by simp only [maxLen] at hl; omega) h
  · exact diskKeeps_in A c xs n w hA hwf (by omega) hn
end Go.Proofs.Ythfopabefknlkab
