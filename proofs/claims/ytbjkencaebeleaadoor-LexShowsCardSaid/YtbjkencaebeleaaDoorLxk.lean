/-
  The document's Show.
-/
import Derived.Test.YtbjkencaebeleaaDoorLxi
import Derived.Lib.AppendStr
namespace Go.Proofs.YtbjkencaebeleaaDoor
open Go.RowKit Go.Shelf

theorem shw_snoc : ∀ (l : List Lx.Tok) (t : Lx.Tok), Lx.shw (l ++ [t]) = (if l = [] then [] else Lx.shw l ++ [32]) ++ Lx.show1 t
  | [], t => by simp [Lx.shw]
  | [u], t => by simp [Lx.shw]
  | u :: v :: r, t => by
    have ih := shw_snoc (v :: r) t
    rw [if_neg (by simp)] at ih ⊢
    rw [List.cons_append, List.cons_append, Lx.shw, Lx.shw, ← List.cons_append, ih]
    simp
theorem shw_take {l : List TkA} {k : Nat} {x : TkA} (hx : l[k]? = some x) :
    Lx.shw ((l.map (·.1)).take (k + 1)) = (if k = 0 then [] else Lx.shw ((l.map (·.1)).take k) ++ [32]) ++ Lx.show1 x.1 := by
  have hk := (List.getElem?_eq_some_iff.1 hx).1
  rw [List.take_add_one, List.getElem?_map, hx]
  simp only [Option.map_some, Option.toList_some]
  rw [shw_snoc]
  congr 1
  by_cases h : k = 0
  · subst h; simp
  · rw [if_neg h, if_neg]
    intro h2
    have := congrArg List.length h2
    rw [List.length_take, List.length_map, List.length_nil] at this
    omega
theorem dbl_snoc (s : Lx.B) (c : UInt8) : Lx.dbl (s ++ [c]) = Lx.dbl s ++ (if c = 39 then [39, 39] else [c]) := by simp [Lx.dbl]
theorem bs_at (S : ByteArray) (j : Nat) (h : j < S.size) : (bs S)[j]? = some S[j] := by
  have := bs_drop S j h
  have h2 := congrArg (fun l => l[0]?) this
  simpa using h2
theorem Said.growS {base : Nat} {W1 W : World} {v : Value} {said : Lx.B} (h : Said base W1 W v said) (s : ByteArray) {v' : Value} {w' : World} (ho : w'.ownsRow base 5 1 v' (said.length + s.size) (u8s said ++ Lib.strCells s)) (hg : W.grownBy w' v.ownBlock) : Said base W1 w' v' (said ++ bs s) := by
  have hle := h.le
  have hs := hg.size
  have e : u8s (said ++ bs s) = u8s said ++ Lib.strCells s := by simp [Lib.strCells, bs]
  refine ⟨?_, h.bel.trans ((Below.refl base W).grown hg hle (fun k hk => (h.own.lt k hk).1)), by omega⟩
  rw [e, List.length_append, bs_len]
  exact ho

theorem news1 (wr : World) (v : Value) (t : TypeId) (j : Nat) (u : Value) (h : [v][j]? = some u) : (wr.alloc (.cells #[v] t)).cell? ((⟨wr.heap.size, 0, none⟩ : Addr).add j) = some u := by
  match j, h with
  | 0, h => simp at h; subst h; simp [Addr.add]
theorem one1 (c : Int) (u : Value) (h : u ∈ [Value.int .u8 c]) : u.oneCell' = true := by
  simp at h; subst h; rfl

set_option maxHeartbeats 4000000 in
theorem refShow_any (A : Option Addr) (c : Nat) (l : List TkA) (w : World) (ha : TkAt w A l) (hl : l.length ≤ 4096) (hs : ∀ x ∈ l, x.1.s.length ≤ 16384 ∧ (x.1.k = 6 → x.1.s = [])) :
    Calls Tryd.prog 8 #[.slice A l.length c] w fun e w' => e = .returned (.string ⟨(Lx.shw (l.map (·.1))).toArray⟩) ∧ Below w.heap.size w w' := by
  obtain ⟨i0, hi, hz0, hz1, hz2⟩ := infoX_parts info_byte
  have HA := Lib.hid ha
  have HS0 := Lib.hid hs
  clear ha hs
  go_enter Tryd.func8, Tryd.ntmps8
  go_wp2_with fail
  go_loopw [4, 3] (fun i v W => ∃ (k : Nat) (said : Lx.B), k ≤ l.length ∧ said.length ≤ 33000 * k ∧ i = .int .i64 k ∧ Hid (Said w.heap.size w W v said) ∧ Hid (said = Lx.shw ((l.map (·.1)).take k))) (fun i _ _ => l.length - (intOf i).toNat)
  case atStart => exact ⟨0, [], Nat.zero_le _, by simp, rfl, Lib.hid ⟨World.ownsRow_nil _ _ _ _, Below.refl _ _, Nat.le_refl _⟩, Lib.hid (by simp [Lx.shw])⟩
  case round =>
    obtain ⟨k, said, hk, hkl, rfl, HS, HSd⟩ := hrel
    obtain ⟨AS, capS, hv⟩ := HS.out.slice
    subst hv
    by_cases hkn : k < l.length
    · obtain ⟨x, hx⟩ : ∃ x, l[k]? = some x := ⟨_, List.getElem?_eq_getElem hkn⟩
      obtain ⟨hxs, hx6⟩ := HS0.out x (List.mem_of_getElem? hx)
      have HXk := Lib.hid hx
      obtain ⟨g, off, rfl, hX⟩ := HA.out.at hx
      have HX := Lib.hid hX
      clear hx hX
      obtain ⟨S, hS⟩ : ∃ S : ByteArray, (⟨x.1.s.toArray⟩ : ByteArray) = S := ⟨_, rfl⟩
      have HSt := Lib.hid hS
      have HBs := Lib.hid (show bs S = x.1.s by rw [← hS])
      have hSs : S.size ≤ 16384 := by rw [← bs_len, HBs.out]; exact hxs
      clear hS hxs
      obtain ⟨a0, a1, a2, a3⟩ := HX.out.kept HS.out.bel
      rw [HSt.out] at a1
      by_cases hk4 : x.1.k = 4
      · have HN := Lib.hid (show Lx.show1 x.1 = 39 :: (Lx.dbl x.1.s ++ [39]) by rw [Lx.show1, if_pos hk4])
        have hq4 : (x.1.k : Int) = 4 := by omega
        clear hk4 hx6
        by_cases h0 : k = 0
        · have hk0 : ¬ (0 : Int) < (k : Int) := by omega
          have hk1 : ¬ 0 < k := by omega
          have HH0 := Lib.hid h0
          clear h0
          go_wp2_with (at_builtin; refine wpList_append_own _ rfl _ _ 40 rfl w.heap.size 5 i0 (.int .u8 0) 1 1 Tryd.underlying40 hi hz0 hz1 hz2 rfl (by decide) _ _ _ rfl (HS.out.own.alloc _) ⟨wr.heap.size, 0, none⟩ 1 1 [.int .u8 ((39 : UInt8).toNat : Int)] rfl rfl (news1 _ _ _) (one1 _) ?c3 ?c4 ?c5 ?_)
          case c3 => unfold maxLen; omega
          case c4 => omega
          case c5 => have := HS.out.le; simp; omega
          intro vHF wHF hown' hg _
          have HF := Lib.hid (HS.out.grow 39 hown' hg)
          clear hown' hg
          obtain ⟨sd, hsd⟩ : ∃ sd, said = sd := ⟨_, rfl⟩
          have HSD := Lib.hid hsd
          have hsdl : sd.length ≤ 33000 * k + 1 := by rw [← hsd]; omega
          rw [hsd] at HF
          clear hsd
          clear a0 a1 a2 a3
          go_wp2_with fail
          go_loopw [5, 3] (fun i v W => ∃ (j : Nat) (sj : Lx.B), j ≤ S.size ∧ sj.length ≤ sd.length + 1 + 2 * j ∧ i = .int .i64 j ∧ Hid (Said w.heap.size w W v sj) ∧ Hid (sj = sd ++ 39 :: Lx.dbl (x.1.s.take j))) (fun i _ _ => S.size - (intOf i).toNat)
          case atStart => exact ⟨0, _, Nat.zero_le _, by simp, rfl, HF, Lib.hid (by simp [Lx.dbl])⟩
          case round =>
            obtain ⟨j, sj, hj, hjl, rfl, HJ, HJe⟩ := hrel
            obtain ⟨AJ, capJ, hv⟩ := HJ.out.slice
            subst hv
            obtain ⟨e0, e1, e2, e3⟩ := HX.out.kept HJ.out.bel
            rw [HSt.out] at e1
            by_cases hjn : j < S.size
            · have HT := Lib.hid (show x.1.s.take (j + 1) = x.1.s.take j ++ [S[j]] by rw [List.take_add_one, ← HBs.out, bs_at S j hjn]; rfl)
              by_cases hc : S[j] = 39
              · have HC := Lib.hid (show (S[j].toNat : Int) = 39 by rw [hc]; rfl)
                have HC2 := Lib.hid hc
                clear hc
                go_wp2_with (at_builtin; refine wpList_append_own _ rfl _ _ 40 rfl w.heap.size 5 i0 (.int .u8 0) 1 1 Tryd.underlying40 hi hz0 hz1 hz2 rfl (by decide) _ _ _ rfl (HJ.out.own.alloc _) ⟨wr.heap.size, 0, none⟩ 1 1 [.int .u8 ((S[j] : UInt8).toNat : Int)] rfl rfl (news1 _ _ _) (one1 _) ?c3 ?c4 ?c5 ?_)
                case c3 => unfold maxLen; omega
                case c4 => omega
                case c5 => have := HJ.out.le; simp; omega
                intro vHK wHK hown' hg _
                have HK := Lib.hid (HJ.out.grow S[j] hown' hg)
                clear hown' hg
                obtain ⟨sk, hsk⟩ : ∃ sk, sj ++ [S[j]] = sk := ⟨_, rfl⟩
                have HSK := Lib.hid hsk
                have hskl : sk.length ≤ sd.length + 1 + 2 * j + 1 := by rw [← hsk, List.length_append, List.length_singleton]; omega
                rw [hsk] at HK
                clear hsk e0 e1 e2 e3
                obtain ⟨f0, f1, f2, f3⟩ := HX.out.kept HK.out.bel
                rw [HSt.out] at f1
                obtain ⟨AK, capK, hv⟩ := HK.out.slice
                subst hv
                have hcn := HC.out
                go_wp2_with (at_builtin; refine wpList_append_own _ rfl _ _ 40 rfl w.heap.size 5 i0 (.int .u8 0) 1 1 Tryd.underlying40 hi hz0 hz1 hz2 rfl (by decide) _ _ _ rfl (HK.out.own.alloc _) ⟨wHK.heap.size, 0, none⟩ 1 1 [.int .u8 ((39 : UInt8).toNat : Int)] rfl rfl (news1 _ _ _) (one1 _) ?c3 ?c4 ?c5 ?_)
                case c3 => unfold maxLen; omega
                case c4 => omega
                case c5 => have := HK.out.le; simp; omega
                intro vHL wHL hown' hg _
                have HL := Lib.hid (HK.out.grow 39 hown' hg)
                clear hown' hg
                clear hcn
                go_wp2_with fail
                go_roundw
                case rel => exact ⟨j + 1, _, by omega, by simp only [List.length_append, List.length_singleton]; omega, by go_num, HL, Lib.hid (by rw [HT.out, dbl_snoc, if_pos HC2.out, ← HSK.out, HJe.out, HC2.out]; simp)⟩
                case measure => simp [intOf]; omega
              · have hcn : ¬ (S[j].toNat : Int) = 39 := by
                  intro h; apply hc
                  apply UInt8.toNat_inj.1
                  have : S[j].toNat = 39 := by omega
                  rw [this]; rfl
                go_wp2_with (at_builtin; refine wpList_append_own _ rfl _ _ 40 rfl w.heap.size 5 i0 (.int .u8 0) 1 1 Tryd.underlying40 hi hz0 hz1 hz2 rfl (by decide) _ _ _ rfl (HJ.out.own.alloc _) ⟨wr.heap.size, 0, none⟩ 1 1 [.int .u8 ((S[j] : UInt8).toNat : Int)] rfl rfl (news1 _ _ _) (one1 _) ?c3 ?c4 ?c5 ?_)
                case c3 => unfold maxLen; omega
                case c4 => omega
                case c5 => have := HJ.out.le; simp; omega
                intro vHK wHK hown' hg _
                have HK := Lib.hid (HJ.out.grow S[j] hown' hg)
                clear hown' hg
                clear e0 e1 e2 e3
                obtain ⟨f0, f1, f2, f3⟩ := HX.out.kept HK.out.bel
                rw [HSt.out] at f1
                go_wp2_with fail
                go_roundw
                case rel => exact ⟨j + 1, _, by omega, by simp only [List.length_append, List.length_singleton]; omega, by go_num, HK, Lib.hid (by rw [HT.out, dbl_snoc, if_neg hc, HJe.out]; simp)⟩
                case measure => simp [intOf]; omega
            · have hjS : j = S.size := by omega
              have HJf := Lib.hid (show sj = sd ++ 39 :: Lx.dbl x.1.s by rw [HJe.out, List.take_of_length_le (by rw [← HBs.out, bs_len]; omega)])
              go_wp2_with (at_builtin; refine wpList_append_own _ rfl _ _ 40 rfl w.heap.size 5 i0 (.int .u8 0) 1 1 Tryd.underlying40 hi hz0 hz1 hz2 rfl (by decide) _ _ _ rfl (HJ.out.own.alloc _) ⟨wr.heap.size, 0, none⟩ 1 1 [.int .u8 ((39 : UInt8).toNat : Int)] rfl rfl (news1 _ _ _) (one1 _) ?c3 ?c4 ?c5 ?_)
              case c3 => unfold maxLen; omega
              case c4 => omega
              case c5 => have := HJ.out.le; simp; omega
              intro vHE wHE hown' hg _
              have HE := Lib.hid (HJ.out.grow 39 hown' hg)
              clear hown' hg
              go_wp2_with fail
              go_roundw
              case rel => exact ⟨k + 1, _, by omega, by simp only [List.length_append, List.length_singleton]; omega, by go_num, HE, Lib.hid (by
                                                                           rw [shw_take HXk.out, HJf.out, ← HSD.out, HSd.out, HN.out]
                                                                           first | (rw [if_pos HH0.out, HH0.out]; simp [Lx.shw]; done) | (rw [if_neg HH0.out]; done) | (rw [if_neg HH0.out]; simp; done))⟩
              case measure => simp [intOf]; omega
        · have hk0 : (0 : Int) < (k : Int) := by omega
          have hk1 : 0 < k := by omega
          have HH0 := Lib.hid h0
          clear h0
          go_wp2_with (at_builtin; refine wpList_append_own _ rfl _ _ 40 rfl w.heap.size 5 i0 (.int .u8 0) 1 1 Tryd.underlying40 hi hz0 hz1 hz2 rfl (by decide) _ _ _ rfl (HS.out.own.alloc _) ⟨wr.heap.size, 0, none⟩ 1 1 [.int .u8 ((32 : UInt8).toNat : Int)] rfl rfl (news1 _ _ _) (one1 _) ?c3 ?c4 ?c5 ?_)
          case c3 => unfold maxLen; omega
          case c4 => omega
          case c5 => have := HS.out.le; simp; omega
          intro vHG wHG hown' hg _
          have HG := Lib.hid (HS.out.grow 32 hown' hg)
          clear hown' hg
          obtain ⟨sc, hsc⟩ : ∃ sc, said ++ [32] = sc := ⟨_, rfl⟩
          have HSC := Lib.hid hsc
          have hscl : sc.length ≤ 33000 * k + 1 := by rw [← hsc, List.length_append, List.length_singleton]; omega
          rw [hsc] at HG
          clear hsc a0 a1 a2 a3
          obtain ⟨AHG, capHG, hv⟩ := HG.out.slice
          subst hv
          obtain ⟨b0, b1, b2, b3⟩ := HX.out.kept HG.out.bel
          rw [HSt.out] at b1
          go_wp2_with (at_builtin; refine wpList_append_own _ rfl _ _ 40 rfl w.heap.size 5 i0 (.int .u8 0) 1 1 Tryd.underlying40 hi hz0 hz1 hz2 rfl (by decide) _ _ _ rfl (HG.out.own.alloc _) ⟨wHG.heap.size, 0, none⟩ 1 1 [.int .u8 ((39 : UInt8).toNat : Int)] rfl rfl (news1 _ _ _) (one1 _) ?c3 ?c4 ?c5 ?_)
          case c3 => unfold maxLen; omega
          case c4 => omega
          case c5 => have := HG.out.le; simp; omega
          intro vHF wHF hown' hg _
          have HF := Lib.hid (HG.out.grow 39 hown' hg)
          clear hown' hg
          obtain ⟨sd, hsd⟩ : ∃ sd, sc = sd := ⟨_, rfl⟩
          have HSD := Lib.hid hsd
          have hsdl : sd.length ≤ 33000 * k + 1 := by rw [← hsd]; omega
          rw [hsd] at HF
          clear hsd
          clear b0 b1 b2 b3
          go_wp2_with fail
          go_loopw [5, 3] (fun i v W => ∃ (j : Nat) (sj : Lx.B), j ≤ S.size ∧ sj.length ≤ sd.length + 1 + 2 * j ∧ i = .int .i64 j ∧ Hid (Said w.heap.size w W v sj) ∧ Hid (sj = sd ++ 39 :: Lx.dbl (x.1.s.take j))) (fun i _ _ => S.size - (intOf i).toNat)
          case atStart => exact ⟨0, _, Nat.zero_le _, by simp, rfl, HF, Lib.hid (by simp [Lx.dbl])⟩
          case round =>
            obtain ⟨j, sj, hj, hjl, rfl, HJ, HJe⟩ := hrel
            obtain ⟨AJ, capJ, hv⟩ := HJ.out.slice
            subst hv
            obtain ⟨e0, e1, e2, e3⟩ := HX.out.kept HJ.out.bel
            rw [HSt.out] at e1
            by_cases hjn : j < S.size
            · have HT := Lib.hid (show x.1.s.take (j + 1) = x.1.s.take j ++ [S[j]] by rw [List.take_add_one, ← HBs.out, bs_at S j hjn]; rfl)
              by_cases hc : S[j] = 39
              · have HC := Lib.hid (show (S[j].toNat : Int) = 39 by rw [hc]; rfl)
                have HC2 := Lib.hid hc
                clear hc
                go_wp2_with (at_builtin; refine wpList_append_own _ rfl _ _ 40 rfl w.heap.size 5 i0 (.int .u8 0) 1 1 Tryd.underlying40 hi hz0 hz1 hz2 rfl (by decide) _ _ _ rfl (HJ.out.own.alloc _) ⟨wr.heap.size, 0, none⟩ 1 1 [.int .u8 ((S[j] : UInt8).toNat : Int)] rfl rfl (news1 _ _ _) (one1 _) ?c3 ?c4 ?c5 ?_)
                case c3 => unfold maxLen; omega
                case c4 => omega
                case c5 => have := HJ.out.le; simp; omega
                intro vHK wHK hown' hg _
                have HK := Lib.hid (HJ.out.grow S[j] hown' hg)
                clear hown' hg
                obtain ⟨sk, hsk⟩ : ∃ sk, sj ++ [S[j]] = sk := ⟨_, rfl⟩
                have HSK := Lib.hid hsk
                have hskl : sk.length ≤ sd.length + 1 + 2 * j + 1 := by rw [← hsk, List.length_append, List.length_singleton]; omega
                rw [hsk] at HK
                clear hsk e0 e1 e2 e3
                obtain ⟨f0, f1, f2, f3⟩ := HX.out.kept HK.out.bel
                rw [HSt.out] at f1
                obtain ⟨AK, capK, hv⟩ := HK.out.slice
                subst hv
                have hcn := HC.out
                go_wp2_with (at_builtin; refine wpList_append_own _ rfl _ _ 40 rfl w.heap.size 5 i0 (.int .u8 0) 1 1 Tryd.underlying40 hi hz0 hz1 hz2 rfl (by decide) _ _ _ rfl (HK.out.own.alloc _) ⟨wHK.heap.size, 0, none⟩ 1 1 [.int .u8 ((39 : UInt8).toNat : Int)] rfl rfl (news1 _ _ _) (one1 _) ?c3 ?c4 ?c5 ?_)
                case c3 => unfold maxLen; omega
                case c4 => omega
                case c5 => have := HK.out.le; simp; omega
                intro vHL wHL hown' hg _
                have HL := Lib.hid (HK.out.grow 39 hown' hg)
                clear hown' hg
                clear hcn
                go_wp2_with fail
                go_roundw
                case rel => exact ⟨j + 1, _, by omega, by simp only [List.length_append, List.length_singleton]; omega, by go_num, HL, Lib.hid (by rw [HT.out, dbl_snoc, if_pos HC2.out, ← HSK.out, HJe.out, HC2.out]; simp)⟩
                case measure => simp [intOf]; omega
              · have hcn : ¬ (S[j].toNat : Int) = 39 := by
                  intro h; apply hc
                  apply UInt8.toNat_inj.1
                  have : S[j].toNat = 39 := by omega
                  rw [this]; rfl
                go_wp2_with (at_builtin; refine wpList_append_own _ rfl _ _ 40 rfl w.heap.size 5 i0 (.int .u8 0) 1 1 Tryd.underlying40 hi hz0 hz1 hz2 rfl (by decide) _ _ _ rfl (HJ.out.own.alloc _) ⟨wr.heap.size, 0, none⟩ 1 1 [.int .u8 ((S[j] : UInt8).toNat : Int)] rfl rfl (news1 _ _ _) (one1 _) ?c3 ?c4 ?c5 ?_)
                case c3 => unfold maxLen; omega
                case c4 => omega
                case c5 => have := HJ.out.le; simp; omega
                intro vHK wHK hown' hg _
                have HK := Lib.hid (HJ.out.grow S[j] hown' hg)
                clear hown' hg
                clear e0 e1 e2 e3
                obtain ⟨f0, f1, f2, f3⟩ := HX.out.kept HK.out.bel
                rw [HSt.out] at f1
                go_wp2_with fail
                go_roundw
                case rel => exact ⟨j + 1, _, by omega, by simp only [List.length_append, List.length_singleton]; omega, by go_num, HK, Lib.hid (by rw [HT.out, dbl_snoc, if_neg hc, HJe.out]; simp)⟩
                case measure => simp [intOf]; omega
            · have hjS : j = S.size := by omega
              have HJf := Lib.hid (show sj = sd ++ 39 :: Lx.dbl x.1.s by rw [HJe.out, List.take_of_length_le (by rw [← HBs.out, bs_len]; omega)])
              go_wp2_with (at_builtin; refine wpList_append_own _ rfl _ _ 40 rfl w.heap.size 5 i0 (.int .u8 0) 1 1 Tryd.underlying40 hi hz0 hz1 hz2 rfl (by decide) _ _ _ rfl (HJ.out.own.alloc _) ⟨wr.heap.size, 0, none⟩ 1 1 [.int .u8 ((39 : UInt8).toNat : Int)] rfl rfl (news1 _ _ _) (one1 _) ?c3 ?c4 ?c5 ?_)
              case c3 => unfold maxLen; omega
              case c4 => omega
              case c5 => have := HJ.out.le; simp; omega
              intro vHE wHE hown' hg _
              have HE := Lib.hid (HJ.out.grow 39 hown' hg)
              clear hown' hg
              go_wp2_with fail
              go_roundw
              case rel => exact ⟨k + 1, _, by omega, by simp only [List.length_append, List.length_singleton]; omega, by go_num, HE, Lib.hid (by
                                                                           rw [shw_take HXk.out, HJf.out, ← HSD.out, ← HSC.out, HSd.out, HN.out]
                                                                           first | (rw [if_pos HH0.out, HH0.out]; simp [Lx.shw]; done) | (rw [if_neg HH0.out]; done) | (rw [if_neg HH0.out]; simp; done))⟩
              case measure => simp [intOf]; omega
      · have HN := Lib.hid (show Lx.show1 x.1 = x.1.s by
          rw [Lx.show1, if_neg hk4]
          by_cases h6 : x.1.k = 6
          · rw [if_pos h6, hx6 h6]
          · rw [if_neg h6])
        have hq4 : ¬ (x.1.k : Int) = 4 := by omega
        have hq5 : ((x.1.k : Int) != 4) = true := by simpa using hq4
        clear hk4 hx6
        by_cases h0 : k = 0
        · have hk0 : ¬ (0 : Int) < (k : Int) := by omega
          have hk1 : ¬ 0 < k := by omega
          have HH0 := Lib.hid h0
          clear h0
          go_wp2_with (at_builtin; refine Lib.wpList_append_own_string _ rfl _ _ 40 9 rfl w.heap.size 5 i0 Tryd.underlying40 Tryd.underlying9 hi hz0 hz1 hz2 _ _ _ rfl HS.out.own _ rfl ?c3 ?c4 ?c5 ?_)
          case c3 => unfold maxLen; omega
          case c4 => omega
          case c5 => exact HS.out.le
          intro v' w1 hown' hg _
          have HE := Lib.hid (HS.out.growS S hown' hg)
          clear hown' hg
          go_wp2_with fail
          go_roundw
          case rel => exact ⟨k + 1, _, by omega, by simp only [List.length_append, bs_len]; omega, by go_num, HE, Lib.hid (by
                                                                           rw [shw_take HXk.out, HSd.out, HBs.out, HN.out]
                                                                           first | (rw [if_pos HH0.out, HH0.out]; simp [Lx.shw]; done) | (rw [if_neg HH0.out]; done) | (rw [if_neg HH0.out]; simp; done))⟩
          case measure => simp [intOf]; omega
        · have hk0 : (0 : Int) < (k : Int) := by omega
          have hk1 : 0 < k := by omega
          have HH0 := Lib.hid h0
          clear h0
          go_wp2_with (at_builtin; refine wpList_append_own _ rfl _ _ 40 rfl w.heap.size 5 i0 (.int .u8 0) 1 1 Tryd.underlying40 hi hz0 hz1 hz2 rfl (by decide) _ _ _ rfl (HS.out.own.alloc _) ⟨wr.heap.size, 0, none⟩ 1 1 [.int .u8 ((32 : UInt8).toNat : Int)] rfl rfl (news1 _ _ _) (one1 _) ?c3 ?c4 ?c5 ?_)
          case c3 => unfold maxLen; omega
          case c4 => omega
          case c5 => have := HS.out.le; simp; omega
          intro vHG wHG hown' hg _
          have HG := Lib.hid (HS.out.grow 32 hown' hg)
          clear hown' hg
          obtain ⟨sc, hsc⟩ : ∃ sc, said ++ [32] = sc := ⟨_, rfl⟩
          have HSC := Lib.hid hsc
          have hscl : sc.length ≤ 33000 * k + 1 := by rw [← hsc, List.length_append, List.length_singleton]; omega
          rw [hsc] at HG
          clear hsc a0 a1 a2 a3
          obtain ⟨AHG, capHG, hv⟩ := HG.out.slice
          subst hv
          obtain ⟨b0, b1, b2, b3⟩ := HX.out.kept HG.out.bel
          rw [HSt.out] at b1
          go_wp2_with (at_builtin; refine Lib.wpList_append_own_string _ rfl _ _ 40 9 rfl w.heap.size 5 i0 Tryd.underlying40 Tryd.underlying9 hi hz0 hz1 hz2 _ _ _ rfl HG.out.own _ rfl ?c3 ?c4 ?c5 ?_)
          case c3 => unfold maxLen; omega
          case c4 => omega
          case c5 => exact HG.out.le
          intro v' w1 hown' hg _
          have HE := Lib.hid (HG.out.growS S hown' hg)
          clear hown' hg
          go_wp2_with fail
          go_roundw
          case rel => exact ⟨k + 1, _, by omega, by simp only [List.length_append, bs_len]; omega, by go_num, HE, Lib.hid (by
                                                                           rw [shw_take HXk.out, ← HSC.out, HSd.out, HBs.out, HN.out]
                                                                           first | (rw [if_pos HH0.out, HH0.out]; simp [Lx.shw]; done) | (rw [if_neg HH0.out]; done) | (rw [if_neg HH0.out]; simp; done))⟩
          case measure => simp [intOf]; omega
    · have hkk : k = l.length := by omega
      have HW := Lib.hid (show said = Lx.shw (l.map (·.1)) by rw [HSd.out, List.take_of_length_le (by rw [List.length_map]; omega)])
      have hstr := HS.out.str
      go_wp2_with fail
      go_ret
      exact ⟨by rw [← HW.out]; rfl, HS.out.bel⟩
end Go.Proofs.YtbjkencaebeleaaDoor
