/-
  Cuts of texts.
-/
import Derived.Test.YteckhaicodmakaaGreatDoorLx8
import Derived.OwnWalk
import Derived.Laws.AppendOwn
import Derived.Laws.IdiomStrings
namespace Go.Proofs.YteckhaicodmakaaGreatDoor
open Go.RowKit Go.Shelf

theorem info_byte : (Tryz.prog.info? 5).map (fun i => (i.zero, i.size, i.bytes)) = some (some (.int .u8 0), 1, 1) := by kernel_rfl
theorem infoX_parts {t : TypeId} {z : Value} {n b : Nat} (h : (Tryz.prog.info? t).map (fun i => (i.zero, i.size, i.bytes)) = some (some z, n, b)) :
    ∃ i, Tryz.prog.info? t = some i ∧ i.zero = some z ∧ i.size = n ∧ i.bytes = b := by
  cases hi : Tryz.prog.info? t with
  | none => rw [hi] at h; cases h
  | some i => rw [hi] at h; simp at h; exact ⟨i, rfl, h.1, h.2.1, h.2.2⟩
abbrev u8s (l : Lx.B) : List Value := l.map fun c => .int .u8 (c.toNat : Int)
/-- Bytes of the call's own, told. -/
structure Said (base : Nat) (W1 W : World) (v : Value) (said : Lx.B) : Prop where
  own : W.ownsRow base 5 1 v said.length (u8s said)
  bel : Below base W1 W
  le : base ≤ W.heap.size
theorem Said.slice {base : Nat} {W1 W : World} {v : Value} {said : Lx.B} (h : Said base W1 W v said) : ∃ A cap, v = .slice A said.length cap := by
  rcases h.own.2 with ⟨rfl, h0⟩ | ⟨g, cap, cur, hv, _⟩
  · rw [h0]; exact ⟨none, 0, rfl⟩
  · exact ⟨_, cap, hv⟩
theorem Said.str {base : Nat} {W1 W : World} {v : Value} {said : Lx.B} (h : Said base W1 W v said) : (convert 86 9 v).run Tryz.prog W = .ok (.string ⟨said.toArray⟩) W := by
  rcases h.own.2 with ⟨rfl, h0⟩ | ⟨g, cap, cur, hv, hb, hg, hc, hm, hsz, ht⟩
  · obtain rfl : said = [] := List.eq_nil_of_length_eq_zero h0
    exact run_convert_bytes_nil W _ _ Tryz.underlying86 Tryz.underlying5 0 0 _ Tryz.underlying9
  · subst hv
    refine run_convert_bytes_back W _ _ _ _ cap said Tryz.underlying86 Tryz.underlying5 Tryz.underlying9 fun j hj => ?_
    have e : cur.toList[j]? = (u8s said)[j]? := by rw [← ht, List.getElem?_take_of_lt (by omega)]
    have e2 : (⟨g, 0, none⟩ : Addr).add j = ⟨g, j, none⟩ := by simp only [Addr.add]; split <;> simp_all
    have e3 : W.cell? ⟨g, j, none⟩ = cur[j]? := by simp [World.cell?, hg]
    rw [e2, e3, ← Array.getElem?_toList, e]
    simp [List.getElem?_eq_getElem hj]
theorem Said.grow {base : Nat} {W1 W : World} {v : Value} {said : Lx.B} (h : Said base W1 W v said) (c : UInt8) {o : Obj} {v' : Value} {w' : World} (ho : w'.ownsRow base 5 1 v' (said.length + 1) (u8s said ++ [.int .u8 (c.toNat : Int)])) (hg : (W.alloc o).grownBy w' v.ownBlock) : Said base W1 w' v' (said ++ [c]) := by
  have hle := h.le
  have hs := hg.size
  rw [World.size_alloc] at hs
  refine ⟨by simpa using ho, h.bel.trans (((Below.refl base W).alloc hle _).trans ((Below.refl base (W.alloc o)).grown hg (by rw [World.size_alloc]; omega) (fun k hk => ?_))), by omega⟩
  exact (h.own.lt k hk).1
theorem Said.box {base U : Nat} {W1 W : World} {v : Value} {said : Lx.B} (h : Said base W1 W v said) (hU : U < base) {o : Obj} (hx : W1.heap[U]? = some o) : W.heap[U]? = some o :=
  (h.bel.block U hU).trans hx

theorem below_tok {B U : Nat} {w W : World} (h : Below B w W) (hU : B ≤ U) (b0 b1 b2 b3 : Value) : Below B w ((((W.setCell ⟨U, 0, none⟩ b0).setCell ⟨U, 1, none⟩ b1).setCell ⟨U, 2, none⟩ b2).setCell ⟨U, 3, none⟩ b3) :=
  (((h.setCell (p := ⟨U, 0, none⟩) hU b0).setCell (p := ⟨U, 1, none⟩) hU b1).setCell (p := ⟨U, 2, none⟩) hU b2).setCell (p := ⟨U, 3, none⟩) hU b3
theorem quotes {r : Lx.B} : Lib.hasPrefix (39 :: r) [39, 39] = decide (r.head? = some 39) := by
  cases r with
  | nil => rfl
  | cons x r =>
    by_cases h : x = 39
    · subst h; simp [Lib.hasPrefix]
    · simp [Lib.hasPrefix, List.isPrefixOf, h, Ne.symm h]
theorem txq_quote {r s : Lx.B} (h : s.length ≤ 64) : Lx.txq false (39 :: r) s = Lx.txq true r s := by rw [Lx.txq, if_neg (by omega), if_pos rfl]
theorem txq_end {r s : Lx.B} (h : r.head? ≠ some 39) : Lx.txq true r s = some (s, r) := by
  cases r with
  | nil => rfl
  | cons c r => rw [Lx.txq, if_neg (by simpa using h)]
theorem txq_two {r s : Lx.B} : Lx.txq true (39 :: r) s = Lx.txq false r (s ++ [39]) := by rw [Lx.txq, if_pos rfl]
theorem txq_byte {c : UInt8} {r s : Lx.B} (hc : c ≠ 39) (h : s.length ≤ 64) : Lx.txq false (c :: r) s = Lx.txq false r (s ++ [c]) := by rw [Lx.txq, if_neg (by omega), if_neg hc]
theorem txq_long {r s : Lx.B} (h : 64 < s.length) : Lx.txq false r s = none := by
  cases r with
  | nil => rfl
  | cons c r => rw [Lx.txq, if_pos h]

set_option maxRecDepth 100000 in
set_option maxHeartbeats 2000000 in
theorem cutText_any (s : ByteArray) (w : World) (hs : s.size ≤ 16384) (h1 : 1 ≤ s.size) :
    Calls Tryz.prog 94 #[.string s] w fun e w' => ∃ v, e = .returned v ∧ CutV s (Lx.cutText (bs s)) v ∧ Below w.heap.size w w' := by
  obtain ⟨i0, hi, hz0, hz1, hz2⟩ := infoX_parts info_byte
  have HBel := Lib.hid (ba w (tokO 80))
  have HX := Lib.hid ((MapKept.heap_alloc w (tokO 80)).1)
  have HSz := Lib.hid (show w.heap.size < (w.alloc (tokO 80)).heap.size by rw [World.size_alloc]; omega)
  have HT := Lib.hid (show ∀ o, Lx.txq false ((bs s).drop 1) [] = o → Lx.cutText (bs s) = o.map fun x => (⟨4, x.1, 0⟩, (bs s).length - x.2.length) from fun o ho => by rw [Lx.cutText, ho])
  obtain ⟨R, hR⟩ : ∃ R, Lx.txq false ((bs s).drop 1) [] = R := ⟨_, rfl⟩
  have HF := Lib.hid (HT.out R hR)
  have HR := Lib.hid hR
  clear HT hR
  go_enter Tryz.func94, Tryz.ntmps94
  go_wp2_with fail
  generalize w.alloc (.cells #[.int .i64 0, .string ⟨#[]⟩, .int .i64 0, .int .i64 0] 80) = W1 at HBel HX HSz ⊢
  obtain ⟨U, hU⟩ : ∃ U, w.heap.size = U := ⟨_, rfl⟩
  have HUB := Lib.hid (show w.heap.size ≤ U by omega)
  rw [hU] at HX HSz ⊢
  clear hU
  go_loopw [5, 4] (fun i v W => ∃ (k : Nat) (said : Lx.B), k ≤ s.size ∧ said.length ≤ 65 ∧ i = .int .i64 k ∧ Hid (Said W1.heap.size W1 W v said) ∧ Hid (Lx.txq false ((bs s).drop k) said = R)) (fun i _ _ => s.size - (intOf i).toNat)
  case atStart => exact ⟨1, [], h1, by simp, rfl, Lib.hid ⟨World.ownsRow_nil _ _ _ _, Below.refl _ _, Nat.le_refl _⟩, HR⟩
  case round =>
    obtain ⟨k, said, hk, hl, rfl, HS, HQ⟩ := hrel
    obtain ⟨A, cap, hv⟩ := HS.out.slice
    subst hv
    by_cases hkn : k < s.size
    · have hD := bs_drop s k hkn
      by_cases hl64 : said.length ≤ 64
      · by_cases hc : s[k] = 39
        · have HC := Lib.hid hc
          have hcn : (s[k].toNat : Int) = 39 := by rw [hc]; rfl
          have HP := Lib.hid (show Lib.hasPrefix (bs (s.extract k s.size)) [39, 39] = decide (((bs s).drop (k + 1)).head? = some 39) by rw [bs_from, hD, hc, quotes])
          have HQ2 := Lib.hid (show Lx.txq true ((bs s).drop (k + 1)) said = R by rw [← HQ.out, hD, hc, txq_quote hl64])
          clear hD hc
          by_cases hn : ((bs s).drop (k + 1)).head? = some 39
          · have hk1 : k + 1 < s.size := by
              rcases Nat.lt_or_ge (k + 1) s.size with h | h
              · exact h
              · rw [List.drop_eq_nil_iff.2 (by rw [bs_len]; omega)] at hn; cases hn
            have hD1 := bs_drop s (k + 1) hk1
            have hc1 : s[k + 1] = 39 := by rw [hD1] at hn; simpa using hn
            have HN := Lib.hid (show Lx.txq false ((bs s).drop (k + 1 + 1)) (said ++ [39]) = R by rw [← HQ2.out, hD1, hc1, txq_two])
            have hcm : (s[k + 1].toNat : Int) = 39 := by rw [hc1]; rfl
            have HP2 := Lib.hid (HP.out.trans (decide_eq_true hn))
            clear hD1 hc1 hn
            go_wp2_with fail
            refine (Tryz.strings_HasPrefix _ _ _).mono ?_
            rintro e wr ⟨rfl, rfl⟩
            rw [show Lib.hasPrefix (s.extract k s.size).data.toList [39, 39] = true from HP2.out]
            go_wp2_with (at_builtin; refine wpList_append_own _ rfl _ _ 86 rfl W1.heap.size 5 i0 (.int .u8 0) 1 1 Tryz.underlying86 hi hz0 hz1 hz2 rfl (by decide) _ _ _ rfl (HS.out.own.alloc _) ⟨wr.heap.size, 0, none⟩ 1 1 [.int .u8 ((39 : UInt8).toNat : Int)] rfl rfl ?c1 ?c2 ?c3 ?c4 ?c5 ?_)
            case c1 =>
              intro j u hj
              match j, hj with
              | 0, hj => simp at hj; subst hj; simp [Addr.add]
            case c2 => intro u hu; simp at hu; subst hu; rfl
            case c3 => unfold maxLen; omega
            case c4 => omega
            case c5 => have := HS.out.le; simp; omega
            intro v' w1 hown' hg _
            have HG := Lib.hid (HS.out.grow 39 hown' hg)
            clear hown' hg
            go_wp2_with fail
            go_roundw
            case rel => exact ⟨k + 1 + 1, said ++ [39], by omega, by simp; omega, by go_num, HG, HN⟩
            case measure => simp [intOf]; omega
          · have HN := Lib.hid (show R = some (said, (bs s).drop (k + 1)) by rw [← HQ2.out, txq_end hn])
            have HP2 := Lib.hid (HP.out.trans (decide_eq_false hn))
            clear hn
            go_wp2_with fail
            refine (Tryz.strings_HasPrefix _ _ _).mono ?_
            rintro e wr ⟨rfl, rfl⟩
            rw [show Lib.hasPrefix (s.extract k s.size).data.toList [39, 39] = false from HP2.out]
            have hx := HS.out.box HSz.out HX.out
            obtain ⟨⟨c0, c1, c2, c3⟩, f0, f1, f2, f3⟩ := tcell hx
            have hstr := HS.out.str
            have HS2 := Lib.hid (tset hx (.int .i64 4) (.string ⟨said.toArray⟩) (.int .i64 0) (.int .i64 0))
            have HE := Lib.hid (below_tok (HBel.out.trans (HS.out.bel.mono (by have := HBel.out.size; omega))) HUB.out (.int .i64 4) (.string ⟨said.toArray⟩) (.int .i64 0) (.int .i64 0))
            clear hx
            go_wp2_with fail
            obtain ⟨⟨q0, q1, q2, q3⟩, _⟩ := tcell HS2.out
            refine bodyPost_ret (v := .tuple #[tokV 4 ⟨said.toArray⟩ 0 0, .int .i64 ((k + 1 : Nat))]) (by simp [results, Tryz.results94, go_sem, q0, q1, q2, q3]) rfl ⟨_, rfl, ?_, HE.out⟩
            rw [HF.out, HN.out]
            refine ⟨by simp only [bs_len, List.length_drop]; omega, ⟨said.toArray⟩, rfl, ?_⟩
            simp only [bs_len, List.length_drop]
            rw [show s.size - (s.size - (k + 1)) = k + 1 by omega]; rfl
        · have HN := Lib.hid (show Lx.txq false ((bs s).drop (k + 1)) (said ++ [s[k]]) = R by rw [← HQ.out, hD, txq_byte hc hl64])
          have hcn : ¬ (s[k].toNat : Int) = 39 := by
            intro h; apply hc
            apply UInt8.toNat_inj.1
            have : s[k].toNat = 39 := by omega
            rw [this]; rfl
          clear hD hc
          go_wp2_with (at_builtin; refine wpList_append_own _ rfl _ _ 86 rfl W1.heap.size 5 i0 (.int .u8 0) 1 1 Tryz.underlying86 hi hz0 hz1 hz2 rfl (by decide) _ _ _ rfl (HS.out.own.alloc _) ⟨wr.heap.size, 0, none⟩ 1 1 [.int .u8 (s[k].toNat : Int)] rfl rfl ?c1 ?c2 ?c3 ?c4 ?c5 ?_)
          case c1 =>
            intro j u hj
            match j, hj with
            | 0, hj => simp at hj; subst hj; simp [Addr.add]
          case c2 => intro u hu; simp at hu; subst hu; rfl
          case c3 => unfold maxLen; omega
          case c4 => omega
          case c5 => have := HS.out.le; simp; omega
          intro v' w1 hown' hg _
          have HG := Lib.hid (HS.out.grow s[k] hown' hg)
          clear hown' hg
          go_wp2_with fail
          go_roundw
          case rel => exact ⟨k + 1, said ++ [s[k]], by omega, by simp; omega, by go_num, HG, HN⟩
          case measure => simp [intOf]; omega
      · have HN := Lib.hid (show R = none by rw [← HQ.out, txq_long (by omega)])
        clear hD
        have hx := HS.out.box HSz.out HX.out
        obtain ⟨⟨c0, c1, c2, c3⟩, f0, f1, f2, f3⟩ := tcell hx
        have HS2 := Lib.hid (tset hx (.int .i64 0) (.string ⟨#[]⟩) (.int .i64 0) (.int .i64 0))
        have HE := Lib.hid (below_tok (HBel.out.trans (HS.out.bel.mono (by have := HBel.out.size; omega))) HUB.out (.int .i64 0) (.string ⟨#[]⟩) (.int .i64 0) (.int .i64 0))
        clear hx
        go_wp2_with fail
        obtain ⟨⟨q0, q1, q2, q3⟩, _⟩ := tcell HS2.out
        refine bodyPost_ret (v := noTok) (by simp [results, Tryz.results94, go_sem, q0, q1, q2, q3]) rfl ⟨_, rfl, ?_, HE.out⟩
        rw [HF.out, HN.out]; rfl
    · have HN := Lib.hid (show R = none by rw [← HQ.out, List.drop_eq_nil_iff.2 (by rw [bs_len]; omega)]; rfl)
      have hx := HS.out.box HSz.out HX.out
      obtain ⟨⟨c0, c1, c2, c3⟩, f0, f1, f2, f3⟩ := tcell hx
      have HS2 := Lib.hid (tset hx (.int .i64 0) (.string ⟨#[]⟩) (.int .i64 0) (.int .i64 0))
      have HE := Lib.hid (below_tok (HBel.out.trans (HS.out.bel.mono (by have := HBel.out.size; omega))) HUB.out (.int .i64 0) (.string ⟨#[]⟩) (.int .i64 0) (.int .i64 0))
      clear hx
      go_wp2_with fail
      obtain ⟨⟨q0, q1, q2, q3⟩, _⟩ := tcell HS2.out
      refine bodyPost_ret (v := noTok) (by simp [results, Tryz.results94, go_sem, q0, q1, q2, q3]) rfl ⟨_, rfl, ?_, HE.out⟩
      rw [HF.out, HN.out]; rfl
end Go.Proofs.YteckhaicodmakaaGreatDoor
