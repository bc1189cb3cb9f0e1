/-
  Cuts.
-/
import Derived.Test.YteckhaicodmakaaGreatDoorLx9
namespace Go.Proofs.YteckhaicodmakaaGreatDoor
open Go.RowKit Go.Shelf

theorem CutV.form {s : ByteArray} {o : Option (Lx.Tok × Nat)} {v : Value} (h : CutV s o v) : ∃ k b n z, v = .tuple #[tokV k b n 0, .int .i64 z] := by
  cases o with
  | none => exact ⟨0, ⟨#[]⟩, 0, 0, h⟩
  | some x => obtain ⟨t, z⟩ := x; obtain ⟨_, b, _, hv⟩ := h; exact ⟨_, b, _, _, hv⟩
/-- What the cuts' box and world are behind a call. -/
theorem cut_end {w W1 W2 : World} {U : Nat} (hB : Below w.heap.size w W1) (hX : W1.heap[U]? = some (tokO 80)) (hb : Below W1.heap.size W1 W2) : Below w.heap.size w W2 ∧ W2.heap[U]? = some (tokO 80) := by
  refine ⟨hB.trans (hb.mono (by have := hB.size; omega)), (hb.block U ?_).trans hX⟩
  rcases Nat.lt_or_ge U W1.heap.size with h | h
  · exact h
  · rw [Array.getElem?_eq_none h] at hX; cases hX

set_option maxHeartbeats 2000000 in
theorem cut_any (s : ByteArray) (w : World) (hs : s.size ≤ 16384) (hT : Tabs w) :
    Calls Tryz.prog 82 #[.string s] w fun e w' => ∃ v, e = .returned v ∧ CutV s (Lx.cut (bs s)) v ∧ Below w.heap.size w w' := by
  have HT := Lib.hid (hT.kept (ba w (tokO 80)))
  have HBel := Lib.hid (ba w (tokO 80))
  have HX := Lib.hid ((MapKept.heap_alloc w (tokO 80)).1)
  clear hT
  go_enter Tryz.func82, Tryz.ntmps82
  go_upto_region 1 with fail
  generalize w.alloc (.cells #[.int .i64 0, .string ⟨#[]⟩, .int .i64 0, .int .i64 0] 80) = W1 at HT HBel HX ⊢
  obtain ⟨U, hU⟩ : ∃ U, w.heap.size = U := ⟨_, rfl⟩
  have HUB := Lib.hid (show w.heap.size ≤ U by omega)
  rw [hU] at HX ⊢
  clear hU
  by_cases h0 : s.size = 0
  · have hE : s.toList.isEmpty = true := by
      rw [ByteArray.toList_eq, List.isEmpty_iff]
      exact List.eq_nil_of_length_eq_zero ((bs_len s).trans h0)
    have HN := Lib.hid (show Lx.cut (bs s) = some (⟨6, [], 0⟩, 0) by rw [List.eq_nil_of_length_eq_zero ((bs_len s).trans h0)]; rfl)
    obtain ⟨⟨c0, c1, c2, c3⟩, f0, f1, f2, f3⟩ := tcell HX.out
    have HS2 := Lib.hid (tset HX.out (.int .i64 6) (.string ⟨#[]⟩) (.int .i64 0) (.int .i64 0))
    have HE := Lib.hid (below_tok HBel.out HUB.out (.int .i64 6) (.string ⟨#[]⟩) (.int .i64 0) (.int .i64 0))
    go_wp2_with fail
    obtain ⟨⟨q0, q1, q2, q3⟩, _⟩ := tcell HS2.out
    refine bodyPost_ret (v := .tuple #[tokV 6 ⟨#[]⟩ 0 0, .int .i64 0]) (by simp [results, Tryz.results82, go_sem, q0, q1, q2, q3]) rfl ⟨_, rfl, ?_, HE.out⟩
    rw [HN.out]
    exact ⟨Nat.zero_le _, ⟨#[]⟩, rfl, rfl⟩
  · have hE : s.toList.isEmpty = false := by
      rw [ByteArray.toList_eq, List.isEmpty_eq_false_iff]
      intro h; exact h0 (by rw [← bs_len, show bs s = [] from h]; rfl)
    have hp : 0 < s.size := by omega
    have HD := Lib.hid (show bs s = s[0] :: (bs s).drop 1 by have := bs_drop s 0 hp; rwa [List.drop_zero] at this)
    cases hl : Lx.letter s[0]
    · cases hd : Lx.digit s[0]
      · by_cases hq : s[0] = 39
        · have HN := Lib.hid (show Lx.cut (bs s) = Lx.cutText (bs s) by rw [HD.out, Lx.cut, hl, hd, hq]; rfl)
          have HCN := Lib.hid (show (s[0].toNat : Int) = 39 by rw [hq]; rfl)
          clear hq
          go_wp2_with fail
          refine (isLetter_any s[0] _).mono ?_
          rintro e W1 ⟨rfl, rfl⟩
          rw [hl]
          go_wp2_with fail
          refine (isDigit_any s[0] _).mono ?_
          rintro e W1 ⟨rfl, rfl⟩
          rw [hd]
          have hcn := HCN.out
          go_wp2_with fail
          refine (cutText_any s _ hs (by omega)).mono ?_
          rintro e W2 ⟨v, rfl, hv, hb⟩
          obtain ⟨k, b, n, z, rfl⟩ := hv.form
          have HV := Lib.hid hv
          have hw := cut_end HBel.out HX.out hb
          have HX2 := Lib.hid hw.2
          obtain ⟨⟨c0, c1, c2, c3⟩, f0, f1, f2, f3⟩ := tcell hw.2
          have HS2 := Lib.hid (tset hw.2 (.int .i64 k) (.string b) (.int .i64 n) (.int .i64 0))
          have HE := Lib.hid (below_tok hw.1 HUB.out (.int .i64 k) (.string b) (.int .i64 n) (.int .i64 0))
          clear hw hv hb
          go_wp2_with fail
          obtain ⟨⟨q0, q1, q2, q3⟩, _⟩ := tcell HS2.out
          refine bodyPost_ret (v := .tuple #[tokV k b n 0, .int .i64 z]) (by simp [results, Tryz.results82, go_sem, q0, q1, q2, q3]) rfl ⟨_, rfl, ?_, HE.out⟩
          rw [HN.out]
          exact HV.out
        · have HN := Lib.hid (show Lx.cut (bs s) = Lx.cutSign (bs s) by rw [HD.out, Lx.cut, if_neg (by simp [hl]), if_neg (by simp [hd]), if_neg hq])
          have HCN := Lib.hid (show ¬ (s[0].toNat : Int) = 39 by
            intro h; apply hq
            apply UInt8.toNat_inj.1
            have : s[0].toNat = 39 := by omega
            rw [this]; rfl)
          clear hq
          go_wp2_with fail
          refine (isLetter_any s[0] _).mono ?_
          rintro e W1 ⟨rfl, rfl⟩
          rw [hl]
          go_wp2_with fail
          refine (isDigit_any s[0] _).mono ?_
          rintro e W1 ⟨rfl, rfl⟩
          rw [hd]
          have hcn := HCN.out
          go_wp2_with fail
          refine (cutSign_any s _ HT.out).mono ?_
          rintro e W2 ⟨v, rfl, hv, hb⟩
          obtain ⟨k, b, n, z, rfl⟩ := hv.form
          have HV := Lib.hid hv
          have hw := cut_end HBel.out HX.out hb
          have HX2 := Lib.hid hw.2
          obtain ⟨⟨c0, c1, c2, c3⟩, f0, f1, f2, f3⟩ := tcell hw.2
          have HS2 := Lib.hid (tset hw.2 (.int .i64 k) (.string b) (.int .i64 n) (.int .i64 0))
          have HE := Lib.hid (below_tok hw.1 HUB.out (.int .i64 k) (.string b) (.int .i64 n) (.int .i64 0))
          clear hw hv hb
          go_wp2_with fail
          obtain ⟨⟨q0, q1, q2, q3⟩, _⟩ := tcell HS2.out
          refine bodyPost_ret (v := .tuple #[tokV k b n 0, .int .i64 z]) (by simp [results, Tryz.results82, go_sem, q0, q1, q2, q3]) rfl ⟨_, rfl, ?_, HE.out⟩
          rw [HN.out]
          exact HV.out
      · have HN := Lib.hid (show Lx.cut (bs s) = Lx.cutNum (bs s) by rw [HD.out, Lx.cut, if_neg (by simp [hl]), if_pos hd])
        go_wp2_with fail
        refine (isLetter_any s[0] _).mono ?_
        rintro e W1 ⟨rfl, rfl⟩
        rw [hl]
        go_wp2_with fail
        refine (isDigit_any s[0] _).mono ?_
        rintro e W1 ⟨rfl, rfl⟩
        rw [hd]
        go_wp2_with fail
        refine (cutNum_any s _ hs).mono ?_
        rintro e W2 ⟨v, rfl, hv, hb⟩
        obtain ⟨k, b, n, z, rfl⟩ := hv.form
        have HV := Lib.hid hv
        have hw := cut_end HBel.out HX.out hb
        have HX2 := Lib.hid hw.2
        obtain ⟨⟨c0, c1, c2, c3⟩, f0, f1, f2, f3⟩ := tcell hw.2
        have HS2 := Lib.hid (tset hw.2 (.int .i64 k) (.string b) (.int .i64 n) (.int .i64 0))
        have HE := Lib.hid (below_tok hw.1 HUB.out (.int .i64 k) (.string b) (.int .i64 n) (.int .i64 0))
        clear hw hv hb
        go_wp2_with fail
        obtain ⟨⟨q0, q1, q2, q3⟩, _⟩ := tcell HS2.out
        refine bodyPost_ret (v := .tuple #[tokV k b n 0, .int .i64 z]) (by simp [results, Tryz.results82, go_sem, q0, q1, q2, q3]) rfl ⟨_, rfl, ?_, HE.out⟩
        rw [HN.out]
        exact HV.out
    · have HN := Lib.hid (show Lx.cut (bs s) = Lx.cutWord (bs s) by rw [HD.out, Lx.cut, if_pos hl])
      go_wp2_with fail
      refine (isLetter_any s[0] _).mono ?_
      rintro e W1 ⟨rfl, rfl⟩
      rw [hl]
      go_wp2_with fail
      refine (cutWord_any s _ hs HT.out).mono ?_
      rintro e W2 ⟨v, rfl, hv, hb⟩
      obtain ⟨k, b, n, z, rfl⟩ := hv.form
      have HV := Lib.hid hv
      have hw := cut_end HBel.out HX.out hb
      have HX2 := Lib.hid hw.2
      obtain ⟨⟨c0, c1, c2, c3⟩, f0, f1, f2, f3⟩ := tcell hw.2
      have HS2 := Lib.hid (tset hw.2 (.int .i64 k) (.string b) (.int .i64 n) (.int .i64 0))
      have HE := Lib.hid (below_tok hw.1 HUB.out (.int .i64 k) (.string b) (.int .i64 n) (.int .i64 0))
      clear hw hv hb
      go_wp2_with fail
      obtain ⟨⟨q0, q1, q2, q3⟩, _⟩ := tcell HS2.out
      refine bodyPost_ret (v := .tuple #[tokV k b n 0, .int .i64 z]) (by simp [results, Tryz.results82, go_sem, q0, q1, q2, q3]) rfl ⟨_, rfl, ?_, HE.out⟩
      rw [HN.out]
      exact HV.out
end Go.Proofs.YteckhaicodmakaaGreatDoor
