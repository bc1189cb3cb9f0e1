/-
  Cuts of numbers.
Cuts of texts.
Cuts.
Names.
Which expressions fit, but for their parts.
-/
import Derived.Test.YtpokpiphnggfpaaGreatDoorZ2
import Derived.OwnWalk
import Derived.Laws.AppendOwn
import Derived.Laws.IdiomStrings
import Derived.Deep.Cut
import Derived.Deep.QuietTactic
import Derived.BigQuiet
section
namespace Go.Proofs.YtpokpiphnggfpaaGreatDoor
open Go.RowKit Go.Shelf

theorem val_snoc (l : Lx.B) (c : UInt8) : Lx.val (l ++ [c]) = 10 * Lx.val l + (c.toNat - 48) := by simp [Lx.val, List.foldl_append]
theorem val_app (l r : Lx.B) : Lx.val l ≤ Lx.val (l ++ r) := by
  induction r generalizing l with
  | nil => simp
  | cons c r ih =>
    have := ih (l ++ [c])
    rw [List.append_assoc, List.singleton_append, val_snoc] at this
    omega
theorem val_take (l : Lx.B) (k : Nat) : Lx.val (l.take k) ≤ Lx.val l := by
  have := val_app (l.take k) (l.drop k)
  rwa [List.take_append_drop] at this
theorem bs_snoc (s : ByteArray) (k : Nat) (h : k < s.size) : (bs s).take (k + 1) = (bs s).take k ++ [s[k]] := by
  rw [List.take_add_one, bs_get s k h]; rfl

set_option maxHeartbeats 1000000 in
theorem cutNum_any (s : ByteArray) (w : World) (hs : s.size ≤ 16384) :
    Calls Tryz.prog 103 #[.string s] w fun e w' => ∃ v, e = .returned v ∧ CutV s (Lx.cutNum (bs s)) v ∧ Below w.heap.size w w' := by
  have HBel := Lib.hid (ba w (.cells #[.int .i64 0, .string ⟨#[]⟩, .int .i64 0, .int .i64 0] 99))
  obtain ⟨W, hz⟩ : ∃ W, (bs s).takeWhile Lx.digit = W := ⟨_, rfl⟩
  obtain ⟨n, hn⟩ : ∃ n, W.length = n := ⟨_, rfl⟩
  have hr : n ≤ s.size := by rw [← hn, ← hz, ← bs_len]; exact Lx.takeWhile_le _ _
  have HK := Lib.hid (show (bs s).take n = W by rw [← hn, ← hz, Lx.takeWhile_take])
  have HX := Lib.hid (show bs (s.extract 0 n) = W by rw [bs_extract, List.drop_zero, HK.out])
  have HZ := Lib.hid (show Lx.cutNum (bs s) = if (((bs s).drop n).head?.any Lx.letter) = true then none else if 9007199254740991 < Lx.val W then none else some (⟨3, W, Lx.val W⟩, n) by subst hz hn; rfl)
  have HW := Lib.hid (show ((bs s).takeWhile Lx.digit).length = n by rw [hz, hn])
  have HG := Lib.hid (show ∀ (k : Nat) (h : k < s.size), k < n → Lx.digit s[k] = true by
    intro k h hk
    refine Lx.takeWhile_mem Lx.digit (bs s) _ ?_
    rw [hz]
    refine List.mem_of_getElem? (i := k) ?_
    rw [← HK.out, List.getElem?_take_of_lt hk, bs_get s k h])
  clear hz hn
  by_cases hl : ∃ h : n < s.size, Lx.letter s[n] = true
  · obtain ⟨hlt, hl⟩ := hl
    have HF := Lib.hid (show Lx.cutNum (bs s) = none by rw [HZ.out, if_pos]; rw [bs_drop s n hlt]; exact hl)
    go_enter Tryz.func103, Tryz.ntmps103
    go_wp2_with fail
    refine (runD _ _ (by omega)).mono ?_
    rintro e w' ⟨rfl, rfl⟩
    rw [HW.out]
    go_wp2_with fail
    refine (isLetter_any s[n] _).mono ?_
    rintro e w' ⟨rfl, rfl⟩
    rw [hl]
    go_wp2_with fail
    refine bodyPost_ret (v := noTok) (by simp [results, Tryz.results103, go_sem]) rfl ⟨_, rfl, ?_, HBel.out⟩
    rw [HF.out]; rfl
  · have HF := Lib.hid (show Lx.cutNum (bs s) = if 9007199254740991 < Lx.val W then none else some (⟨3, W, Lx.val W⟩, n) by
      rw [HZ.out, if_neg]
      intro h
      rcases Nat.lt_or_ge n s.size with hlt | hge
      · rw [bs_drop s n hlt] at h; exact hl ⟨hlt, h⟩
      · rw [List.drop_eq_nil_iff.2 (by rw [bs_len]; omega)] at h; cases h)
    go_enter Tryz.func103, Tryz.ntmps103
    go_wp2_with fail
    refine (runD _ _ (by omega)).mono ?_
    rintro e w' ⟨rfl, rfl⟩
    rw [HW.out]
    by_cases hlt : n < s.size
    · have hl' : Lx.letter s[n] = false := by
        cases h : Lx.letter s[n]
        · rfl
        · exact absurd ⟨hlt, h⟩ hl
      clear hl
      go_wp2_with fail
      refine (isLetter_any s[n] _).mono ?_
      rintro e w' ⟨rfl, rfl⟩
      rw [hl']
      go_wp2_with fail
      go_loop [21, 5, 6] (fun i v _ => ∃ k : Nat, k ≤ n ∧ i = .int .i64 k ∧ v = .int .i64 (Lx.val ((bs s).take k) : Nat) ∧ Lx.val ((bs s).take k) ≤ 9007199254740991) (fun i _ _ => n - (intOf i).toNat)
      case atStart => exact ⟨0, Nat.zero_le _, rfl, by simp [Lx.val], by simp [Lx.val]⟩
      case round =>
        obtain ⟨k, hk, rfl, rfl, hv⟩ := hrel
        by_cases hkn : k < n
        · have hks : k < s.size := by omega
          have HS := Lib.hid (show Lx.val ((bs s).take (k + 1)) = 10 * Lx.val ((bs s).take k) + (s[k].toNat - 48) by rw [bs_snoc s k hks, val_snoc])
          have hd : 48 ≤ s[k].toNat ∧ s[k].toNat ≤ 57 := by simpa [Lx.digit] using HG.out k hks hkn
          have HM := Lib.hid (show Lx.val ((bs s).take (k + 1)) ≤ Lx.val W by
            have e : (bs s).take (k + 1) = W.take (k + 1) := by rw [← HK.out, List.take_take, Nat.min_eq_left (by omega)]
            rw [e]; exact val_take _ _)
          generalize Lx.val ((bs s).take k) = v at hv HS ⊢
          by_cases hb : 9007199254740991 < 10 * v + (s[k].toNat - 48)
          · have hb' : 9007199254740991 < 10 * (v : Int) + ((s[k].toNat : Int) - 48) := by omega
            go_wp2_with fail
            refine bodyPost_ret (v := noTok) (by simp [results, Tryz.results103, go_sem]) rfl ⟨_, rfl, ?_, HBel.out⟩
            rw [HF.out, if_pos (by have := HM.out; rw [HS.out] at this; omega)]; rfl
          · have hb' : ¬ 9007199254740991 < 10 * (v : Int) + ((s[k].toNat : Int) - 48) := by omega
            go_wp2_with fail
            go_round
            case rel => exact ⟨k + 1, by omega, by go_num, by rw [HS.out]; go_num, by rw [HS.out]; omega⟩
            case measure => simp [intOf]; omega
        · obtain rfl : k = n := by omega
          rw [HK.out] at hv ⊢
          go_wp2_with fail
          refine bodyPost_ret (v := .tuple #[tokV 3 (s.extract 0 k) (Lx.val W : Nat) 0, .int .i64 k]) (by simp [results, Tryz.results103, go_sem]) rfl ⟨_, rfl, ?_, ba w _⟩
          rw [HF.out, if_neg (by omega)]
          exact ⟨hr, _, HX.out, rfl⟩
    · clear hl
      go_wp2_with fail
      go_loop [21, 5, 6] (fun i v _ => ∃ k : Nat, k ≤ n ∧ i = .int .i64 k ∧ v = .int .i64 (Lx.val ((bs s).take k) : Nat) ∧ Lx.val ((bs s).take k) ≤ 9007199254740991) (fun i _ _ => n - (intOf i).toNat)
      case atStart => exact ⟨0, Nat.zero_le _, rfl, by simp [Lx.val], by simp [Lx.val]⟩
      case round =>
        obtain ⟨k, hk, rfl, rfl, hv⟩ := hrel
        by_cases hkn : k < n
        · have hks : k < s.size := by omega
          have HS := Lib.hid (show Lx.val ((bs s).take (k + 1)) = 10 * Lx.val ((bs s).take k) + (s[k].toNat - 48) by rw [bs_snoc s k hks, val_snoc])
          have hd : 48 ≤ s[k].toNat ∧ s[k].toNat ≤ 57 := by simpa [Lx.digit] using HG.out k hks hkn
          have HM := Lib.hid (show Lx.val ((bs s).take (k + 1)) ≤ Lx.val W by
            have e : (bs s).take (k + 1) = W.take (k + 1) := by rw [← HK.out, List.take_take, Nat.min_eq_left (by omega)]
            rw [e]; exact val_take _ _)
          generalize Lx.val ((bs s).take k) = v at hv HS ⊢
          by_cases hb : 9007199254740991 < 10 * v + (s[k].toNat - 48)
          · have hb' : 9007199254740991 < 10 * (v : Int) + ((s[k].toNat : Int) - 48) := by omega
            go_wp2_with fail
            refine bodyPost_ret (v := noTok) (by simp [results, Tryz.results103, go_sem]) rfl ⟨_, rfl, ?_, HBel.out⟩
            rw [HF.out, if_pos (by have := HM.out; rw [HS.out] at this; omega)]; rfl
          · have hb' : ¬ 9007199254740991 < 10 * (v : Int) + ((s[k].toNat : Int) - 48) := by omega
            go_wp2_with fail
            go_round
            case rel => exact ⟨k + 1, by omega, by go_num, by rw [HS.out]; go_num, by rw [HS.out]; omega⟩
            case measure => simp [intOf]; omega
        · obtain rfl : k = n := by omega
          rw [HK.out] at hv ⊢
          go_wp2_with fail
          refine bodyPost_ret (v := .tuple #[tokV 3 (s.extract 0 k) (Lx.val W : Nat) 0, .int .i64 k]) (by simp [results, Tryz.results103, go_sem]) rfl ⟨_, rfl, ?_, ba w _⟩
          rw [HF.out, if_neg (by omega)]
          exact ⟨hr, _, HX.out, rfl⟩
end Go.Proofs.YtpokpiphnggfpaaGreatDoor
end
section
namespace Go.Proofs.YtpokpiphnggfpaaGreatDoor
open Go.RowKit Go.Shelf

theorem info_byte : (Tryz.prog.info? 5).map (fun i => (i.zero, i.size, i.bytes)) = some (some (.int .u8 0), 1, 1) := by kernel_rfl
theorem infoX_parts {t : TypeId} {z : Value} {n b : Nat} (h : (Tryz.prog.info? t).map (fun i => (i.zero, i.size, i.bytes)) = some (some z, n, b)) :
    ∃ i, Tryz.prog.info? t = some i ∧ i.zero = some z ∧ i.size = n ∧ i.bytes = b := by
  cases hi : Tryz.prog.info? t with
  | none => rw [hi] at h; cases h
  | some i => rw [hi] at h; simp at h; exact ⟨i, rfl, h.1, h.2.1, h.2.2⟩
abbrev u8s (l : Lx.B) : List Value := l.map fun c => .int .u8 (c.toNat : Int)
/-- Bytes of the call's own, told. -/
structure Said (base : Nat) (W1 W : World) (v : Value) (said : Lx.B) : Prop where
  own : W.ownsRow base 5 1 v said.length (u8s said)
  bel : Below base W1 W
  le : base ≤ W.heap.size
theorem Said.slice {base : Nat} {W1 W : World} {v : Value} {said : Lx.B} (h : Said base W1 W v said) : ∃ A cap, v = .slice A said.length cap := by
  rcases h.own.2 with ⟨rfl, h0⟩ | ⟨g, cap, cur, hv, _⟩
  · rw [h0]; exact ⟨none, 0, rfl⟩
  · exact ⟨_, cap, hv⟩
theorem Said.str {base : Nat} {W1 W : World} {v : Value} {said : Lx.B} (h : Said base W1 W v said) : (convert 103 9 v).run Tryz.prog W = .ok (.string ⟨said.toArray⟩) W := by
  rcases h.own.2 with ⟨rfl, h0⟩ | ⟨g, cap, cur, hv, hb, hg, hc, hm, hsz, ht⟩
  · obtain rfl : said = [] := List.eq_nil_of_length_eq_zero h0
    exact run_convert_bytes_nil W _ _ Tryz.underlying103 Tryz.underlying5 0 0 _ Tryz.underlying9
  · subst hv
    refine run_convert_bytes_back W _ _ _ _ cap said Tryz.underlying103 Tryz.underlying5 Tryz.underlying9 fun j hj => ?_
    have e : cur.toList[j]? = (u8s said)[j]? := by rw [← ht, List.getElem?_take_of_lt (by omega)]
    have e2 : (⟨g, 0, none⟩ : Addr).add j = ⟨g, j, none⟩ := by simp only [Addr.add]; split <;> simp_all
    have e3 : W.cell? ⟨g, j, none⟩ = cur[j]? := by simp [World.cell?, hg]
    rw [e2, e3, ← Array.getElem?_toList, e]
    simp [List.getElem?_eq_getElem hj]
theorem Said.grow {base : Nat} {W1 W : World} {v : Value} {said : Lx.B} (h : Said base W1 W v said) (c : UInt8) {o : Obj} {v' : Value} {w' : World} (ho : w'.ownsRow base 5 1 v' (said.length + 1) (u8s said ++ [.int .u8 (c.toNat : Int)])) (hg : (W.alloc o).grownBy w' v.ownBlock) : Said base W1 w' v' (said ++ [c]) := by
  have hle := h.le
  have hs := hg.size
  rw [World.size_alloc] at hs
  refine ⟨by simpa using ho, h.bel.trans (((Below.refl base W).alloc hle _).trans ((Below.refl base (W.alloc o)).grown hg (by rw [World.size_alloc]; omega) (fun k hk => ?_))), by omega⟩
  exact (h.own.lt k hk).1
theorem Said.box {base U : Nat} {W1 W : World} {v : Value} {said : Lx.B} (h : Said base W1 W v said) (hU : U < base) {o : Obj} (hx : W1.heap[U]? = some o) : W.heap[U]? = some o :=
  (h.bel.block U hU).trans hx

theorem below_tok {B U : Nat} {w W : World} (h : Below B w W) (hU : B ≤ U) (b0 b1 b2 b3 : Value) : Below B w ((((W.setCell ⟨U, 0, none⟩ b0).setCell ⟨U, 1, none⟩ b1).setCell ⟨U, 2, none⟩ b2).setCell ⟨U, 3, none⟩ b3) :=
  (((h.setCell (p := ⟨U, 0, none⟩) hU b0).setCell (p := ⟨U, 1, none⟩) hU b1).setCell (p := ⟨U, 2, none⟩) hU b2).setCell (p := ⟨U, 3, none⟩) hU b3
theorem quotes {r : Lx.B} : Lib.hasPrefix (39 :: r) [39, 39] = decide (r.head? = some 39) := by
  cases r with
  | nil => rfl
  | cons x r =>
    by_cases h : x = 39
    · subst h; simp [Lib.hasPrefix]
    · simp [Lib.hasPrefix, List.isPrefixOf, h, Ne.symm h]
theorem txq_quote {r s : Lx.B} (h : s.length ≤ 64) : Lx.txq false (39 :: r) s = Lx.txq true r s := by rw [Lx.txq, if_neg (by omega), if_pos rfl]
theorem txq_end {r s : Lx.B} (h : r.head? ≠ some 39) : Lx.txq true r s = some (s, r) := by
  cases r with
  | nil => rfl
  | cons c r => rw [Lx.txq, if_neg (by simpa using h)]
theorem txq_two {r s : Lx.B} : Lx.txq true (39 :: r) s = Lx.txq false r (s ++ [39]) := by rw [Lx.txq, if_pos rfl]
theorem txq_byte {c : UInt8} {r s : Lx.B} (hc : c ≠ 39) (h : s.length ≤ 64) : Lx.txq false (c :: r) s = Lx.txq false r (s ++ [c]) := by rw [Lx.txq, if_neg (by omega), if_neg hc]
theorem txq_long {r s : Lx.B} (h : 64 < s.length) : Lx.txq false r s = none := by
  cases r with
  | nil => rfl
  | cons c r => rw [Lx.txq, if_pos h]

set_option maxRecDepth 100000 in
set_option maxHeartbeats 2000000 in
theorem cutText_any (s : ByteArray) (w : World) (hs : s.size ≤ 16384) (h1 : 1 ≤ s.size) :
    Calls Tryz.prog 104 #[.string s] w fun e w' => ∃ v, e = .returned v ∧ CutV s (Lx.cutText (bs s)) v ∧ Below w.heap.size w w' := by
  obtain ⟨i0, hi, hz0, hz1, hz2⟩ := infoX_parts info_byte
  have HBel := Lib.hid (ba w (tokO 99))
  have HX := Lib.hid ((MapKept.heap_alloc w (tokO 99)).1)
  have HSz := Lib.hid (show w.heap.size < (w.alloc (tokO 99)).heap.size by rw [World.size_alloc]; omega)
  have HT := Lib.hid (show ∀ o, Lx.txq false ((bs s).drop 1) [] = o → Lx.cutText (bs s) = o.map fun x => (⟨4, x.1, 0⟩, (bs s).length - x.2.length) from fun o ho => by rw [Lx.cutText, ho])
  obtain ⟨R, hR⟩ : ∃ R, Lx.txq false ((bs s).drop 1) [] = R := ⟨_, rfl⟩
  have HF := Lib.hid (HT.out R hR)
  have HR := Lib.hid hR
  clear HT hR
  go_enter Tryz.func104, Tryz.ntmps104
  go_wp2_with fail
  generalize w.alloc (.cells #[.int .i64 0, .string ⟨#[]⟩, .int .i64 0, .int .i64 0] 99) = W1 at HBel HX HSz ⊢
  obtain ⟨U, hU⟩ : ∃ U, w.heap.size = U := ⟨_, rfl⟩
  have HUB := Lib.hid (show w.heap.size ≤ U by omega)
  rw [hU] at HX HSz ⊢
  clear hU
  go_loopw [5, 4] (fun i v W => ∃ (k : Nat) (said : Lx.B), k ≤ s.size ∧ said.length ≤ 65 ∧ i = .int .i64 k ∧ Hid (Said W1.heap.size W1 W v said) ∧ Hid (Lx.txq false ((bs s).drop k) said = R)) (fun i _ _ => s.size - (intOf i).toNat)
  case atStart => exact ⟨1, [], h1, by simp, rfl, Lib.hid ⟨World.ownsRow_nil _ _ _ _, Below.refl _ _, Nat.le_refl _⟩, HR⟩
  case round =>
    obtain ⟨k, said, hk, hl, rfl, HS, HQ⟩ := hrel
    obtain ⟨A, cap, hv⟩ := HS.out.slice
    subst hv
    by_cases hkn : k < s.size
    · have hD := bs_drop s k hkn
      by_cases hl64 : said.length ≤ 64
      · by_cases hc : s[k] = 39
        · have HC := Lib.hid hc
          have hcn : (s[k].toNat : Int) = 39 := by rw [hc]; rfl
          have HP := Lib.hid (show Lib.hasPrefix (bs (s.extract k s.size)) [39, 39] = decide (((bs s).drop (k + 1)).head? = some 39) by rw [bs_from, hD, hc, quotes])
          have HQ2 := Lib.hid (show Lx.txq true ((bs s).drop (k + 1)) said = R by rw [← HQ.out, hD, hc, txq_quote hl64])
          clear hD hc
          by_cases hn : ((bs s).drop (k + 1)).head? = some 39
          · have hk1 : k + 1 < s.size := by
              rcases Nat.lt_or_ge (k + 1) s.size with h | h
              · exact h
              · rw [List.drop_eq_nil_iff.2 (by rw [bs_len]; omega)] at hn; cases hn
            have hD1 := bs_drop s (k + 1) hk1
            have hc1 : s[k + 1] = 39 := by rw [hD1] at hn; simpa using hn
            have HN := Lib.hid (show Lx.txq false ((bs s).drop (k + 1 + 1)) (said ++ [39]) = R by rw [← HQ2.out, hD1, hc1, txq_two])
            have hcm : (s[k + 1].toNat : Int) = 39 := by rw [hc1]; rfl
            have HP2 := Lib.hid (HP.out.trans (decide_eq_true hn))
            clear hD1 hc1 hn
            go_wp2_with fail
            refine (Tryz.strings_HasPrefix _ _ _).mono ?_
            rintro e wr ⟨rfl, rfl⟩
            rw [show Lib.hasPrefix (s.extract k s.size).data.toList [39, 39] = true from HP2.out]
            go_wp2_with (at_builtin; refine wpList_append_own _ rfl _ _ 103 rfl W1.heap.size 5 i0 (.int .u8 0) 1 1 Tryz.underlying103 hi hz0 hz1 hz2 rfl (by decide) _ _ _ rfl (HS.out.own.alloc _) ⟨wr.heap.size, 0, none⟩ 1 1 [.int .u8 ((39 : UInt8).toNat : Int)] rfl rfl ?c1 ?c2 ?c3 ?c4 ?c5 ?_)
            case c1 =>
              intro j u hj
              match j, hj with
              | 0, hj => simp at hj; subst hj; simp [Addr.add]
            case c2 => intro u hu; simp at hu; subst hu; rfl
            case c3 => unfold maxLen; omega
            case c4 => omega
            case c5 => have := HS.out.le; simp; omega
            intro v' w1 hown' hg _
            have HG := Lib.hid (HS.out.grow 39 hown' hg)
            clear hown' hg
            go_wp2_with fail
            go_roundw
            case rel => exact ⟨k + 1 + 1, said ++ [39], by omega, by simp; omega, by go_num, HG, HN⟩
            case measure => simp [intOf]; omega
          · have HN := Lib.hid (show R = some (said, (bs s).drop (k + 1)) by rw [← HQ2.out, txq_end hn])
            have HP2 := Lib.hid (HP.out.trans (decide_eq_false hn))
            clear hn
            go_wp2_with fail
            refine (Tryz.strings_HasPrefix _ _ _).mono ?_
            rintro e wr ⟨rfl, rfl⟩
            rw [show Lib.hasPrefix (s.extract k s.size).data.toList [39, 39] = false from HP2.out]
            have hx := HS.out.box HSz.out HX.out
            obtain ⟨⟨c0, c1, c2, c3⟩, f0, f1, f2, f3⟩ := tcell hx
            have hstr := HS.out.str
            have HS2 := Lib.hid (tset hx (.int .i64 4) (.string ⟨said.toArray⟩) (.int .i64 0) (.int .i64 0))
            have HE := Lib.hid (below_tok (HBel.out.trans (HS.out.bel.mono (by have := HBel.out.size; omega))) HUB.out (.int .i64 4) (.string ⟨said.toArray⟩) (.int .i64 0) (.int .i64 0))
            clear hx
            go_wp2_with fail
            obtain ⟨⟨q0, q1, q2, q3⟩, _⟩ := tcell HS2.out
            refine bodyPost_ret (v := .tuple #[tokV 4 ⟨said.toArray⟩ 0 0, .int .i64 ((k + 1 : Nat))]) (by simp [results, Tryz.results104, go_sem, q0, q1, q2, q3]) rfl ⟨_, rfl, ?_, HE.out⟩
            rw [HF.out, HN.out]
            refine ⟨by simp only [bs_len, List.length_drop]; omega, ⟨said.toArray⟩, rfl, ?_⟩
            simp only [bs_len, List.length_drop]
            rw [show s.size - (s.size - (k + 1)) = k + 1 by omega]; rfl
        · have HN := Lib.hid (show Lx.txq false ((bs s).drop (k + 1)) (said ++ [s[k]]) = R by rw [← HQ.out, hD, txq_byte hc hl64])
          have hcn : ¬ (s[k].toNat : Int) = 39 := by
            intro h; apply hc
            apply UInt8.toNat_inj.1
            have : s[k].toNat = 39 := by omega
            rw [this]; rfl
          clear hD hc
          go_wp2_with (at_builtin; refine wpList_append_own _ rfl _ _ 103 rfl W1.heap.size 5 i0 (.int .u8 0) 1 1 Tryz.underlying103 hi hz0 hz1 hz2 rfl (by decide) _ _ _ rfl (HS.out.own.alloc _) ⟨wr.heap.size, 0, none⟩ 1 1 [.int .u8 (s[k].toNat : Int)] rfl rfl ?c1 ?c2 ?c3 ?c4 ?c5 ?_)
          case c1 =>
            intro j u hj
            match j, hj with
            | 0, hj => simp at hj; subst hj; simp [Addr.add]
          case c2 => intro u hu; simp at hu; subst hu; rfl
          case c3 => unfold maxLen; omega
          case c4 => omega
          case c5 => have := HS.out.le; simp; omega
          intro v' w1 hown' hg _
          have HG := Lib.hid (HS.out.grow s[k] hown' hg)
          clear hown' hg
          go_wp2_with fail
          go_roundw
          case rel => exact ⟨k + 1, said ++ [s[k]], by omega, by simp; omega, by go_num, HG, HN⟩
          case measure => simp [intOf]; omega
      · have HN := Lib.hid (show R = none by rw [← HQ.out, txq_long (by omega)])
        clear hD
        have hx := HS.out.box HSz.out HX.out
        obtain ⟨⟨c0, c1, c2, c3⟩, f0, f1, f2, f3⟩ := tcell hx
        have HS2 := Lib.hid (tset hx (.int .i64 0) (.string ⟨#[]⟩) (.int .i64 0) (.int .i64 0))
        have HE := Lib.hid (below_tok (HBel.out.trans (HS.out.bel.mono (by have := HBel.out.size; omega))) HUB.out (.int .i64 0) (.string ⟨#[]⟩) (.int .i64 0) (.int .i64 0))
        clear hx
        go_wp2_with fail
        obtain ⟨⟨q0, q1, q2, q3⟩, _⟩ := tcell HS2.out
        refine bodyPost_ret (v := noTok) (by simp [results, Tryz.results104, go_sem, q0, q1, q2, q3]) rfl ⟨_, rfl, ?_, HE.out⟩
        rw [HF.out, HN.out]; rfl
    · have HN := Lib.hid (show R = none by rw [← HQ.out, List.drop_eq_nil_iff.2 (by rw [bs_len]; omega)]; rfl)
      have hx := HS.out.box HSz.out HX.out
      obtain ⟨⟨c0, c1, c2, c3⟩, f0, f1, f2, f3⟩ := tcell hx
      have HS2 := Lib.hid (tset hx (.int .i64 0) (.string ⟨#[]⟩) (.int .i64 0) (.int .i64 0))
      have HE := Lib.hid (below_tok (HBel.out.trans (HS.out.bel.mono (by have := HBel.out.size; omega))) HUB.out (.int .i64 0) (.string ⟨#[]⟩) (.int .i64 0) (.int .i64 0))
      clear hx
      go_wp2_with fail
      obtain ⟨⟨q0, q1, q2, q3⟩, _⟩ := tcell HS2.out
      refine bodyPost_ret (v := noTok) (by simp [results, Tryz.results104, go_sem, q0, q1, q2, q3]) rfl ⟨_, rfl, ?_, HE.out⟩
      rw [HF.out, HN.out]; rfl
end Go.Proofs.YtpokpiphnggfpaaGreatDoor
end
section
namespace Go.Proofs.YtpokpiphnggfpaaGreatDoor
open Go.RowKit Go.Shelf

theorem CutV.form {s : ByteArray} {o : Option (Lx.Tok × Nat)} {v : Value} (h : CutV s o v) : ∃ k b n z, v = .tuple #[tokV k b n 0, .int .i64 z] := by
  cases o with
  | none => exact ⟨0, ⟨#[]⟩, 0, 0, h⟩
  | some x => obtain ⟨t, z⟩ := x; obtain ⟨_, b, _, hv⟩ := h; exact ⟨_, b, _, _, hv⟩
/-- What the cuts' box and world are behind a call. -/
theorem cut_end {w W1 W2 : World} {U : Nat} (hB : Below w.heap.size w W1) (hX : W1.heap[U]? = some (tokO 99)) (hb : Below W1.heap.size W1 W2) : Below w.heap.size w W2 ∧ W2.heap[U]? = some (tokO 99) := by
  refine ⟨hB.trans (hb.mono (by have := hB.size; omega)), (hb.block U ?_).trans hX⟩
  rcases Nat.lt_or_ge U W1.heap.size with h | h
  · exact h
  · rw [Array.getElem?_eq_none h] at hX; cases hX

set_option maxHeartbeats 2000000 in
theorem cut_any (s : ByteArray) (w : World) (hs : s.size ≤ 16384) (hT : Tabs w) :
    Calls Tryz.prog 99 #[.string s] w fun e w' => ∃ v, e = .returned v ∧ CutV s (Lx.cut (bs s)) v ∧ Below w.heap.size w w' := by
  have HT := Lib.hid (hT.kept (ba w (tokO 99)))
  have HBel := Lib.hid (ba w (tokO 99))
  have HX := Lib.hid ((MapKept.heap_alloc w (tokO 99)).1)
  clear hT
  go_enter Tryz.func99, Tryz.ntmps99
  go_upto_region 1 with fail
  generalize w.alloc (.cells #[.int .i64 0, .string ⟨#[]⟩, .int .i64 0, .int .i64 0] 99) = W1 at HT HBel HX ⊢
  obtain ⟨U, hU⟩ : ∃ U, w.heap.size = U := ⟨_, rfl⟩
  have HUB := Lib.hid (show w.heap.size ≤ U by omega)
  rw [hU] at HX ⊢
  clear hU
  by_cases h0 : s.size = 0
  · have hE : s.toList.isEmpty = true := by
      rw [ByteArray.toList_eq, List.isEmpty_iff]
      exact List.eq_nil_of_length_eq_zero ((bs_len s).trans h0)
    have HN := Lib.hid (show Lx.cut (bs s) = some (⟨6, [], 0⟩, 0) by rw [List.eq_nil_of_length_eq_zero ((bs_len s).trans h0)]; rfl)
    obtain ⟨⟨c0, c1, c2, c3⟩, f0, f1, f2, f3⟩ := tcell HX.out
    have HS2 := Lib.hid (tset HX.out (.int .i64 6) (.string ⟨#[]⟩) (.int .i64 0) (.int .i64 0))
    have HE := Lib.hid (below_tok HBel.out HUB.out (.int .i64 6) (.string ⟨#[]⟩) (.int .i64 0) (.int .i64 0))
    go_wp2_with fail
    obtain ⟨⟨q0, q1, q2, q3⟩, _⟩ := tcell HS2.out
    refine bodyPost_ret (v := .tuple #[tokV 6 ⟨#[]⟩ 0 0, .int .i64 0]) (by simp [results, Tryz.results99, go_sem, q0, q1, q2, q3]) rfl ⟨_, rfl, ?_, HE.out⟩
    rw [HN.out]
    exact ⟨Nat.zero_le _, ⟨#[]⟩, rfl, rfl⟩
  · have hE : s.toList.isEmpty = false := by
      rw [ByteArray.toList_eq, List.isEmpty_eq_false_iff]
      intro h; exact h0 (by rw [← bs_len, show bs s = [] from h]; rfl)
    have hp : 0 < s.size := by omega
    have HD := Lib.hid (show bs s = s[0] :: (bs s).drop 1 by have := bs_drop s 0 hp; rwa [List.drop_zero] at this)
    cases hl : Lx.letter s[0]
    · cases hd : Lx.digit s[0]
      · by_cases hq : s[0] = 39
        · have HN := Lib.hid (show Lx.cut (bs s) = Lx.cutText (bs s) by rw [HD.out, Lx.cut, hl, hd, hq]; rfl)
          have HCN := Lib.hid (show (s[0].toNat : Int) = 39 by rw [hq]; rfl)
          clear hq
          go_wp2_with fail
          refine (isLetter_any s[0] _).mono ?_
          rintro e W1 ⟨rfl, rfl⟩
          rw [hl]
          go_wp2_with fail
          refine (isDigit_any s[0] _).mono ?_
          rintro e W1 ⟨rfl, rfl⟩
          rw [hd]
          have hcn := HCN.out
          go_wp2_with fail
          refine (cutText_any s _ hs (by omega)).mono ?_
          rintro e W2 ⟨v, rfl, hv, hb⟩
          obtain ⟨k, b, n, z, rfl⟩ := hv.form
          have HV := Lib.hid hv
          have hw := cut_end HBel.out HX.out hb
          have HX2 := Lib.hid hw.2
          obtain ⟨⟨c0, c1, c2, c3⟩, f0, f1, f2, f3⟩ := tcell hw.2
          have HS2 := Lib.hid (tset hw.2 (.int .i64 k) (.string b) (.int .i64 n) (.int .i64 0))
          have HE := Lib.hid (below_tok hw.1 HUB.out (.int .i64 k) (.string b) (.int .i64 n) (.int .i64 0))
          clear hw hv hb
          go_wp2_with fail
          obtain ⟨⟨q0, q1, q2, q3⟩, _⟩ := tcell HS2.out
          refine bodyPost_ret (v := .tuple #[tokV k b n 0, .int .i64 z]) (by simp [results, Tryz.results99, go_sem, q0, q1, q2, q3]) rfl ⟨_, rfl, ?_, HE.out⟩
          rw [HN.out]
          exact HV.out
        · have HN := Lib.hid (show Lx.cut (bs s) = Lx.cutSign (bs s) by rw [HD.out, Lx.cut, if_neg (by simp [hl]), if_neg (by simp [hd]), if_neg hq])
          have HCN := Lib.hid (show ¬ (s[0].toNat : Int) = 39 by
            intro h; apply hq
            apply UInt8.toNat_inj.1
            have : s[0].toNat = 39 := by omega
            rw [this]; rfl)
          clear hq
          go_wp2_with fail
          refine (isLetter_any s[0] _).mono ?_
          rintro e W1 ⟨rfl, rfl⟩
          rw [hl]
          go_wp2_with fail
          refine (isDigit_any s[0] _).mono ?_
          rintro e W1 ⟨rfl, rfl⟩
          rw [hd]
          have hcn := HCN.out
          go_wp2_with fail
          refine (cutSign_any s _ HT.out).mono ?_
          rintro e W2 ⟨v, rfl, hv, hb⟩
          obtain ⟨k, b, n, z, rfl⟩ := hv.form
          have HV := Lib.hid hv
          have hw := cut_end HBel.out HX.out hb
          have HX2 := Lib.hid hw.2
          obtain ⟨⟨c0, c1, c2, c3⟩, f0, f1, f2, f3⟩ := tcell hw.2
          have HS2 := Lib.hid (tset hw.2 (.int .i64 k) (.string b) (.int .i64 n) (.int .i64 0))
          have HE := Lib.hid (below_tok hw.1 HUB.out (.int .i64 k) (.string b) (.int .i64 n) (.int .i64 0))
          clear hw hv hb
          go_wp2_with fail
          obtain ⟨⟨q0, q1, q2, q3⟩, _⟩ := tcell HS2.out
          refine bodyPost_ret (v := .tuple #[tokV k b n 0, .int .i64 z]) (by simp [results, Tryz.results99, go_sem, q0, q1, q2, q3]) rfl ⟨_, rfl, ?_, HE.out⟩
          rw [HN.out]
          exact HV.out
      · have HN := Lib.hid (show Lx.cut (bs s) = Lx.cutNum (bs s) by rw [HD.out, Lx.cut, if_neg (by simp [hl]), if_pos hd])
        go_wp2_with fail
        refine (isLetter_any s[0] _).mono ?_
        rintro e W1 ⟨rfl, rfl⟩
        rw [hl]
        go_wp2_with fail
        refine (isDigit_any s[0] _).mono ?_
        rintro e W1 ⟨rfl, rfl⟩
        rw [hd]
        go_wp2_with fail
        refine (cutNum_any s _ hs).mono ?_
        rintro e W2 ⟨v, rfl, hv, hb⟩
        obtain ⟨k, b, n, z, rfl⟩ := hv.form
        have HV := Lib.hid hv
        have hw := cut_end HBel.out HX.out hb
        have HX2 := Lib.hid hw.2
        obtain ⟨⟨c0, c1, c2, c3⟩, f0, f1, f2, f3⟩ := tcell hw.2
        have HS2 := Lib.hid (tset hw.2 (.int .i64 k) (.string b) (.int .i64 n) (.int .i64 0))
        have HE := Lib.hid (below_tok hw.1 HUB.out (.int .i64 k) (.string b) (.int .i64 n) (.int .i64 0))
        clear hw hv hb
        go_wp2_with fail
        obtain ⟨⟨q0, q1, q2, q3⟩, _⟩ := tcell HS2.out
        refine bodyPost_ret (v := .tuple #[tokV k b n 0, .int .i64 z]) (by simp [results, Tryz.results99, go_sem, q0, q1, q2, q3]) rfl ⟨_, rfl, ?_, HE.out⟩
        rw [HN.out]
        exact HV.out
    · have HN := Lib.hid (show Lx.cut (bs s) = Lx.cutWord (bs s) by rw [HD.out, Lx.cut, if_pos hl])
      go_wp2_with fail
      refine (isLetter_any s[0] _).mono ?_
      rintro e W1 ⟨rfl, rfl⟩
      rw [hl]
      go_wp2_with fail
      refine (cutWord_any s _ hs HT.out).mono ?_
      rintro e W2 ⟨v, rfl, hv, hb⟩
      obtain ⟨k, b, n, z, rfl⟩ := hv.form
      have HV := Lib.hid hv
      have hw := cut_end HBel.out HX.out hb
      have HX2 := Lib.hid hw.2
      obtain ⟨⟨c0, c1, c2, c3⟩, f0, f1, f2, f3⟩ := tcell hw.2
      have HS2 := Lib.hid (tset hw.2 (.int .i64 k) (.string b) (.int .i64 n) (.int .i64 0))
      have HE := Lib.hid (below_tok hw.1 HUB.out (.int .i64 k) (.string b) (.int .i64 n) (.int .i64 0))
      clear hw hv hb
      go_wp2_with fail
      obtain ⟨⟨q0, q1, q2, q3⟩, _⟩ := tcell HS2.out
      refine bodyPost_ret (v := .tuple #[tokV k b n 0, .int .i64 z]) (by simp [results, Tryz.results99, go_sem, q0, q1, q2, q3]) rfl ⟨_, rfl, ?_, HE.out⟩
      rw [HN.out]
      exact HV.out
end Go.Proofs.YtpokpiphnggfpaaGreatDoor
end
section
namespace Go.Proofs.YtpokpiphnggfpaaGreatDoor
open Go.RowKit Go.Shelf

def isName (s : ByteArray) : Bool := match Lx.cut (bs s) with
  | some (t, z) => decide (t.k = 1) && decide (z = s.size)
  | none => false
set_option maxHeartbeats 1000000 in
theorem name_any (s : ByteArray) (w : World) (hs : s.size ≤ 16384) (hT : Tabs w) :
    Calls Tryz.prog 96 #[.string s] w fun e w' => e = .returned (.bool (isName s)) ∧ Below w.heap.size w w' := by
  have HT := Lib.hid hT
  clear hT
  go_enter Tryz.func96, Tryz.ntmps96
  go_wp2_with fail
  refine (cut_any s _ hs HT.out).mono ?_
  rintro e w2 ⟨v, rfl, hv, hb⟩
  have HB := Lib.hid hb
  clear hb
  cases hc : Lx.cut (bs s) with
  | none =>
    rw [hc] at hv
    obtain rfl : v = noTok := hv
    have HN := Lib.hid (show isName s = false by rw [isName, hc])
    go_wp2_with fail
    go_ret
    rw [HN.out]
    exact ⟨rfl, bt HB.out (ba w2 _)⟩
  | some x =>
    obtain ⟨t, z⟩ := x
    rw [hc] at hv
    obtain ⟨hz, b, hbs, rfl⟩ := hv
    have HN := Lib.hid (show isName s = (decide (t.k = 1) && decide (z = s.size)) by rw [isName, hc])
    clear hbs hc
    by_cases h1 : t.k = 1
    · have H1 := Lib.hid h1
      have h1' : (t.k : Int) = 1 := by omega
      clear h1
      by_cases h2 : z = s.size
      · subst h2
        go_wp2_with fail
        go_ret
        rw [HN.out, H1.out]
        exact ⟨ret_b (by simp), bt HB.out (ba w2 _)⟩
      · have h2' : ¬ (z : Int) = s.size := by omega
        go_wp2_with fail
        go_ret
        rw [HN.out, H1.out]
        exact ⟨ret_b (by simp [h2]; exact h2'), bt HB.out (ba w2 _)⟩
    · have h1' : ¬ (t.k : Int) = 1 := by omega
      go_wp2_with fail
      go_ret
      rw [HN.out]
      exact ⟨ret_b (by simp [h1]), bt HB.out (ba w2 _)⟩
end Go.Proofs.YtpokpiphnggfpaaGreatDoor
end
section
namespace Go.Proofs.YtpokpiphnggfpaaGreatDoor
open Go.RowKit Go.Shelf

def arI (n : Int) : Int := if n = 3 ∨ n = 15 ∨ n = 16 ∨ n = 17 then 1 else if 1 ≤ n ∧ n ≤ 17 then 2 else 0
theorem arity_any (n : Int) (w : World) :
    Calls Tryz.prog 88 #[.int .i64 n] w fun e w' => e = .returned (.int .i64 (arI n)) ∧ w' = w := by
  go_enter Tryz.func88, Tryz.ntmps88
  go_wp2
  all_goals
    go_ret
    exact ⟨ret_i (by simp_all [arI] <;> omega), rfl⟩
theorem refArity_any (n : Int) (w : World) :
    Calls Tryz.prog 77 #[.int .i64 n] w fun e w' => e = .returned (.int .i64 (arI n)) ∧ w' = w := by
  go_enter Tryz.func77, Tryz.ntmps77
  go_wp2
  all_goals
    go_ret
    exact ⟨ret_i (by simp_all [arI] <;> omega), rfl⟩
def litB (k n : Int) (s : ByteArray) : Bool := okV k n s && (k != 2 || decide (0 ≤ n))
theorem isLiteral_any (k n : Int) (s : ByteArray) (w : World) (hs : s.size ≤ 9223372036854775807) :
    Calls Tryz.prog 86 #[VV k n s] w fun e w' => e = .returned (.bool (litB k n s)) ∧ Below w.heap.size w w' := by
  have hc := check_any k n s
  obtain ⟨b, hb⟩ : ∃ b, okV k n s = b := ⟨_, rfl⟩
  have HB := Lib.hid hb
  cases b
  all_goals
    rw [hb] at hc
    clear hb
    go_enter Tryz.func86, Tryz.ntmps86
    go_wp2_with fail
    refine (hc _ hs).mono ?_
    clear hc
    rintro e w1 ⟨rfl, hb1⟩
    obtain ⟨c0, c1, c2⟩ := box1 hb1
    have HB1 := Lib.hid (bt (ba _ _) hb1)
    clear hb1
    go_wp2
    all_goals
      go_ret
      exact ⟨ret_bool (by have := HB.out; simp_all [litB]), HB1.out⟩
def colB (t c : ByteArray) : Bool := isName c && (t.toList.isEmpty || isName t)
theorem isColumn_any (t c : ByteArray) (w : World) (ht : t.size ≤ 16384) (hc : c.size ≤ 16384) (hT : Tabs w) :
    Calls Tryz.prog 87 #[.string t, .string c] w fun e w' => e = .returned (.bool (colB t c)) ∧ Below w.heap.size w w' := by
  have h1 := name_any c w hc hT
  have h2 := fun w1 (hb : Below w.heap.size w w1) => name_any t w1 ht (hT.kept hb)
  obtain ⟨b, hb⟩ : ∃ b, isName c = b := ⟨_, rfl⟩
  obtain ⟨b', hb'⟩ : ∃ b', isName t = b' := ⟨_, rfl⟩
  obtain ⟨e, he⟩ : ∃ e, t.toList.isEmpty = e := ⟨_, rfl⟩
  rw [hb] at h1
  rw [hb'] at h2
  have HB := Lib.hid (show colB t c = (b && (e || b')) by rw [colB, hb, hb', he])
  clear hb hb'
  cases b
  · go_enter Tryz.func87, Tryz.ntmps87
    go_wp2_with fail
    refine h1.mono ?_
    rintro e1 w1 ⟨rfl, hb1⟩
    go_wp2
    go_ret
    rw [HB.out]
    exact ⟨rfl, hb1⟩
  · cases e
    · go_enter Tryz.func87, Tryz.ntmps87
      go_wp2_with fail
      refine h1.mono ?_
      clear h1
      rintro e1 w1 ⟨rfl, hb1⟩
      go_wp2_with fail
      refine (h2 _ hb1).mono ?_
      rintro e1 w2 ⟨rfl, hb2⟩
      go_wp2
      go_ret
      rw [HB.out]
      exact ⟨by simp, bt hb1 hb2⟩
    · go_enter Tryz.func87, Tryz.ntmps87
      go_wp2_with fail
      refine h1.mono ?_
      clear h1
      rintro e1 w1 ⟨rfl, hb1⟩
      go_wp2
      go_ret
      rw [HB.out]
      exact ⟨rfl, hb1⟩
def aggB (n l : Int) : Bool := if n = 1 then l == 0 else decide (1 < n) && decide (n ≤ 5) && l == 1
theorem isAgg_any (n l : Int) (w : World) :
    Calls Tryz.prog 89 #[.int .i64 n, .int .i64 l] w fun e w' => e = .returned (.bool (aggB n l)) ∧ w' = w := by
  go_enter Tryz.func89, Tryz.ntmps89
  go_wp2
  all_goals
    go_ret
    exact ⟨ret_bool (by simp_all [aggB] <;> omega), rfl⟩
def namelessB (h : Hd) : Bool := h.tab.toList.isEmpty && h.col.toList.isEmpty
def valuelessB (h : Hd) : Bool := eqV h.vk h.vn h.vs 0 0 ⟨#[]⟩
/-- What the program asks of an expression beside its parts. -/
def fitsB (h : Hd) (len : Nat) : Bool :=
  if h.k = 1 then litB h.vk h.vn h.vs && h.n == 0 && namelessB h && (len : Int) == 0
  else if h.k = 2 then colB h.tab h.col && decide (0 ≤ h.n) && decide (h.n < 32) && valuelessB h && (len : Int) == 0
  else if h.k = 3 then decide (0 < arI h.n) && ((len : Int) == arI h.n) && namelessB h && valuelessB h
  else if h.k = 4 then aggB h.n len && namelessB h && valuelessB h
  else false
/-- Texts of an expression that are short enough to be looked at. -/
structure Sm (h : Hd) : Prop where
  t : h.tab.size ≤ 200
  c : h.col.size ≤ 200
  v : h.vs.size ≤ 500
theorem box8 {w w1 : World} {h : Hd} {A : Option Addr} {len cap : Nat} (hb : Below (w.alloc (xbox h A len cap)).heap.size (w.alloc (xbox h A len cap)) w1) : XC w1 w.heap.size 0 h A len cap := by
  have k : ∀ o, w1.cell? ⟨w.heap.size, o, none⟩ = (w.alloc (xbox h A len cap)).cell? ⟨w.heap.size, o, none⟩ := fun o => hb.cell (p := ⟨w.heap.size, o, none⟩) (by simp)
  exact ⟨(k _).trans (by simp), (k _).trans (by simp), (k _).trans (by simp), (k _).trans (by simp), (k _).trans (by simp), (k _).trans (by simp), (k _).trans (by simp), (k _).trans (by simp)⟩
theorem box8v {w w1 : World} {a0 a1 a2 a3 a4 a5 a6 a7 : Value} {T : TypeId} (hb : Below (w.alloc (.cells #[a0, a1, a2, a3, a4, a5, a6, a7] T)).heap.size (w.alloc (.cells #[a0, a1, a2, a3, a4, a5, a6, a7] T)) w1) :
    w1.cell? ⟨w.heap.size, 0, none⟩ = some a0 ∧ w1.cell? ⟨w.heap.size, 1, none⟩ = some a1 ∧ w1.cell? ⟨w.heap.size, 2, none⟩ = some a2 ∧ w1.cell? ⟨w.heap.size, 3, none⟩ = some a3 ∧
    w1.cell? ⟨w.heap.size, 4, none⟩ = some a4 ∧ w1.cell? ⟨w.heap.size, 5, none⟩ = some a5 ∧ w1.cell? ⟨w.heap.size, 6, none⟩ = some a6 ∧ w1.cell? ⟨w.heap.size, 7, none⟩ = some a7 := by
  have k : ∀ o, w1.cell? ⟨w.heap.size, o, none⟩ = (w.alloc (.cells #[a0, a1, a2, a3, a4, a5, a6, a7] T)).cell? ⟨w.heap.size, o, none⟩ := fun o => hb.cell (p := ⟨w.heap.size, o, none⟩) (by simp)
  exact ⟨(k _).trans (by simp), (k _).trans (by simp), (k _).trans (by simp), (k _).trans (by simp), (k _).trans (by simp), (k _).trans (by simp), (k _).trans (by simp), (k _).trans (by simp)⟩
theorem drNE (w : World) (n : Nat) : Below w.heap.size w (w.drewN n) := ⟨rfl, rfl, rfl, Nat.le_refl _, fun _ _ => rfl⟩
set_option maxRecDepth 100000 in
set_option maxHeartbeats 8000000 in
theorem fits_any (h : Hd) (A : Option Addr) (len cap : Nat) (w : World) (hs : Sm h) (hT : Tabs w) (hl : len ≤ 9223372036854775807) :
    Calls Tryz.prog 73 #[XV h A len cap] w fun e w' => e = .returned (.bool (fitsB h len)) ∧ Below w.heap.size w w' := by
  obtain ⟨k, n, vk, vn, vs, tab, col⟩ := h
  obtain ⟨ht, hc, hv⟩ := hs
  simp only at ht hc hv
  obtain ⟨bL, hbL⟩ : ∃ b, litB vk vn vs = b := ⟨_, rfl⟩
  obtain ⟨bK, hbK⟩ : ∃ b, colB tab col = b := ⟨_, rfl⟩
  have HL := Lib.hid (fun w1 => isLiteral_any vk vn vs w1 (by omega))
  have HC := Lib.hid (isColumn_any tab col (w.alloc (xbox ⟨k, n, vk, vn, vs, tab, col⟩ A len cap)) (by omega) (by omega) (hT.kept (ba _ _)))
  rw [hbL] at HL
  rw [hbK] at HC
  have hq := fun w1 => run_eqV vk vn vs 0 0 ⟨#[]⟩ w1
  obtain ⟨bT, hbT⟩ : ∃ b, tab.toList.isEmpty = b := ⟨_, rfl⟩
  obtain ⟨bC, hbC⟩ : ∃ b, col.toList.isEmpty = b := ⟨_, rfl⟩
  obtain ⟨bV, hbV⟩ : ∃ b, eqV vk vn vs 0 0 ⟨#[]⟩ = b := ⟨_, rfl⟩
  rw [hbV] at hq
  have HN := Lib.hid (show namelessB ⟨k, n, vk, vn, vs, tab, col⟩ = (bT && bC) by rw [namelessB, hbT, hbC])
  have HV := Lib.hid (show valuelessB ⟨k, n, vk, vn, vs, tab, col⟩ = bV from hbV)
  have HBx := Lib.hid (ba w (xbox ⟨k, n, vk, vn, vs, tab, col⟩ A len cap))
  have HF := Lib.hid (show fitsB ⟨k, n, vk, vn, vs, tab, col⟩ len =
      if k = 1 then bL && n == 0 && (bT && bC) && (len : Int) == 0
      else if k = 2 then bK && decide (0 ≤ n) && decide (n < 32) && bV && (len : Int) == 0
      else if k = 3 then decide (0 < arI n) && ((len : Int) == arI n) && (bT && bC) && bV
      else if k = 4 then aggB n len && (bT && bC) && bV else false by
    unfold fitsB; rw [HN.out, HV.out]; simp only [hbL, hbK])
  clear hbV hT hv hbL hbK HN HV ht hc
  by_cases h1 : k = 1
  · subst h1
    simp only [if_true] at HF
    cases bT <;> cases bC
    all_goals
      go_enter Tryz.func73, Tryz.ntmps73
      go_wp2_with fail
      refine (HL.out _).mono ?_
      rintro e w1 ⟨rfl, hb1⟩
      obtain ⟨c0, c1, c2, c3, c4, c5, c6, c7⟩ := box8v hb1
      have HB1 := Lib.hid (bt HBx.out hb1)
      clear hb1
      cases bL
      all_goals
        go_wp2
        all_goals
          go_ret
          exact ⟨ret_bool (by rw [HF.out]; simp_all <;> (intros; omega)), HB1.out⟩
  · rw [if_neg h1] at HF
    by_cases h2 : k = 2
    · subst h2
      simp only [if_true] at HF
      cases bV
      all_goals
        go_enter Tryz.func73, Tryz.ntmps73
        go_wp2_with fail
        all_goals
          refine HC.out.mono ?_
          rintro e w1 ⟨rfl, hb1⟩
          obtain ⟨c0, c1, c2, c3, c4, c5, c6, c7⟩ := box8v hb1
          have HB1 := Lib.hid (bt HBx.out hb1)
          clear hb1
          cases bK
          all_goals
            go_wp2
            all_goals
              go_ret
              exact ⟨ret_bool (by rw [HF.out]; simp_all <;> (intros; omega)), HB1.out⟩
    · rw [if_neg h2] at HF
      by_cases h3 : k = 3
      · subst h3
        simp only [if_true] at HF
        rcases (show bT = false ∨ (bT = true ∧ bC = false) ∨ (bT = true ∧ bC = true) by cases bT <;> cases bC <;> simp) with hx | ⟨hx, hy⟩ | ⟨hx, hy⟩
        all_goals
          subst hx
          try subst hy
          go_enter Tryz.func73, Tryz.ntmps73
          go_wp2_with fail
          go_upto_region 9 with fail
          obtain ⟨a, ha⟩ : ∃ a, arI n = a := ⟨_, rfl⟩
          have HAr := Lib.hid (fun w1 => arity_any n w1)
          rw [ha] at HF HAr
          clear ha
          by_cases hp : 0 < a
          · by_cases hla : (len : Int) = a
            · subst hla
              have hpn : 0 < len := by omega
              have hpd : decide (0 < len) = true := by simpa using hpn
              clear hp
              go_quiet ((go_at_call 88; exact Calls.quiet_of_same (HAr.out _)))
              go_wp2_with fail
              go_ret
              exact ⟨ret_bool (by rw [HF.out]; simp_all <;> (intros; omega)), bt HBx.out (drNE _ _)⟩
            · have hpb : decide (0 < a) = true := by simpa using hp
              have hlb : ((len : Int) == a) = false := by simpa using hla
              go_quiet ((go_at_call 88; exact Calls.quiet_of_same (HAr.out _)))
              go_wp2_with fail
              go_ret
              exact ⟨ret_bool (by rw [HF.out]; simp_all <;> (intros; omega)), bt HBx.out (drNE _ _)⟩
          · have hpb : decide (0 < a) = false := by simpa using hp
            go_quiet ((go_at_call 88; exact Calls.quiet_of_same (HAr.out _)))
            go_wp2_with fail
            go_ret
            exact ⟨ret_bool (by rw [HF.out]; simp_all <;> (intros; omega)), bt HBx.out (drNE _ _)⟩
      · rw [if_neg h3] at HF
        by_cases h4 : k = 4
        · subst h4
          simp only [if_true] at HF
          cases bT <;> cases bC <;> cases bV
          all_goals
            go_enter Tryz.func73, Tryz.ntmps73
            go_wp2_with fail
            refine (isAgg_any _ _ _).mono ?_
            rintro e w1 ⟨rfl, rfl⟩
            obtain ⟨bA, hbA⟩ : ∃ b, aggB n len = b := ⟨_, rfl⟩
            rw [hbA] at HF ⊢
            clear hbA
            cases bA
            all_goals
              go_wp2
              go_ret
              exact ⟨ret_bool (by rw [HF.out]; simp), HBx.out⟩
        · rw [if_neg h4] at HF
          cases bT <;> cases bC <;> cases bV
          all_goals
            go_enter Tryz.func73, Tryz.ntmps73
            go_wp2
            go_ret
            exact ⟨ret_bool HF.out.symm, HBx.out⟩
end Go.Proofs.YtpokpiphnggfpaaGreatDoor
end
