/-
  Cuts of signs, of numbers.
Cuts of numbers.
Cuts of texts.
Cuts.
All: the tokens of a text.
All, walked.
The document's Same: tokens alike.
Expressions copied; made.
copyAll, copyOf; Lit, Column, Op, Agg.
Queries of tokens, plainly: the reader, rows of operators, expressions. Where a token may not stand the reader is stuck: it takes none from then on.
-/
import Derived.Test.YtfjimoccliejdaaGreatDoorY1
import Derived.OwnWalk
import Derived.Laws.AppendOwn
import Derived.Laws.IdiomStrings
import Derived.Deep.Cut
import Derived.Deep.RegionHeld3
import Derived.Maps.AppendAt
section
namespace Go.Proofs.YtfjimoccliejdaaGreatDoor
open Go.RowKit Go.Shelf

theorem signs_len : Lx.signs.length = 15 := by decide +kernel
theorem find_at {p : Lx.B → Bool} : ∀ {l : List Lx.B} {k : Nat} {b : Lx.B}, l[k]? = some b → p b = true → (∀ j x, j < k → l[j]? = some x → p x = false) → l.find? p = some b
  | [], k, b, h, _, _ => by simp at h
  | x :: l, 0, b, h, hp, _ => by obtain rfl : x = b := by simpa using h
                                 rw [List.find?_cons, hp]
  | x :: l, k + 1, b, h, hp, ha => by
    rw [List.find?_cons, ha 0 x (by omega) rfl]
    exact find_at (k := k) (by simpa using h) hp fun j y hj hy => ha (j + 1) y (by omega) (by simpa using hy)

/-- A token is stored into a box. -/
theorem tset {w : World} {U : Nat} {a0 a1 a2 a3 : Value} {T : TypeId} (h : w.heap[U]? = some (.cells #[a0, a1, a2, a3] T (0, 0))) (b0 b1 b2 b3 : Value) :
    ((((w.setCell ⟨U, 0, none⟩ b0).setCell ⟨U, 1, none⟩ b1).setCell ⟨U, 2, none⟩ b2).setCell ⟨U, 3, none⟩ b3).heap[U]? = some (.cells #[b0, b1, b2, b3] T (0, 0)) := by
  simp only [World.setCell, Array.getElem?_modify, if_true, h]
  rfl
theorem tcell {w : World} {U : Nat} {b0 b1 b2 b3 : Value} {T : TypeId} (e : w.heap[U]? = some (.cells #[b0, b1, b2, b3] T (0, 0))) :
    (w.cell? ⟨U, 0, none⟩ = some b0 ∧ w.cell? ⟨U, 1, none⟩ = some b1 ∧ w.cell? ⟨U, 2, none⟩ = some b2 ∧ w.cell? ⟨U, 3, none⟩ = some b3) ∧
    w.frozen? ⟨U, 0, none⟩ = false ∧ w.frozen? ⟨U, 1, none⟩ = false ∧ w.frozen? ⟨U, 2, none⟩ = false ∧ w.frozen? ⟨U, 3, none⟩ = false :=
  ⟨⟨by simp only [World.cell?, e]; rfl, by simp only [World.cell?, e]; rfl, by simp only [World.cell?, e]; rfl, by simp only [World.cell?, e]; rfl⟩,
    by simp only [World.frozen?, e]; rfl, by simp only [World.frozen?, e]; rfl, by simp only [World.frozen?, e]; rfl, by simp only [World.frozen?, e]; rfl⟩
abbrev tokO (T : TypeId) : Obj := .cells #[.int .i64 0, .string ⟨#[]⟩, .int .i64 0, .int .i64 0] T

set_option maxHeartbeats 1000000 in
theorem cutSign_any (s : ByteArray) (w : World) (hT : Tabs w) :
    Calls Tryz.prog 127 #[.string s] w fun e w' => ∃ v, e = .returned v ∧ CutV s (Lx.cutSign (bs s)) v ∧ Below w.heap.size w w' := by
  have HT := Lib.hid (hT.kept (ba w (.cells #[.int .i64 0, .string ⟨#[]⟩, .int .i64 0, .int .i64 0] 66)))
  have HBel := Lib.hid (ba w (.cells #[.int .i64 0, .string ⟨#[]⟩, .int .i64 0, .int .i64 0] 66))
  have HU := Lib.hid (show 1 < w.heap.size from lt_of_cell (hT.sg 0 _ rfl))
  have HX := Lib.hid ((MapKept.heap_alloc w (tokO 66)).1)
  clear hT
  go_enter Tryz.func127, Tryz.ntmps127
  go_wp2_with fail
  generalize w.alloc (.cells #[.int .i64 0, .string ⟨#[]⟩, .int .i64 0, .int .i64 0] 66) = W1 at HT HBel HX ⊢
  obtain ⟨U, hU⟩ : ∃ U, w.heap.size = U := ⟨_, rfl⟩
  have HUB := Lib.hid (show w.heap.size ≤ U by omega)
  rw [hU] at HX HU ⊢
  clear hU
  go_loop [5, 4] (fun i _ => ∃ k : Nat, k ≤ 15 ∧ i = .int .i64 k ∧ Hid (∀ j b, j < k → Lx.signs[j]? = some b → b.isPrefixOf (bs s) = false)) (fun i _ => 15 - (intOf i).toNat)
  case atStart => exact ⟨0, Nat.zero_le _, rfl, Lib.hid (fun j c h => absurd h (by omega))⟩
  case round =>
    obtain ⟨k, hk, rfl, HA⟩ := hrel
    by_cases hlt : k < 15
    · obtain ⟨b, hb⟩ : ∃ b, Lx.signs[k]? = some b := ⟨_, List.getElem?_eq_getElem (by rw [signs_len]; exact hlt)⟩
      have hc := HT.out.sg k b hb
      have HB := Lib.hid hb
      have HQ := Lib.hid (show bs (⟨b.toArray⟩ : ByteArray) = b from rfl)
      have HS2 := Lib.hid (show (⟨b.toArray⟩ : ByteArray).size = b.length by rw [← bs_len])
      clear hb
      generalize (⟨b.toArray⟩ : ByteArray) = kb at hc HQ HS2
      cases he : b.isPrefixOf (bs s)
      · go_wp2_with fail
        refine (Tryz.strings_HasPrefix _ _ _).mono ?_
        rintro e W1 ⟨rfl, rfl⟩
        rw [show Lib.hasPrefix s.data.toList kb.data.toList = false by rw [show kb.data.toList = b from HQ.out]; exact he]
        go_wp2_with fail
        go_round
        case rel =>
          refine ⟨k + 1, by omega, by go_num, Lib.hid (fun j x hj hx => ?_)⟩
          rcases Nat.lt_or_ge j k with h | h
          · exact HA.out j x h hx
          · obtain rfl : j = k := by omega
            rw [HB.out] at hx; obtain rfl := Option.some.inj hx; exact he
        case measure => simp [intOf]; omega
      · go_wp2_with fail
        refine (Tryz.strings_HasPrefix _ _ _).mono ?_
        rintro e W1 ⟨rfl, rfl⟩
        rw [show Lib.hasPrefix s.data.toList kb.data.toList = true by rw [show kb.data.toList = b from HQ.out]; exact he]
        go_wp2_with fail
        obtain ⟨⟨c0, c1, c2, c3⟩, f0, f1, f2, f3⟩ := tcell HX.out
        have hUV := HU.out
        have HS := Lib.hid (tset HX.out (.int .i64 5) (.string kb) (.int .i64 0) (.int .i64 0))
        have HE := Lib.hid (show Below w.heap.size w ((((W1.setCell ⟨U, 0, none⟩ (.int .i64 5)).setCell ⟨U, 1, none⟩ (.string kb)).setCell ⟨U, 2, none⟩ (.int .i64 0)).setCell ⟨U, 3, none⟩ (.int .i64 0)) from
          (((HBel.out.setCell HUB.out _).setCell HUB.out _).setCell HUB.out _).setCell HUB.out _)
        go_region
        go_wp2_with fail
        obtain ⟨⟨q0, q1, q2, q3⟩, _⟩ := tcell HS.out
        have HL := Lib.hid (show Lx.cutSign (bs s) = some (⟨5, b, 0⟩, b.length) by rw [Lx.cutSign, find_at HB.out he (fun j x hj hx => HA.out j x hj hx)]; rfl)
        refine bodyPost_ret (v := .tuple #[tokV 5 kb 0 0, .int .i64 kb.size]) (by simp [results, Tryz.results127, go_sem, q0, q1, q2, q3]) rfl ⟨_, rfl, ?_, Below.drew HE.out⟩
        rw [HL.out]
        refine ⟨?_, kb, HQ.out, by rw [HS2.out]; rfl⟩
        rw [← bs_len]
        exact (List.isPrefixOf_iff_prefix.1 he).length_le
    · have HF := Lib.hid (show Lx.cutSign (bs s) = none by
        rw [Lx.cutSign, List.find?_eq_none.2]; rfl
        intro x hx
        obtain ⟨j, hj⟩ := List.getElem?_of_mem hx
        have : j < 15 := by have := (List.getElem?_eq_some_iff.1 hj).1; rw [signs_len] at this; exact this
        rw [HA.out j x (by omega) hj]; decide)
      obtain ⟨⟨c0, c1, c2, c3⟩, f0, f1, f2, f3⟩ := tcell HX.out
      have HS := Lib.hid (tset HX.out (.int .i64 0) (.string ⟨#[]⟩) (.int .i64 0) (.int .i64 0))
      have HE := Lib.hid (show Below w.heap.size w ((((W1.setCell ⟨U, 0, none⟩ (.int .i64 0)).setCell ⟨U, 1, none⟩ (.string ⟨#[]⟩)).setCell ⟨U, 2, none⟩ (.int .i64 0)).setCell ⟨U, 3, none⟩ (.int .i64 0)) from
          (((HBel.out.setCell HUB.out _).setCell HUB.out _).setCell HUB.out _).setCell HUB.out _)
      go_wp2_with fail
      obtain ⟨⟨q0, q1, q2, q3⟩, _⟩ := tcell HS.out
      refine bodyPost_ret (v := noTok) (by simp [results, Tryz.results127, go_sem, q0, q1, q2, q3]) rfl ⟨_, rfl, ?_, HE.out⟩
      rw [HF.out]; rfl
end Go.Proofs.YtfjimoccliejdaaGreatDoor
end
section
namespace Go.Proofs.YtfjimoccliejdaaGreatDoor
open Go.RowKit Go.Shelf

theorem val_snoc (l : Lx.B) (c : UInt8) : Lx.val (l ++ [c]) = 10 * Lx.val l + (c.toNat - 48) := by simp [Lx.val, List.foldl_append]
theorem val_app (l r : Lx.B) : Lx.val l ≤ Lx.val (l ++ r) := by
  induction r generalizing l with
  | nil => simp
  | cons c r ih =>
    have := ih (l ++ [c])
    rw [List.append_assoc, List.singleton_append, val_snoc] at this
    omega
theorem val_take (l : Lx.B) (k : Nat) : Lx.val (l.take k) ≤ Lx.val l := by
  have := val_app (l.take k) (l.drop k)
  rwa [List.take_append_drop] at this
theorem bs_snoc (s : ByteArray) (k : Nat) (h : k < s.size) : (bs s).take (k + 1) = (bs s).take k ++ [s[k]] := by
  rw [List.take_add_one, bs_get s k h]; rfl

set_option maxHeartbeats 1000000 in
theorem cutNum_any (s : ByteArray) (w : World) (hs : s.size ≤ 9223372036854775807) :
    Calls Tryz.prog 125 #[.string s] w fun e w' => ∃ v, e = .returned v ∧ CutV s (Lx.cutNum (bs s)) v ∧ Below w.heap.size w w' := by
  have HBel := Lib.hid (ba w (.cells #[.int .i64 0, .string ⟨#[]⟩, .int .i64 0, .int .i64 0] 66))
  obtain ⟨W, hz⟩ : ∃ W, (bs s).takeWhile Lx.digit = W := ⟨_, rfl⟩
  obtain ⟨n, hn⟩ : ∃ n, W.length = n := ⟨_, rfl⟩
  have hr : n ≤ s.size := by rw [← hn, ← hz, ← bs_len]; exact Lx.takeWhile_le _ _
  have HK := Lib.hid (show (bs s).take n = W by rw [← hn, ← hz, Lx.takeWhile_take])
  have HX := Lib.hid (show bs (s.extract 0 n) = W by rw [bs_extract, List.drop_zero, HK.out])
  have HZ := Lib.hid (show Lx.cutNum (bs s) = if (((bs s).drop n).head?.any Lx.letter) = true then none else if 9007199254740991 < Lx.val W then none else some (⟨3, W, Lx.val W⟩, n) by subst hz hn; rfl)
  have HW := Lib.hid (show ((bs s).takeWhile Lx.digit).length = n by rw [hz, hn])
  have HG := Lib.hid (show ∀ (k : Nat) (h : k < s.size), k < n → Lx.digit s[k] = true by
    intro k h hk
    refine Lx.takeWhile_mem Lx.digit (bs s) _ ?_
    rw [hz]
    refine List.mem_of_getElem? (i := k) ?_
    rw [← HK.out, List.getElem?_take_of_lt hk, bs_get s k h])
  clear hz hn
  by_cases hl : ∃ h : n < s.size, Lx.letter s[n] = true
  · obtain ⟨hlt, hl⟩ := hl
    have HF := Lib.hid (show Lx.cutNum (bs s) = none by rw [HZ.out, if_pos]; rw [bs_drop s n hlt]; exact hl)
    go_enter Tryz.func125, Tryz.ntmps125
    go_wp2_with fail
    refine (runD _ _ (by omega)).mono ?_
    rintro e w' ⟨rfl, rfl⟩
    rw [HW.out]
    go_wp2_with fail
    refine (isLetter_any s[n] _).mono ?_
    rintro e w' ⟨rfl, rfl⟩
    rw [hl]
    go_wp2_with fail
    refine bodyPost_ret (v := noTok) (by simp [results, Tryz.results125, go_sem]) rfl ⟨_, rfl, ?_, HBel.out⟩
    rw [HF.out]; rfl
  · have HF := Lib.hid (show Lx.cutNum (bs s) = if 9007199254740991 < Lx.val W then none else some (⟨3, W, Lx.val W⟩, n) by
      rw [HZ.out, if_neg]
      intro h
      rcases Nat.lt_or_ge n s.size with hlt | hge
      · rw [bs_drop s n hlt] at h; exact hl ⟨hlt, h⟩
      · rw [List.drop_eq_nil_iff.2 (by rw [bs_len]; omega)] at h; cases h)
    go_enter Tryz.func125, Tryz.ntmps125
    go_wp2_with fail
    refine (runD _ _ (by omega)).mono ?_
    rintro e w' ⟨rfl, rfl⟩
    rw [HW.out]
    by_cases hlt : n < s.size
    · have hl' : Lx.letter s[n] = false := by
        cases h : Lx.letter s[n]
        · rfl
        · exact absurd ⟨hlt, h⟩ hl
      clear hl
      go_wp2_with fail
      refine (isLetter_any s[n] _).mono ?_
      rintro e w' ⟨rfl, rfl⟩
      rw [hl']
      go_wp2_with fail
      go_loop [21, 5, 6] (fun i v _ => ∃ k : Nat, k ≤ n ∧ i = .int .i64 k ∧ v = .int .i64 (Lx.val ((bs s).take k) : Nat) ∧ Lx.val ((bs s).take k) ≤ 9007199254740991) (fun i _ _ => n - (intOf i).toNat)
      case atStart => exact ⟨0, Nat.zero_le _, rfl, by simp [Lx.val], by simp [Lx.val]⟩
      case round =>
        obtain ⟨k, hk, rfl, rfl, hv⟩ := hrel
        by_cases hkn : k < n
        · have hks : k < s.size := by omega
          have HS := Lib.hid (show Lx.val ((bs s).take (k + 1)) = 10 * Lx.val ((bs s).take k) + (s[k].toNat - 48) by rw [bs_snoc s k hks, val_snoc])
          have hd : 48 ≤ s[k].toNat ∧ s[k].toNat ≤ 57 := by simpa [Lx.digit] using HG.out k hks hkn
          have HM := Lib.hid (show Lx.val ((bs s).take (k + 1)) ≤ Lx.val W by
            have e : (bs s).take (k + 1) = W.take (k + 1) := by rw [← HK.out, List.take_take, Nat.min_eq_left (by omega)]
            rw [e]; exact val_take _ _)
          generalize Lx.val ((bs s).take k) = v at hv HS ⊢
          by_cases hb : 9007199254740991 < 10 * v + (s[k].toNat - 48)
          · have hb' : 9007199254740991 < 10 * (v : Int) + ((s[k].toNat : Int) - 48) := by omega
            go_wp2_with fail
            refine bodyPost_ret (v := noTok) (by simp [results, Tryz.results125, go_sem]) rfl ⟨_, rfl, ?_, HBel.out⟩
            rw [HF.out, if_pos (by have := HM.out; rw [HS.out] at this; omega)]; rfl
          · have hb' : ¬ 9007199254740991 < 10 * (v : Int) + ((s[k].toNat : Int) - 48) := by omega
            go_wp2_with fail
            go_round
            case rel => exact ⟨k + 1, by omega, by go_num, by rw [HS.out]; go_num, by rw [HS.out]; omega⟩
            case measure => simp [intOf]; omega
        · obtain rfl : k = n := by omega
          rw [HK.out] at hv ⊢
          go_wp2_with fail
          refine bodyPost_ret (v := .tuple #[tokV 3 (s.extract 0 k) (Lx.val W : Nat) 0, .int .i64 k]) (by simp [results, Tryz.results125, go_sem]) rfl ⟨_, rfl, ?_, ba w _⟩
          rw [HF.out, if_neg (by omega)]
          exact ⟨hr, _, HX.out, rfl⟩
    · clear hl
      go_wp2_with fail
      go_loop [21, 5, 6] (fun i v _ => ∃ k : Nat, k ≤ n ∧ i = .int .i64 k ∧ v = .int .i64 (Lx.val ((bs s).take k) : Nat) ∧ Lx.val ((bs s).take k) ≤ 9007199254740991) (fun i _ _ => n - (intOf i).toNat)
      case atStart => exact ⟨0, Nat.zero_le _, rfl, by simp [Lx.val], by simp [Lx.val]⟩
      case round =>
        obtain ⟨k, hk, rfl, rfl, hv⟩ := hrel
        by_cases hkn : k < n
        · have hks : k < s.size := by omega
          have HS := Lib.hid (show Lx.val ((bs s).take (k + 1)) = 10 * Lx.val ((bs s).take k) + (s[k].toNat - 48) by rw [bs_snoc s k hks, val_snoc])
          have hd : 48 ≤ s[k].toNat ∧ s[k].toNat ≤ 57 := by simpa [Lx.digit] using HG.out k hks hkn
          have HM := Lib.hid (show Lx.val ((bs s).take (k + 1)) ≤ Lx.val W by
            have e : (bs s).take (k + 1) = W.take (k + 1) := by rw [← HK.out, List.take_take, Nat.min_eq_left (by omega)]
            rw [e]; exact val_take _ _)
          generalize Lx.val ((bs s).take k) = v at hv HS ⊢
          by_cases hb : 9007199254740991 < 10 * v + (s[k].toNat - 48)
          · have hb' : 9007199254740991 < 10 * (v : Int) + ((s[k].toNat : Int) - 48) := by omega
            go_wp2_with fail
            refine bodyPost_ret (v := noTok) (by simp [results, Tryz.results125, go_sem]) rfl ⟨_, rfl, ?_, HBel.out⟩
            rw [HF.out, if_pos (by have := HM.out; rw [HS.out] at this; omega)]; rfl
          · have hb' : ¬ 9007199254740991 < 10 * (v : Int) + ((s[k].toNat : Int) - 48) := by omega
            go_wp2_with fail
            go_round
            case rel => exact ⟨k + 1, by omega, by go_num, by rw [HS.out]; go_num, by rw [HS.out]; omega⟩
            case measure => simp [intOf]; omega
        · obtain rfl : k = n := by omega
          rw [HK.out] at hv ⊢
          go_wp2_with fail
          refine bodyPost_ret (v := .tuple #[tokV 3 (s.extract 0 k) (Lx.val W : Nat) 0, .int .i64 k]) (by simp [results, Tryz.results125, go_sem]) rfl ⟨_, rfl, ?_, ba w _⟩
          rw [HF.out, if_neg (by omega)]
          exact ⟨hr, _, HX.out, rfl⟩
end Go.Proofs.YtfjimoccliejdaaGreatDoor
end
section
namespace Go.Proofs.YtfjimoccliejdaaGreatDoor
open Go.RowKit Go.Shelf

theorem info_byte : (Tryz.prog.info? 5).map (fun i => (i.zero, i.size, i.bytes)) = some (some (.int .u8 0), 1, 1) := by kernel_rfl
theorem infoX_parts {t : TypeId} {z : Value} {n b : Nat} (h : (Tryz.prog.info? t).map (fun i => (i.zero, i.size, i.bytes)) = some (some z, n, b)) :
    ∃ i, Tryz.prog.info? t = some i ∧ i.zero = some z ∧ i.size = n ∧ i.bytes = b := by
  cases hi : Tryz.prog.info? t with
  | none => rw [hi] at h; cases h
  | some i => rw [hi] at h; simp at h; exact ⟨i, rfl, h.1, h.2.1, h.2.2⟩
abbrev u8s (l : Lx.B) : List Value := l.map fun c => .int .u8 (c.toNat : Int)
/-- Bytes of the call's own, told. -/
structure Said (base : Nat) (W1 W : World) (v : Value) (said : Lx.B) : Prop where
  own : W.ownsRow base 5 1 v said.length (u8s said)
  bel : Below base W1 W
  le : base ≤ W.heap.size
theorem Said.slice {base : Nat} {W1 W : World} {v : Value} {said : Lx.B} (h : Said base W1 W v said) : ∃ A cap, v = .slice A said.length cap := by
  rcases h.own.2 with ⟨rfl, h0⟩ | ⟨g, cap, cur, hv, _⟩
  · rw [h0]; exact ⟨none, 0, rfl⟩
  · exact ⟨_, cap, hv⟩
theorem Said.str {base : Nat} {W1 W : World} {v : Value} {said : Lx.B} (h : Said base W1 W v said) : (convert 78 9 v).run Tryz.prog W = .ok (.string ⟨said.toArray⟩) W := by
  rcases h.own.2 with ⟨rfl, h0⟩ | ⟨g, cap, cur, hv, hb, hg, hc, hm, hsz, ht⟩
  · obtain rfl : said = [] := List.eq_nil_of_length_eq_zero h0
    exact run_convert_bytes_nil W _ _ Tryz.underlying78 Tryz.underlying5 0 0 _ Tryz.underlying9
  · subst hv
    refine run_convert_bytes_back W _ _ _ _ cap said Tryz.underlying78 Tryz.underlying5 Tryz.underlying9 fun j hj => ?_
    have e : cur.toList[j]? = (u8s said)[j]? := by rw [← ht, List.getElem?_take_of_lt (by omega)]
    have e2 : (⟨g, 0, none⟩ : Addr).add j = ⟨g, j, none⟩ := by simp only [Addr.add]; split <;> simp_all
    have e3 : W.cell? ⟨g, j, none⟩ = cur[j]? := by simp [World.cell?, hg]
    rw [e2, e3, ← Array.getElem?_toList, e]
    simp [List.getElem?_eq_getElem hj]
theorem Said.grow {base : Nat} {W1 W : World} {v : Value} {said : Lx.B} (h : Said base W1 W v said) (c : UInt8) {o : Obj} {v' : Value} {w' : World} (ho : w'.ownsRow base 5 1 v' (said.length + 1) (u8s said ++ [.int .u8 (c.toNat : Int)])) (hg : (W.alloc o).grownBy w' v.ownBlock) : Said base W1 w' v' (said ++ [c]) := by
  have hle := h.le
  have hs := hg.size
  rw [World.size_alloc] at hs
  refine ⟨by simpa using ho, h.bel.trans (((Below.refl base W).alloc hle _).trans ((Below.refl base (W.alloc o)).grown hg (by rw [World.size_alloc]; omega) (fun k hk => ?_))), by omega⟩
  exact (h.own.lt k hk).1
theorem Said.box {base U : Nat} {W1 W : World} {v : Value} {said : Lx.B} (h : Said base W1 W v said) (hU : U < base) {o : Obj} (hx : W1.heap[U]? = some o) : W.heap[U]? = some o :=
  (h.bel.block U hU).trans hx

theorem below_tok {B U : Nat} {w W : World} (h : Below B w W) (hU : B ≤ U) (b0 b1 b2 b3 : Value) : Below B w ((((W.setCell ⟨U, 0, none⟩ b0).setCell ⟨U, 1, none⟩ b1).setCell ⟨U, 2, none⟩ b2).setCell ⟨U, 3, none⟩ b3) :=
  (((h.setCell (p := ⟨U, 0, none⟩) hU b0).setCell (p := ⟨U, 1, none⟩) hU b1).setCell (p := ⟨U, 2, none⟩) hU b2).setCell (p := ⟨U, 3, none⟩) hU b3
theorem quotes {r : Lx.B} : Lib.hasPrefix (39 :: r) [39, 39] = decide (r.head? = some 39) := by
  cases r with
  | nil => rfl
  | cons x r =>
    by_cases h : x = 39
    · subst h; simp [Lib.hasPrefix]
    · simp [Lib.hasPrefix, List.isPrefixOf, h, Ne.symm h]
theorem txq_quote {r s : Lx.B} (h : s.length ≤ 64) : Lx.txq false (39 :: r) s = Lx.txq true r s := by rw [Lx.txq, if_neg (by omega), if_pos rfl]
theorem txq_end {r s : Lx.B} (h : r.head? ≠ some 39) : Lx.txq true r s = some (s, r) := by
  cases r with
  | nil => rfl
  | cons c r => rw [Lx.txq, if_neg (by simpa using h)]
theorem txq_two {r s : Lx.B} : Lx.txq true (39 :: r) s = Lx.txq false r (s ++ [39]) := by rw [Lx.txq, if_pos rfl]
theorem txq_byte {c : UInt8} {r s : Lx.B} (hc : c ≠ 39) (h : s.length ≤ 64) : Lx.txq false (c :: r) s = Lx.txq false r (s ++ [c]) := by rw [Lx.txq, if_neg (by omega), if_neg hc]
theorem txq_long {r s : Lx.B} (h : 64 < s.length) : Lx.txq false r s = none := by
  cases r with
  | nil => rfl
  | cons c r => rw [Lx.txq, if_pos h]

set_option maxRecDepth 100000 in
set_option maxHeartbeats 2000000 in
theorem cutText_any (s : ByteArray) (w : World) (hs : s.size ≤ 9223372036854775807) (h1 : 1 ≤ s.size) :
    Calls Tryz.prog 126 #[.string s] w fun e w' => ∃ v, e = .returned v ∧ CutV s (Lx.cutText (bs s)) v ∧ Below w.heap.size w w' := by
  obtain ⟨i0, hi, hz0, hz1, hz2⟩ := infoX_parts info_byte
  have HBel := Lib.hid (ba w (tokO 66))
  have HX := Lib.hid ((MapKept.heap_alloc w (tokO 66)).1)
  have HSz := Lib.hid (show w.heap.size < (w.alloc (tokO 66)).heap.size by rw [World.size_alloc]; omega)
  have HT := Lib.hid (show ∀ o, Lx.txq false ((bs s).drop 1) [] = o → Lx.cutText (bs s) = o.map fun x => (⟨4, x.1, 0⟩, (bs s).length - x.2.length) from fun o ho => by rw [Lx.cutText, ho])
  obtain ⟨R, hR⟩ : ∃ R, Lx.txq false ((bs s).drop 1) [] = R := ⟨_, rfl⟩
  have HF := Lib.hid (HT.out R hR)
  have HR := Lib.hid hR
  clear HT hR
  go_enter Tryz.func126, Tryz.ntmps126
  go_wp2_with fail
  generalize w.alloc (.cells #[.int .i64 0, .string ⟨#[]⟩, .int .i64 0, .int .i64 0] 66) = W1 at HBel HX HSz ⊢
  obtain ⟨U, hU⟩ : ∃ U, w.heap.size = U := ⟨_, rfl⟩
  have HUB := Lib.hid (show w.heap.size ≤ U by omega)
  rw [hU] at HX HSz ⊢
  clear hU
  go_loopw [5, 4] (fun i v W => ∃ (k : Nat) (said : Lx.B), k ≤ s.size ∧ said.length ≤ 65 ∧ i = .int .i64 k ∧ Hid (Said W1.heap.size W1 W v said) ∧ Hid (Lx.txq false ((bs s).drop k) said = R)) (fun i _ _ => s.size - (intOf i).toNat)
  case atStart => exact ⟨1, [], h1, by simp, rfl, Lib.hid ⟨World.ownsRow_nil _ _ _ _, Below.refl _ _, Nat.le_refl _⟩, HR⟩
  case round =>
    obtain ⟨k, said, hk, hl, rfl, HS, HQ⟩ := hrel
    obtain ⟨A, cap, hv⟩ := HS.out.slice
    subst hv
    by_cases hkn : k < s.size
    · have hD := bs_drop s k hkn
      by_cases hl64 : said.length ≤ 64
      · by_cases hc : s[k] = 39
        · have HC := Lib.hid hc
          have hcn : (s[k].toNat : Int) = 39 := by rw [hc]; rfl
          have HP := Lib.hid (show Lib.hasPrefix (bs (s.extract k s.size)) [39, 39] = decide (((bs s).drop (k + 1)).head? = some 39) by rw [bs_from, hD, hc, quotes])
          have HQ2 := Lib.hid (show Lx.txq true ((bs s).drop (k + 1)) said = R by rw [← HQ.out, hD, hc, txq_quote hl64])
          clear hD hc
          by_cases hn : ((bs s).drop (k + 1)).head? = some 39
          · have hk1 : k + 1 < s.size := by
              rcases Nat.lt_or_ge (k + 1) s.size with h | h
              · exact h
              · rw [List.drop_eq_nil_iff.2 (by rw [bs_len]; omega)] at hn; cases hn
            have hD1 := bs_drop s (k + 1) hk1
            have hc1 : s[k + 1] = 39 := by rw [hD1] at hn; simpa using hn
            have HN := Lib.hid (show Lx.txq false ((bs s).drop (k + 1 + 1)) (said ++ [39]) = R by rw [← HQ2.out, hD1, hc1, txq_two])
            have hcm : (s[k + 1].toNat : Int) = 39 := by rw [hc1]; rfl
            have HP2 := Lib.hid (HP.out.trans (decide_eq_true hn))
            clear hD1 hc1 hn
            go_wp2_with fail
            refine (Tryz.strings_HasPrefix _ _ _).mono ?_
            rintro e wr ⟨rfl, rfl⟩
            rw [show Lib.hasPrefix (s.extract k s.size).data.toList [39, 39] = true from HP2.out]
            go_wp2_with (at_builtin; refine wpList_append_own _ rfl _ _ 78 rfl W1.heap.size 5 i0 (.int .u8 0) 1 1 Tryz.underlying78 hi hz0 hz1 hz2 rfl (by decide) _ _ _ rfl (HS.out.own.alloc _) ⟨wr.heap.size, 0, none⟩ 1 1 [.int .u8 ((39 : UInt8).toNat : Int)] rfl rfl ?c1 ?c2 ?c3 ?c4 ?c5 ?_)
            case c1 =>
              intro j u hj
              match j, hj with
              | 0, hj => simp at hj; subst hj; simp [Addr.add]
            case c2 => intro u hu; simp at hu; subst hu; rfl
            case c3 => unfold maxLen; omega
            case c4 => omega
            case c5 => have := HS.out.le; simp; omega
            intro v' w1 hown' hg _
            have HG := Lib.hid (HS.out.grow 39 hown' hg)
            clear hown' hg
            go_wp2_with fail
            go_roundw
            case rel => exact ⟨k + 1 + 1, said ++ [39], by omega, by simp; omega, by go_num, HG, HN⟩
            case measure => simp [intOf]; omega
          · have HN := Lib.hid (show R = some (said, (bs s).drop (k + 1)) by rw [← HQ2.out, txq_end hn])
            have HP2 := Lib.hid (HP.out.trans (decide_eq_false hn))
            clear hn
            go_wp2_with fail
            refine (Tryz.strings_HasPrefix _ _ _).mono ?_
            rintro e wr ⟨rfl, rfl⟩
            rw [show Lib.hasPrefix (s.extract k s.size).data.toList [39, 39] = false from HP2.out]
            have hx := HS.out.box HSz.out HX.out
            obtain ⟨⟨c0, c1, c2, c3⟩, f0, f1, f2, f3⟩ := tcell hx
            have hstr := HS.out.str
            have HS2 := Lib.hid (tset hx (.int .i64 4) (.string ⟨said.toArray⟩) (.int .i64 0) (.int .i64 0))
            have HE := Lib.hid (below_tok (HBel.out.trans (HS.out.bel.mono (by have := HBel.out.size; omega))) HUB.out (.int .i64 4) (.string ⟨said.toArray⟩) (.int .i64 0) (.int .i64 0))
            clear hx
            go_wp2_with fail
            obtain ⟨⟨q0, q1, q2, q3⟩, _⟩ := tcell HS2.out
            refine bodyPost_ret (v := .tuple #[tokV 4 ⟨said.toArray⟩ 0 0, .int .i64 ((k + 1 : Nat))]) (by simp [results, Tryz.results126, go_sem, q0, q1, q2, q3]) rfl ⟨_, rfl, ?_, HE.out⟩
            rw [HF.out, HN.out]
            refine ⟨by simp only [bs_len, List.length_drop]; omega, ⟨said.toArray⟩, rfl, ?_⟩
            simp only [bs_len, List.length_drop]
            rw [show s.size - (s.size - (k + 1)) = k + 1 by omega]; rfl
        · have HN := Lib.hid (show Lx.txq false ((bs s).drop (k + 1)) (said ++ [s[k]]) = R by rw [← HQ.out, hD, txq_byte hc hl64])
          have hcn : ¬ (s[k].toNat : Int) = 39 := by
            intro h; apply hc
            apply UInt8.toNat_inj.1
            have : s[k].toNat = 39 := by omega
            rw [this]; rfl
          clear hD hc
          go_wp2_with (at_builtin; refine wpList_append_own _ rfl _ _ 78 rfl W1.heap.size 5 i0 (.int .u8 0) 1 1 Tryz.underlying78 hi hz0 hz1 hz2 rfl (by decide) _ _ _ rfl (HS.out.own.alloc _) ⟨wr.heap.size, 0, none⟩ 1 1 [.int .u8 (s[k].toNat : Int)] rfl rfl ?c1 ?c2 ?c3 ?c4 ?c5 ?_)
          case c1 =>
            intro j u hj
            match j, hj with
            | 0, hj => simp at hj; subst hj; simp [Addr.add]
          case c2 => intro u hu; simp at hu; subst hu; rfl
          case c3 => unfold maxLen; omega
          case c4 => omega
          case c5 => have := HS.out.le; simp; omega
          intro v' w1 hown' hg _
          have HG := Lib.hid (HS.out.grow s[k] hown' hg)
          clear hown' hg
          go_wp2_with fail
          go_roundw
          case rel => exact ⟨k + 1, said ++ [s[k]], by omega, by simp; omega, by go_num, HG, HN⟩
          case measure => simp [intOf]; omega
      · have HN := Lib.hid (show R = none by rw [← HQ.out, txq_long (by omega)])
        clear hD
        have hx := HS.out.box HSz.out HX.out
        obtain ⟨⟨c0, c1, c2, c3⟩, f0, f1, f2, f3⟩ := tcell hx
        have HS2 := Lib.hid (tset hx (.int .i64 0) (.string ⟨#[]⟩) (.int .i64 0) (.int .i64 0))
        have HE := Lib.hid (below_tok (HBel.out.trans (HS.out.bel.mono (by have := HBel.out.size; omega))) HUB.out (.int .i64 0) (.string ⟨#[]⟩) (.int .i64 0) (.int .i64 0))
        clear hx
        go_wp2_with fail
        obtain ⟨⟨q0, q1, q2, q3⟩, _⟩ := tcell HS2.out
        refine bodyPost_ret (v := noTok) (by simp [results, Tryz.results126, go_sem, q0, q1, q2, q3]) rfl ⟨_, rfl, ?_, HE.out⟩
        rw [HF.out, HN.out]; rfl
    · have HN := Lib.hid (show R = none by rw [← HQ.out, List.drop_eq_nil_iff.2 (by rw [bs_len]; omega)]; rfl)
      have hx := HS.out.box HSz.out HX.out
      obtain ⟨⟨c0, c1, c2, c3⟩, f0, f1, f2, f3⟩ := tcell hx
      have HS2 := Lib.hid (tset hx (.int .i64 0) (.string ⟨#[]⟩) (.int .i64 0) (.int .i64 0))
      have HE := Lib.hid (below_tok (HBel.out.trans (HS.out.bel.mono (by have := HBel.out.size; omega))) HUB.out (.int .i64 0) (.string ⟨#[]⟩) (.int .i64 0) (.int .i64 0))
      clear hx
      go_wp2_with fail
      obtain ⟨⟨q0, q1, q2, q3⟩, _⟩ := tcell HS2.out
      refine bodyPost_ret (v := noTok) (by simp [results, Tryz.results126, go_sem, q0, q1, q2, q3]) rfl ⟨_, rfl, ?_, HE.out⟩
      rw [HF.out, HN.out]; rfl
end Go.Proofs.YtfjimoccliejdaaGreatDoor
end
section
namespace Go.Proofs.YtfjimoccliejdaaGreatDoor
open Go.RowKit Go.Shelf

theorem CutV.form {s : ByteArray} {o : Option (Lx.Tok × Nat)} {v : Value} (h : CutV s o v) : ∃ k b n z, v = .tuple #[tokV k b n 0, .int .i64 z] := by
  cases o with
  | none => exact ⟨0, ⟨#[]⟩, 0, 0, h⟩
  | some x => obtain ⟨t, z⟩ := x; obtain ⟨_, b, _, hv⟩ := h; exact ⟨_, b, _, _, hv⟩
/-- What the cuts' box and world are behind a call. -/
theorem cut_end {w W1 W2 : World} {U : Nat} (hB : Below w.heap.size w W1) (hX : W1.heap[U]? = some (tokO 66)) (hb : Below W1.heap.size W1 W2) : Below w.heap.size w W2 ∧ W2.heap[U]? = some (tokO 66) := by
  refine ⟨hB.trans (hb.mono (by have := hB.size; omega)), (hb.block U ?_).trans hX⟩
  rcases Nat.lt_or_ge U W1.heap.size with h | h
  · exact h
  · rw [Array.getElem?_eq_none h] at hX; cases hX

set_option maxHeartbeats 2000000 in
theorem cut_any (s : ByteArray) (w : World) (hs : s.size ≤ 9223372036854775807) (hT : Tabs w) :
    Calls Tryz.prog 75 #[.string s] w fun e w' => ∃ v, e = .returned v ∧ CutV s (Lx.cut (bs s)) v ∧ Below w.heap.size w w' := by
  have HT := Lib.hid (hT.kept (ba w (tokO 66)))
  have HBel := Lib.hid (ba w (tokO 66))
  have HX := Lib.hid ((MapKept.heap_alloc w (tokO 66)).1)
  clear hT
  go_enter Tryz.func75, Tryz.ntmps75
  go_upto_region 1 with fail
  generalize w.alloc (.cells #[.int .i64 0, .string ⟨#[]⟩, .int .i64 0, .int .i64 0] 66) = W1 at HT HBel HX ⊢
  obtain ⟨U, hU⟩ : ∃ U, w.heap.size = U := ⟨_, rfl⟩
  have HUB := Lib.hid (show w.heap.size ≤ U by omega)
  rw [hU] at HX ⊢
  clear hU
  by_cases h0 : s.size = 0
  · have hE : s.toList.isEmpty = true := by
      rw [ByteArray.toList_eq, List.isEmpty_iff]
      exact List.eq_nil_of_length_eq_zero ((bs_len s).trans h0)
    have HN := Lib.hid (show Lx.cut (bs s) = some (⟨6, [], 0⟩, 0) by rw [List.eq_nil_of_length_eq_zero ((bs_len s).trans h0)]; rfl)
    obtain ⟨⟨c0, c1, c2, c3⟩, f0, f1, f2, f3⟩ := tcell HX.out
    have HS2 := Lib.hid (tset HX.out (.int .i64 6) (.string ⟨#[]⟩) (.int .i64 0) (.int .i64 0))
    have HE := Lib.hid (below_tok HBel.out HUB.out (.int .i64 6) (.string ⟨#[]⟩) (.int .i64 0) (.int .i64 0))
    go_wp2_with fail
    obtain ⟨⟨q0, q1, q2, q3⟩, _⟩ := tcell HS2.out
    refine bodyPost_ret (v := .tuple #[tokV 6 ⟨#[]⟩ 0 0, .int .i64 0]) (by simp [results, Tryz.results75, go_sem, q0, q1, q2, q3]) rfl ⟨_, rfl, ?_, HE.out⟩
    rw [HN.out]
    exact ⟨Nat.zero_le _, ⟨#[]⟩, rfl, rfl⟩
  · have hE : s.toList.isEmpty = false := by
      rw [ByteArray.toList_eq, List.isEmpty_eq_false_iff]
      intro h; exact h0 (by rw [← bs_len, show bs s = [] from h]; rfl)
    have hp : 0 < s.size := by omega
    have HD := Lib.hid (show bs s = s[0] :: (bs s).drop 1 by have := bs_drop s 0 hp; rwa [List.drop_zero] at this)
    cases hl : Lx.letter s[0]
    · cases hd : Lx.digit s[0]
      · by_cases hq : s[0] = 39
        · have HN := Lib.hid (show Lx.cut (bs s) = Lx.cutText (bs s) by rw [HD.out, Lx.cut, hl, hd, hq]; rfl)
          have HCN := Lib.hid (show (s[0].toNat : Int) = 39 by rw [hq]; rfl)
          clear hq
          go_wp2_with fail
          refine (isLetter_any s[0] _).mono ?_
          rintro e W1 ⟨rfl, rfl⟩
          rw [hl]
          go_wp2_with fail
          refine (isDigit_any s[0] _).mono ?_
          rintro e W1 ⟨rfl, rfl⟩
          rw [hd]
          have hcn := HCN.out
          go_wp2_with fail
          refine (cutText_any s _ hs (by omega)).mono ?_
          rintro e W2 ⟨v, rfl, hv, hb⟩
          obtain ⟨k, b, n, z, rfl⟩ := hv.form
          have HV := Lib.hid hv
          have hw := cut_end HBel.out HX.out hb
          have HX2 := Lib.hid hw.2
          obtain ⟨⟨c0, c1, c2, c3⟩, f0, f1, f2, f3⟩ := tcell hw.2
          have HS2 := Lib.hid (tset hw.2 (.int .i64 k) (.string b) (.int .i64 n) (.int .i64 0))
          have HE := Lib.hid (below_tok hw.1 HUB.out (.int .i64 k) (.string b) (.int .i64 n) (.int .i64 0))
          clear hw hv hb
          go_wp2_with fail
          obtain ⟨⟨q0, q1, q2, q3⟩, _⟩ := tcell HS2.out
          refine bodyPost_ret (v := .tuple #[tokV k b n 0, .int .i64 z]) (by simp [results, Tryz.results75, go_sem, q0, q1, q2, q3]) rfl ⟨_, rfl, ?_, HE.out⟩
          rw [HN.out]
          exact HV.out
        · have HN := Lib.hid (show Lx.cut (bs s) = Lx.cutSign (bs s) by rw [HD.out, Lx.cut, if_neg (by simp [hl]), if_neg (by simp [hd]), if_neg hq])
          have HCN := Lib.hid (show ¬ (s[0].toNat : Int) = 39 by
            intro h; apply hq
            apply UInt8.toNat_inj.1
            have : s[0].toNat = 39 := by omega
            rw [this]; rfl)
          clear hq
          go_wp2_with fail
          refine (isLetter_any s[0] _).mono ?_
          rintro e W1 ⟨rfl, rfl⟩
          rw [hl]
          go_wp2_with fail
          refine (isDigit_any s[0] _).mono ?_
          rintro e W1 ⟨rfl, rfl⟩
          rw [hd]
          have hcn := HCN.out
          go_wp2_with fail
          refine (cutSign_any s _ HT.out).mono ?_
          rintro e W2 ⟨v, rfl, hv, hb⟩
          obtain ⟨k, b, n, z, rfl⟩ := hv.form
          have HV := Lib.hid hv
          have hw := cut_end HBel.out HX.out hb
          have HX2 := Lib.hid hw.2
          obtain ⟨⟨c0, c1, c2, c3⟩, f0, f1, f2, f3⟩ := tcell hw.2
          have HS2 := Lib.hid (tset hw.2 (.int .i64 k) (.string b) (.int .i64 n) (.int .i64 0))
          have HE := Lib.hid (below_tok hw.1 HUB.out (.int .i64 k) (.string b) (.int .i64 n) (.int .i64 0))
          clear hw hv hb
          go_wp2_with fail
          obtain ⟨⟨q0, q1, q2, q3⟩, _⟩ := tcell HS2.out
          refine bodyPost_ret (v := .tuple #[tokV k b n 0, .int .i64 z]) (by simp [results, Tryz.results75, go_sem, q0, q1, q2, q3]) rfl ⟨_, rfl, ?_, HE.out⟩
          rw [HN.out]
          exact HV.out
      · have HN := Lib.hid (show Lx.cut (bs s) = Lx.cutNum (bs s) by rw [HD.out, Lx.cut, if_neg (by simp [hl]), if_pos hd])
        go_wp2_with fail
        refine (isLetter_any s[0] _).mono ?_
        rintro e W1 ⟨rfl, rfl⟩
        rw [hl]
        go_wp2_with fail
        refine (isDigit_any s[0] _).mono ?_
        rintro e W1 ⟨rfl, rfl⟩
        rw [hd]
        go_wp2_with fail
        refine (cutNum_any s _ hs).mono ?_
        rintro e W2 ⟨v, rfl, hv, hb⟩
        obtain ⟨k, b, n, z, rfl⟩ := hv.form
        have HV := Lib.hid hv
        have hw := cut_end HBel.out HX.out hb
        have HX2 := Lib.hid hw.2
        obtain ⟨⟨c0, c1, c2, c3⟩, f0, f1, f2, f3⟩ := tcell hw.2
        have HS2 := Lib.hid (tset hw.2 (.int .i64 k) (.string b) (.int .i64 n) (.int .i64 0))
        have HE := Lib.hid (below_tok hw.1 HUB.out (.int .i64 k) (.string b) (.int .i64 n) (.int .i64 0))
        clear hw hv hb
        go_wp2_with fail
        obtain ⟨⟨q0, q1, q2, q3⟩, _⟩ := tcell HS2.out
        refine bodyPost_ret (v := .tuple #[tokV k b n 0, .int .i64 z]) (by simp [results, Tryz.results75, go_sem, q0, q1, q2, q3]) rfl ⟨_, rfl, ?_, HE.out⟩
        rw [HN.out]
        exact HV.out
    · have HN := Lib.hid (show Lx.cut (bs s) = Lx.cutWord (bs s) by rw [HD.out, Lx.cut, if_pos hl])
      go_wp2_with fail
      refine (isLetter_any s[0] _).mono ?_
      rintro e W1 ⟨rfl, rfl⟩
      rw [hl]
      go_wp2_with fail
      refine (cutWord_any s _ hs HT.out).mono ?_
      rintro e W2 ⟨v, rfl, hv, hb⟩
      obtain ⟨k, b, n, z, rfl⟩ := hv.form
      have HV := Lib.hid hv
      have hw := cut_end HBel.out HX.out hb
      have HX2 := Lib.hid hw.2
      obtain ⟨⟨c0, c1, c2, c3⟩, f0, f1, f2, f3⟩ := tcell hw.2
      have HS2 := Lib.hid (tset hw.2 (.int .i64 k) (.string b) (.int .i64 n) (.int .i64 0))
      have HE := Lib.hid (below_tok hw.1 HUB.out (.int .i64 k) (.string b) (.int .i64 n) (.int .i64 0))
      clear hw hv hb
      go_wp2_with fail
      obtain ⟨⟨q0, q1, q2, q3⟩, _⟩ := tcell HS2.out
      refine bodyPost_ret (v := .tuple #[tokV k b n 0, .int .i64 z]) (by simp [results, Tryz.results75, go_sem, q0, q1, q2, q3]) rfl ⟨_, rfl, ?_, HE.out⟩
      rw [HN.out]
      exact HV.out
end Go.Proofs.YtfjimoccliejdaaGreatDoor
end
section
namespace Go.Proofs.YtfjimoccliejdaaGreatDoor
open Go.RowKit Go.Shelf

theorem info_tok : (Tryz.prog.info? 66).map (fun i => (i.zero, i.size, i.bytes)) = some (some (.agg #[.int .i64 0, .string ⟨#[]⟩, .int .i64 0, .int .i64 0]), 4, 40) := by kernel_rfl
abbrev TkA := Lx.Tok × Nat
def tkc (x : TkA) : List Value := [.int .i64 (x.1.k : Int), .string ⟨x.1.s.toArray⟩, .int .i64 (x.1.n : Int), .int .i64 (x.2 : Int)]
def tks (l : List TkA) : List Value := l.flatMap tkc
theorem tks_len (l : List TkA) : (tks l).length = l.length * 4 := by
  induction l with
  | nil => rfl
  | cons v l ih => show (tkc v ++ tks l).length = _; rw [List.length_append, ih]; simp [tkc]; omega
theorem tks_app (l r : List TkA) : tks (l ++ r) = tks l ++ tks r := by simp [tks]
/-- Tokens of the call's own. -/
structure Told (base : Nat) (W1 W : World) (v : Value) (l : List TkA) : Prop where
  own : W.ownsRow base 66 4 v l.length (tks l)
  bel : Below base W1 W
  le : base ≤ W.heap.size
theorem Told.slice {base : Nat} {W1 W : World} {v : Value} {l : List TkA} (h : Told base W1 W v l) : ∃ A cap, v = .slice A l.length cap := by
  rcases h.own.2 with ⟨rfl, h0⟩ | ⟨g, cap, cur, hv, _⟩
  · rw [h0]; exact ⟨none, 0, rfl⟩
  · exact ⟨_, cap, hv⟩
theorem Told.below {base : Nat} {W1 W W' : World} {v : Value} {l : List TkA} (h : Told base W1 W v l) (hb : Below W.heap.size W W') : Told base W1 W' v l := by
  refine ⟨?_, h.bel.trans (hb.mono h.le), Nat.le_trans h.le hb.size⟩
  rcases h.own.2 with hn | ⟨g, cap, cur, hv, hb1, hg, hc, hm, hsz, ht⟩
  · exact ⟨h.own.1, .inl hn⟩
  · exact ⟨h.own.1, .inr ⟨g, cap, cur, hv, hb1, (hb.block g (by
      rcases Nat.lt_or_ge g W.heap.size with h | h
      · exact h
      · rw [Array.getElem?_eq_none h] at hg; cases hg)).trans hg, hc, hm, hsz, ht⟩⟩
theorem Told.grow {base : Nat} {W1 W : World} {v : Value} {l : List TkA} (h : Told base W1 W v l) (x : TkA) {o : Obj} {v' : Value} {w' : World} (ho : w'.ownsRow base 66 4 v' (l.length + 1) (tks l ++ tkc x)) (hg : (W.alloc o).grownBy w' v.ownBlock) : Told base W1 w' v' (l ++ [x]) := by
  have hle := h.le
  have hs := hg.size
  rw [World.size_alloc] at hs
  refine ⟨by rw [tks_app, List.length_append]; simpa [tks] using ho, h.bel.trans (((Below.refl base W).alloc hle _).trans ((Below.refl base (W.alloc o)).grown hg (by rw [World.size_alloc]; omega) (fun k hk => ?_))), by omega⟩
  exact (h.own.lt k hk).1

def Lx.pre (ts : List TkA) : Lx.Res → Lx.Res
  | .ok us n => .ok (ts ++ us) n
  | .bad n e => .bad n e
/-- All's answer. -/
def AllV (base : Nat) (w' : World) (r : Lx.Res) (v : Value) : Prop :=
  match r with
  | .ok ts n => ∃ l, v = .tuple #[l, .int .i64 n, .int .i64 0] ∧ w'.ownsRow base 66 4 l ts.length (tks ts)
  | .bad n e => v = .tuple #[.slice none 0 0, .int .i64 n, .int .i64 e]
theorem ba_eq {b : ByteArray} {l : Lx.B} (h : bs b = l) : b = ⟨l.toArray⟩ := by
  subst h; apply ByteArray.ext; simp [bs]
theorem lx_none {f : Nat} {l : Lx.B} {c a : Nat} (h : Lx.cut (l.drop (Lx.sk false l)) = none) : Lx.lx (f + 1) l c a = .bad (a + Lx.sk false l) 90 := by rw [Lx.lx, h]
theorem lx_long {f : Nat} {l : Lx.B} {a : Nat} {t : Lx.Tok} {z : Nat} (h : Lx.cut (l.drop (Lx.sk false l)) = some (t, z)) : Lx.lx (f + 1) l 4096 a = .bad (a + Lx.sk false l) 3 := by
  rw [Lx.lx, h]; simp
theorem lx_fin {f : Nat} {l : Lx.B} {c a : Nat} {t : Lx.Tok} {z : Nat} (h : Lx.cut (l.drop (Lx.sk false l)) = some (t, z)) (hc : c ≠ 4096) (hk : t.k = 6) : Lx.lx (f + 1) l c a = .ok [(t, a + Lx.sk false l)] (a + Lx.sk false l) := by
  rw [Lx.lx, h]; simp only; rw [if_neg hc, if_pos hk]
theorem lx_more {f : Nat} {l : Lx.B} {c a : Nat} {t : Lx.Tok} {z : Nat} (h : Lx.cut (l.drop (Lx.sk false l)) = some (t, z)) (hc : c ≠ 4096) (hk : t.k ≠ 6) (ts : List TkA) :
    Lx.pre ts (Lx.lx (f + 1) l c a) = Lx.pre (ts ++ [(t, a + Lx.sk false l)]) (Lx.lx f ((l.drop (Lx.sk false l)).drop z) (c + 1) (a + Lx.sk false l + z)) := by
  rw [Lx.lx, h]; simp only; rw [if_neg hc, if_neg hk]
  cases Lx.lx f ((l.drop (Lx.sk false l)).drop z) (c + 1) (a + Lx.sk false l + z) <;> simp [Lx.pre]
theorem cut_kind {l : Lx.B} {t : Lx.Tok} {z : Nat} (h : Lx.cut l = some (t, z)) : t.k ≠ 0 ∧ (t.k ≠ 6 → 0 < z) := by
  by_cases hl : l = []
  · subst hl
    simp only [Lx.cut, Option.some.injEq, Prod.mk.injEq] at h
    obtain ⟨rfl, rfl⟩ := h
    exact ⟨by simp, fun h => absurd rfl h⟩
  · obtain ⟨h1, h2, _⟩ := Lx.cut_inv hl h
    obtain ⟨x, w', hw, _, _⟩ := Lx.tok_ne h2
    refine ⟨(Lx.tok_k h2).2, fun _ => ?_⟩
    rcases Nat.eq_zero_or_pos z with h0 | h0
    · subst h0; simp at hw
    · exact h0
end Go.Proofs.YtfjimoccliejdaaGreatDoor
end
section
namespace Go.Proofs.YtfjimoccliejdaaGreatDoor
open Go.RowKit Go.Shelf

theorem tks_one' (a : Int) (b : ByteArray) (c d : Int) : ∀ u ∈ [Value.int .i64 a, .string b, .int .i64 c, .int .i64 d], u.oneCell' = true := by
  intro u hu
  simp at hu
  rcases hu with rfl | rfl | rfl | rfl <;> rfl
set_option maxRecDepth 100000 in
set_option maxHeartbeats 2000000 in
theorem all_any (s : ByteArray) (w : World) (hs : s.size ≤ 16384) (hT : Tabs w) :
    Calls Tryz.prog 39 #[.string s] w fun e w' => ∃ v, e = .returned v ∧ AllV w.heap.size w' (Lx.lx (s.size + 1) (bs s) 0 0) v ∧ Below w.heap.size w w' := by
  obtain ⟨i0, hi, hz0, hz1, hz2⟩ := infoX_parts info_tok
  have HT := Lib.hid hT
  obtain ⟨R, hR⟩ : ∃ R, Lx.lx (s.size + 1) (bs s) 0 0 = R := ⟨_, rfl⟩
  rw [hR]
  have HR := Lib.hid hR
  clear hR hT
  go_enter Tryz.func39, Tryz.ntmps39
  go_wp2_with fail
  go_loopw [5, 6] (fun v i W => ∃ (a f : Nat) (ts : List TkA), a ≤ s.size ∧ s.size - a < f ∧ ts.length ≤ 4096 ∧ i = .int .i64 a ∧ Hid (Told w.heap.size w W v ts) ∧ Hid (R = Lx.pre ts (Lx.lx f ((bs s).drop a) ts.length a))) (fun _ i _ => s.size - (intOf i).toNat)
  case atStart =>
    refine ⟨0, s.size + 1, [], Nat.zero_le _, by omega, by simp, rfl, Lib.hid ⟨World.ownsRow_nil _ _ _ _, Below.refl _ _, Nat.le_refl _⟩, Lib.hid ?_⟩
    rw [List.drop_zero, List.length_nil, HR.out]
    cases R <;> simp [Lx.pre]
  case round =>
    obtain ⟨a, f, ts, ha, hf, hl, rfl, HO, HQ⟩ := hrel
    obtain ⟨f, rfl⟩ : ∃ g, f = g + 1 := ⟨f - 1, by omega⟩
    obtain ⟨A, cap, hv⟩ := HO.out.slice
    subst hv
    have hsk := Lx.sk_le false ((bs s).drop a)
    rw [List.length_drop, bs_len] at hsk
    obtain ⟨p, hp⟩ : ∃ p, a + Lx.sk false ((bs s).drop a) = p := ⟨_, rfl⟩
    have hps : p ≤ s.size := by omega
    have hap : a ≤ p := by omega
    have HP := Lib.hid hp
    have HB := Lib.hid (show bs (s.extract p s.size) = ((bs s).drop a).drop (Lx.sk false ((bs s).drop a)) by rw [bs_from, List.drop_drop, hp])
    have HSz := Lib.hid (show (s.extract p s.size).size = s.size - p by simp [ByteArray.size_extract])
    clear hsk hp
    go_wp2_with fail
    refine (skip_any s a _ (by omega) ha).mono ?_
    rintro e wr ⟨rfl, rfl⟩
    rw [HP.out]
    go_wp2_with fail
    refine (cut_any (s.extract p s.size) _ (by rw [HSz.out]; omega) (HT.out.kept HO.out.bel)).mono ?_
    rintro e w2 ⟨v, rfl, hv, hb⟩
    have HO2 := Lib.hid (HO.out.below hb)
    clear hb
    cases hc : Lx.cut (bs (s.extract p s.size)) with
    | none =>
      rw [hc] at hv
      obtain rfl : v = noTok := hv
      have HN := Lib.hid (show R = .bad p 90 by rw [HQ.out, lx_none (by rw [← HB.out]; exact hc), HP.out]; rfl)
      go_wp2_with fail
      refine bodyPost_ret (v := .tuple #[.slice none 0 0, .int .i64 p, .int .i64 90]) (by simp [results, Tryz.results39, go_sem]) rfl ⟨_, rfl, ?_, ?_⟩
      · rw [HN.out]; rfl
      · exact HO2.out.bel.trans ((ba w2 _).mono HO2.out.le)
    | some x =>
      obtain ⟨t, z⟩ := x
      rw [hc] at hv
      obtain ⟨hz, b, hbs, rfl⟩ := hv
      obtain rfl := ba_eq hbs
      have hz' : z ≤ s.size - p := by rw [← HSz.out]; exact hz
      obtain ⟨hk0, hkz⟩ := cut_kind hc
      have HC := Lib.hid (show Lx.cut (((bs s).drop a).drop (Lx.sk false ((bs s).drop a))) = some (t, z) by rw [← HB.out]; exact hc)
      have HK := Lib.hid hkz
      clear hz hbs hc hkz
      have hk0' : ¬ (t.k : Int) = 0 := by omega
      by_cases h4 : ts.length = 4096
      · have HN := Lib.hid (show R = .bad p 3 by rw [HQ.out, h4, lx_long HC.out, HP.out]; rfl)
        go_wp2_with fail
        refine bodyPost_ret (v := .tuple #[.slice none 0 0, .int .i64 p, .int .i64 3]) (by simp [results, Tryz.results39, go_sem]) rfl ⟨_, rfl, ?_, ?_⟩
        · rw [HN.out]; rfl
        · exact HO2.out.bel.trans ((ba w2 _).mono HO2.out.le)
      · by_cases h6 : t.k = 6
        · have HN := Lib.hid (show R = .ok (ts ++ [(t, p)]) p by rw [HQ.out, lx_fin HC.out h4 h6, HP.out]; rfl)
          have h6' : (t.k : Int) = 6 := by omega
          have H6 := Lib.hid h6
          clear h6
          go_wp2_with (at_builtin; refine wpList_append_own _ rfl _ _ 59 rfl w.heap.size 66 i0 _ 4 40 Tryz.underlying59 hi hz0 hz1 hz2 rfl (by decide) _ _ _ rfl ((HO2.out.below (ba w2 _)).own.alloc _) ⟨w2.heap.size + 1, 0, none⟩ 1 1 [.int .i64 6, .string ⟨t.s.toArray⟩, .int .i64 t.n, .int .i64 p] rfl rfl ?c1 ?c2 ?c3 ?c4 ?c5 ?_)
          case c1 =>
            intro j u hj
            match j, hj with
            | 0, hj => simp at hj; subst hj; simp [Addr.add]
            | 1, hj => simp at hj; subst hj; simp [Addr.add]
            | 2, hj => simp at hj; subst hj; simp [Addr.add]
            | 3, hj => simp at hj; subst hj; simp [Addr.add]
          case c2 => exact tks_one' _ _ _ _
          case c3 => unfold maxLen; omega
          case c4 => omega
          case c5 => have := HO2.out.le; simp; omega
          intro v' w1 hown' hg _
          have HG := Lib.hid ((HO2.out.below (ba w2 _)).grow (t, p) (by rw [show tkc (t, p) = [.int .i64 6, .string ⟨t.s.toArray⟩, .int .i64 t.n, .int .i64 p] by simp [tkc, H6.out]]; exact hown') hg)
          clear hown' hg
          go_wp2_with fail
          refine bodyPost_ret (v := .tuple #[v', .int .i64 p, .int .i64 0]) (by simp [results, Tryz.results39, go_sem]) rfl ⟨_, rfl, ?_, HG.out.bel⟩
          rw [HN.out]
          exact ⟨v', rfl, HG.out.own⟩
        · have h6' : ¬ (t.k : Int) = 6 := by omega
          have HN := Lib.hid (show R = Lx.pre (ts ++ [(t, p)]) (Lx.lx f ((bs s).drop (p + z)) (ts.length + 1) (p + z)) by
            rw [HQ.out, lx_more HC.out h4 h6, List.drop_drop, List.drop_drop, HP.out, ← Nat.add_assoc, HP.out])
          have hz0' := HK.out h6
          clear h6
          go_wp2_with (at_builtin; refine wpList_append_own _ rfl _ _ 59 rfl w.heap.size 66 i0 _ 4 40 Tryz.underlying59 hi hz0 hz1 hz2 rfl (by decide) _ _ _ rfl ((HO2.out.below (ba w2 _)).own.alloc _) ⟨w2.heap.size + 1, 0, none⟩ 1 1 [.int .i64 t.k, .string ⟨t.s.toArray⟩, .int .i64 t.n, .int .i64 p] rfl rfl ?c1 ?c2 ?c3 ?c4 ?c5 ?_)
          case c1 =>
            intro j u hj
            match j, hj with
            | 0, hj => simp at hj; subst hj; simp [Addr.add]
            | 1, hj => simp at hj; subst hj; simp [Addr.add]
            | 2, hj => simp at hj; subst hj; simp [Addr.add]
            | 3, hj => simp at hj; subst hj; simp [Addr.add]
          case c2 => exact tks_one' _ _ _ _
          case c3 => unfold maxLen; omega
          case c4 => omega
          case c5 => have := HO2.out.le; simp; omega
          intro v' w1 hown' hg _
          have HG := Lib.hid ((HO2.out.below (ba w2 _)).grow (t, p) hown' hg)
          clear hown' hg
          go_wp2_with fail
          go_roundw
          case rel => exact ⟨p + z, f, ts ++ [(t, p)], by omega, by omega, by simp; omega, by go_num, HG, by rw [List.length_append]; exact HN⟩
          case measure => simp [intOf]; omega
end Go.Proofs.YtfjimoccliejdaaGreatDoor
end
section
namespace Go.Proofs.YtfjimoccliejdaaGreatDoor
open Go.RowKit Go.Shelf

/-- Tokens that can be read. -/
def TkAt (w : World) (A : Option Addr) (l : List TkA) : Prop :=
  l = [] ∨ ∃ g off, A = some ⟨g, off, none⟩ ∧ ∀ j u, (tks l)[j]? = some u → w.cell? ⟨g, off + j, none⟩ = some u
theorem tks_at : ∀ (l : List TkA) (i : Nat) (x : TkA), l[i]? = some x →
    (tks l)[i * 4]? = some (.int .i64 x.1.k) ∧ (tks l)[i * 4 + 1]? = some (.string ⟨x.1.s.toArray⟩) ∧ (tks l)[i * 4 + 2]? = some (.int .i64 x.1.n) ∧ (tks l)[i * 4 + 3]? = some (.int .i64 x.2)
  | [], i, x, h => by simp at h
  | y :: l, 0, x, h => by
    obtain rfl : y = x := by simpa using h
    refine ⟨?_, ?_, ?_, ?_⟩ <;> simp [tks, tkc]
  | y :: l, i + 1, x, h => by
    have := tks_at l i x (by simpa using h)
    have e : tks (y :: l) = tkc y ++ tks l := rfl
    have e4 : (tkc y).length = 4 := rfl
    rw [e, show (i + 1) * 4 = i * 4 + 4 by omega, show i * 4 + 4 + 1 = i * 4 + 1 + 4 by omega, show i * 4 + 4 + 2 = i * 4 + 2 + 4 by omega, show i * 4 + 4 + 3 = i * 4 + 3 + 4 by omega]
    rw [List.getElem?_append_right (by omega), List.getElem?_append_right (by omega), List.getElem?_append_right (by omega), List.getElem?_append_right (by omega), e4]
    simpa using this
structure TC (w : World) (g o : Nat) (x : TkA) : Prop where
  c0 : w.cell? ⟨g, o, none⟩ = some (.int .i64 x.1.k)
  c1 : w.cell? ⟨g, o + 1, none⟩ = some (.string ⟨x.1.s.toArray⟩)
  c2 : w.cell? ⟨g, o + 2, none⟩ = some (.int .i64 x.1.n)
  c3 : w.cell? ⟨g, o + 3, none⟩ = some (.int .i64 x.2)
theorem TC.kept {w w' : World} {g o : Nat} {x : TkA} (h : TC w g o x) (hb : Below w.heap.size w w') : TC w' g o x :=
  ⟨cell_kept hb h.c0, cell_kept hb h.c1, cell_kept hb h.c2, cell_kept hb h.c3⟩
theorem TkAt.at {w : World} {A : Option Addr} {l : List TkA} (h : TkAt w A l) {i : Nat} {x : TkA} (hx : l[i]? = some x) : ∃ g off, A = some ⟨g, off, none⟩ ∧ TC w g (off + i * 4) x := by
  rcases h with rfl | ⟨g, off, rfl, h⟩
  · simp at hx
  · obtain ⟨a, b, c, d⟩ := tks_at l i x hx
    exact ⟨g, off, rfl, h _ _ a, by have := h _ _ b; rwa [← Nat.add_assoc] at this, by have := h _ _ c; rwa [← Nat.add_assoc] at this, by have := h _ _ d; rwa [← Nat.add_assoc] at this⟩
theorem TkAt.kept {w w' : World} {A : Option Addr} {l : List TkA} (h : TkAt w A l) (hb : Below w.heap.size w w') : TkAt w' A l := by
  rcases h with rfl | ⟨g, off, rfl, h⟩
  · exact .inl rfl
  · exact .inr ⟨g, off, rfl, fun j u hj => cell_kept hb (h j u hj)⟩

end Go.Proofs.YtfjimoccliejdaaGreatDoor
end
section
namespace Go.Proofs.YtfjimoccliejdaaGreatDoor
open Go.RowKit Go.Shelf

/-! A box of eight cells. -/
abbrev set8 (W : World) (U : Nat) (b0 b1 b2 b3 b4 b5 b6 b7 : Value) : World := ((((((((W.setCell ⟨U, 0, none⟩ b0).setCell ⟨U, 1, none⟩ b1).setCell ⟨U, 2, none⟩ b2).setCell ⟨U, 3, none⟩ b3).setCell ⟨U, 4, none⟩ b4).setCell ⟨U, 5, none⟩ b5).setCell ⟨U, 6, none⟩ b6).setCell ⟨U, 7, none⟩ b7)
theorem setc_box {W : World} {U : Nat} {cs : Array Value} {T : TypeId} {f : Nat × Nat} (h : W.heap[U]? = some (.cells cs T f)) (j : Nat) (b : Value) :
    (W.setCell ⟨U, j, none⟩ b).heap[U]? = some (.cells (cs.setIfInBounds j b) T f) := by
  simp only [World.setCell, Array.getElem?_modify, if_true, h]
  rfl
theorem set8_box {W : World} {U : Nat} {a0 a1 a2 a3 a4 a5 a6 a7 : Value} {T : TypeId} (h : W.heap[U]? = some (.cells #[a0, a1, a2, a3, a4, a5, a6, a7] T (0, 0))) (b0 b1 b2 b3 b4 b5 b6 b7 : Value) :
    (set8 W U b0 b1 b2 b3 b4 b5 b6 b7).heap[U]? = some (.cells #[b0, b1, b2, b3, b4, b5, b6, b7] T (0, 0)) := by
  refine ((setc_box (setc_box (setc_box (setc_box (setc_box (setc_box (setc_box (setc_box h 0 b0) 1 b1) 2 b2) 3 b3) 4 b4) 5 b5) 6 b6) 7 b7)).trans ?_
  simp
theorem set8_other {W : World} {U k : Nat} (hk : k ≠ U) (b0 b1 b2 b3 b4 b5 b6 b7 : Value) : (set8 W U b0 b1 b2 b3 b4 b5 b6 b7).heap[k]? = W.heap[k]? := by
  simp only [set8, World.setCell, Array.getElem?_modify]
  simp [Ne.symm hk]
theorem set8_size (W : World) (U : Nat) (b0 b1 b2 b3 b4 b5 b6 b7 : Value) : (set8 W U b0 b1 b2 b3 b4 b5 b6 b7).heap.size = W.heap.size := by simp [set8, World.setCell]
theorem set8_below {B U : Nat} {w W : World} (h : Below B w W) (hU : B ≤ U) (b0 b1 b2 b3 b4 b5 b6 b7 : Value) : Below B w (set8 W U b0 b1 b2 b3 b4 b5 b6 b7) :=
  ((((((((h.setCell (p := ⟨U, 0, none⟩) hU b0).setCell (p := ⟨U, 1, none⟩) hU b1).setCell (p := ⟨U, 2, none⟩) hU b2).setCell (p := ⟨U, 3, none⟩) hU b3).setCell (p := ⟨U, 4, none⟩) hU b4).setCell (p := ⟨U, 5, none⟩) hU b5).setCell (p := ⟨U, 6, none⟩) hU b6).setCell (p := ⟨U, 7, none⟩) hU b7)
theorem cell8 {w : World} {U : Nat} {b0 b1 b2 b3 b4 b5 b6 b7 : Value} {T : TypeId} (e : w.heap[U]? = some (.cells #[b0, b1, b2, b3, b4, b5, b6, b7] T (0, 0))) :
    (w.cell? ⟨U, 0, none⟩ = some b0 ∧ w.cell? ⟨U, 1, none⟩ = some b1 ∧ w.cell? ⟨U, 2, none⟩ = some b2 ∧ w.cell? ⟨U, 3, none⟩ = some b3 ∧ w.cell? ⟨U, 4, none⟩ = some b4 ∧ w.cell? ⟨U, 5, none⟩ = some b5 ∧ w.cell? ⟨U, 6, none⟩ = some b6 ∧ w.cell? ⟨U, 7, none⟩ = some b7) ∧
    w.frozen? ⟨U, 0, none⟩ = false ∧ w.frozen? ⟨U, 1, none⟩ = false ∧ w.frozen? ⟨U, 2, none⟩ = false ∧ w.frozen? ⟨U, 3, none⟩ = false ∧ w.frozen? ⟨U, 4, none⟩ = false ∧ w.frozen? ⟨U, 5, none⟩ = false ∧ w.frozen? ⟨U, 6, none⟩ = false ∧ w.frozen? ⟨U, 7, none⟩ = false :=
  ⟨⟨by simp only [World.cell?, e]; rfl, by simp only [World.cell?, e]; rfl, by simp only [World.cell?, e]; rfl, by simp only [World.cell?, e]; rfl, by simp only [World.cell?, e]; rfl, by simp only [World.cell?, e]; rfl, by simp only [World.cell?, e]; rfl, by simp only [World.cell?, e]; rfl⟩,
    by simp only [World.frozen?, e]; rfl, by simp only [World.frozen?, e]; rfl, by simp only [World.frozen?, e]; rfl, by simp only [World.frozen?, e]; rfl, by simp only [World.frozen?, e]; rfl, by simp only [World.frozen?, e]; rfl, by simp only [World.frozen?, e]; rfl, by simp only [World.frozen?, e]; rfl⟩
theorem set7_box {W : World} {U : Nat} {a0 a1 a2 a3 a4 a5 a6 a7 : Value} {T : TypeId} (h : W.heap[U]? = some (.cells #[a0, a1, a2, a3, a4, a5, a6, a7] T (0, 0))) (b : Value) :
    (W.setCell ⟨U, 7, none⟩ b).heap[U]? = some (.cells #[a0, a1, a2, a3, a4, a5, a6, b] T (0, 0)) := by
  simp only [World.setCell, Array.getElem?_modify, if_true, h]
  rfl
theorem setc_other {W : World} {U k j : Nat} (hk : k ≠ U) (b : Value) : (W.setCell ⟨U, j, none⟩ b).heap[k]? = W.heap[k]? := by
  simp only [World.setCell, Array.getElem?_modify]
  simp [Ne.symm hk]
theorem setc_size (W : World) (p : Addr) (b : Value) : (W.setCell p b).heap.size = W.heap.size := by simp [World.setCell]

theorem xnews (wr : World) (q : XQ) (t : TypeId) (j : Nat) (u : Value) (h : (xcell q)[j]? = some u) : (wr.alloc (.cells (xcell q).toArray t)).cell? ((⟨wr.heap.size, 0, none⟩ : Addr).add j) = some u := by
  have e2 : (⟨wr.heap.size, 0, none⟩ : Addr).add j = ⟨wr.heap.size, j, none⟩ := by simp only [Addr.add]; split <;> simp_all
  have hn := (MapKept.heap_alloc wr (.cells (xcell q).toArray t)).1
  rw [e2]
  unfold World.cell?
  rw [hn]
  simp [h]
/-- What copyAll and copyOf hand back. -/
def CopyL (w : World) (l : List Ex) (e : Ending) (w' : World) : Prop :=
  ∃ A cap, e = .returned (.slice A l.length cap) ∧ l.length ≤ cap ∧ XsB (Bn w.heap.size w') w' l A ∧ Below w.heap.size w w'
def CopyE (w : World) (x : Ex) (e : Ending) (w' : World) : Prop :=
  ∃ A cap, e = .returned (XV x.hd A x.kids.length cap) ∧ x.kids.length ≤ cap ∧ XsB (Bn w.heap.size w') w' x.kids A ∧ Below w.heap.size w w'
abbrev x0 : Obj := .cells #[.int .i64 0, .int .i64 0, .int .i64 0, .int .i64 0, .string ⟨#[]⟩, .string ⟨#[]⟩, .string ⟨#[]⟩, .slice none 0 0] 37
theorem copyOf_of (h : Hd) (l : List Ex) (w : World) (A : Option Addr) (cap : Nat)
    (ih : ∀ w1, Below w.heap.size w w1 → Calls Tryz.prog 164 #[.slice A l.length cap] w1 (CopyL w1 l)) :
    Calls Tryz.prog 160 #[XV h A l.length cap] w (CopyE w (.mk h l)) := by
  have hb1 := bt (ba w (xbox h A l.length cap)) (ba _ x0)
  have HI := Lib.hid (ih _ hb1)
  have HB1 := Lib.hid hb1
  have HX0 := Lib.hid (((ba (w.alloc (xbox h A l.length cap)) x0).block w.heap.size (by rw [World.size_alloc]; omega)).trans (MapKept.heap_alloc w (xbox h A l.length cap)).1)
  have HX1 := Lib.hid ((MapKept.heap_alloc (w.alloc (xbox h A l.length cap)) x0).1)
  have HSz := Lib.hid (show ((w.alloc (xbox h A l.length cap)).alloc x0).heap.size = w.heap.size + 1 + 1 by simp)
  clear ih hb1
  go_enter Tryz.func160, Tryz.ntmps160
  go_wp2_with fail
  rw [World.size_alloc] at HX1
  obtain ⟨W1, hW1⟩ : ∃ W1, (w.alloc (xbox h A l.length cap)).alloc x0 = W1 := ⟨_, rfl⟩
  obtain ⟨U, hU⟩ : ∃ U, w.heap.size = U := ⟨_, rfl⟩
  rw [hW1] at HI HB1 HX0 HX1 HSz
  refine (show Calls Tryz.prog 164 #[.slice A l.length cap] ((w.alloc (xbox h A l.length cap)).alloc x0) (CopyL W1 l) by rw [hW1]; exact HI.out).mono ?_
  rintro e w2 ⟨A', cap', rfl, hle, hx, hb⟩
  have hX0 := (hb.block _ (by rw [HSz.out]; omega)).trans HX0.out
  have hX1 := (hb.block _ (by rw [HSz.out]; omega)).trans HX1.out
  have HB2 := Lib.hid (HB1.out.trans (hb.mono HB1.out.size))
  have HS2 := Lib.hid hb.size
  have HXB := Lib.hid hx
  have HLE := Lib.hid hle
  have HY0 := Lib.hid (set7_box hX0 (.slice A' l.length cap'))
  have HX0' := Lib.hid hX0
  have HX1' := Lib.hid ((setc_other (W := w2) (U := w.heap.size) (k := w.heap.size + 1) (j := 7) (by omega) (.slice A' l.length cap')).trans hX1)
  clear HX0 HX1 hb hx hle HI hW1
  rw [hU] at HB2 HY0 HX0' HX1' hX0 hX1 HSz ⊢
  obtain ⟨⟨c0, c1, c2, c3, c4, c5, c6, c7⟩, f0, f1, f2, f3, f4, f5, f6, f7⟩ := cell8 hX0
  obtain ⟨⟨d0, d1, d2, d3, d4, d5, d6, d7⟩, g0, g1, g2, g3, g4, g5, g6, g7⟩ := cell8 hX1
  clear hX0 hX1
  have HZ := Lib.hid (set8_box HX1'.out (.int .i64 h.k) (.int .i64 h.n) (.int .i64 h.vk) (.int .i64 h.vn) (.string h.vs) (.string h.tab) (.string h.col) (.slice A' l.length cap'))
  go_wp2_with fail
  obtain ⟨⟨q0, q1, q2, q3, q4, q5, q6, q7⟩, _⟩ := cell8 HZ.out
  refine bodyPost_ret (v := XV h A' l.length cap') (by simp [results, Tryz.results160, go_sem, q0, q1, q2, q3, q4, q5, q6, q7]) rfl ⟨A', cap', rfl, HLE.out, ?_, ?_⟩
  · refine XsB.go (fun k hk => (set8_other (by have := hk.1; have := HSz.out; omega) _ _ _ _ _ _ _ _).trans (setc_other (by have := hk.1; have := HSz.out; omega) _)) (fun k hk => ⟨by have := hk.1; have := HSz.out; omega, ?_⟩) _ _ HXB.out
    rw [set8_size, setc_size]; exact hk.2
  · rw [hU]
    exact set8_below (HB2.out.setCell (p := ⟨U, 7, none⟩) (Nat.le_refl _) _) (by omega) _ _ _ _ _ _ _ _
end Go.Proofs.YtfjimoccliejdaaGreatDoor
end
section
namespace Go.Proofs.YtfjimoccliejdaaGreatDoor
open Go.RowKit Go.Shelf

mutual
/-- How many expressions stand in one, in a list. -/
def cnt : Ex → Nat
  | .mk _ l => 1 + cntL l
def cntL : List Ex → Nat
  | [] => 0
  | x :: r => cnt x + cntL r
end
theorem cnt_mk (h : Hd) (l : List Ex) : cnt (.mk h l) = 1 + cntL l := by rw [cnt]
theorem cnt_pos (x : Ex) : 1 ≤ cnt x := by cases x; rw [cnt]; omega
theorem cntL_len : ∀ l : List Ex, l.length ≤ cntL l
  | [] => by simp
  | x :: r => by have := cntL_len r; have := cnt_pos x; rw [cntL, List.length_cons]; omega
theorem cntL_mem : ∀ {l : List Ex} {i : Nat} {x : Ex}, l[i]? = some x → cnt x ≤ cntL l
  | [], i, x, h => by simp at h
  | y :: r, 0, x, h => by
    obtain rfl : y = x := by simpa using h
    rw [cntL]; omega
  | y :: r, i + 1, x, h => by
    have := cntL_mem (l := r) (i := i) (x := x) (by simpa using h)
    rw [cntL]; omega

set_option maxHeartbeats 4000000 in
theorem copyAll_n : ∀ (n : Nat) (l : List Ex), cntL l ≤ n → n ≤ 1000000 → ∀ (w : World) (A : Option Addr) (cap : Nat), XsAt w.heap.size w l A →
    Calls Tryz.prog 164 #[.slice A l.length cap] w (CopyL w l) := by
  intro n
  induction n with
  | zero =>
    intro l hl _ w A cap hX
    have h0 := cntL_len l
    obtain rfl : l = [] := List.eq_nil_of_length_eq_zero (by omega)
    clear hX hl h0
    go_enter Tryz.func164, Tryz.ntmps164
    go_wp2_with fail
    go_loopw [8, 3] (fun i v W => i = .int .i64 0 ∧ v = .slice none 0 0 ∧ W = w) (fun _ _ _ => 0)
    case atStart => exact ⟨rfl, rfl, rfl⟩
    case round =>
      obtain ⟨rfl, rfl, rfl⟩ := hrel
      go_wp2_with fail
      go_ret
      exact ⟨none, 0, rfl, Nat.le_refl _, by rw [XsB]; trivial, Below.refl _ _⟩
  | succ n ih =>
    intro l hl hn w A cap hX
    obtain ⟨i0, hi, hz0, hz1, hz2⟩ := infoE_parts info_expr
    have hlen := cntL_len l
    have HI := Lib.hid ih
    have HXs := Lib.hid hX
    have HL := Lib.hid hl
    clear ih hX hl
    have hll : l.length ≤ 1000000 := by have := HL.out; omega
    go_enter Tryz.func164, Tryz.ntmps164
    go_wp2_with fail
    go_loopw [8, 3] (fun i v W => ∃ k : Nat, k ≤ l.length ∧ i = .int .i64 k ∧ Hid (Xown w.heap.size w W v (l.take k))) (fun i _ _ => l.length - (intOf i).toNat)
    case atStart => exact ⟨0, Nat.zero_le _, rfl, Lib.hid (by rw [List.take_zero]; exact Xown.nil _)⟩
    case round =>
      obtain ⟨k, hk, rfl, HW⟩ := hrel
      have hkl : (l.take k).length = k := by rw [List.length_take]; omega
      obtain ⟨AS, capS, hv⟩ := HW.out.slice
      rw [hkl] at hv
      subst hv
      by_cases hkn : k < l.length
      · obtain ⟨x, hx⟩ : ∃ x, l[k]? = some x := ⟨_, List.getElem?_eq_getElem hkn⟩
        obtain ⟨h, l'⟩ := x
        have HT := Lib.hid (show l.take (k + 1) = l.take k ++ [.mk h l'] by rw [List.take_add_one, hx]; rfl)
        have hc := cntL_mem hx
        rw [cnt_mk] at hc
        obtain ⟨g, off, A', cap', rfl, hg, hX, hle', hl'⟩ := HXs.out.at hx
        have hXr := hX.of (HW.out.bel.block g hg)
        have hgr : g < wr.heap.size := Nat.lt_of_lt_of_le hg HW.out.bel.size
        obtain ⟨c0, c1, c2, c3, c4, c5, c6, c7⟩ := hXr
        have HC := Lib.hid (copyOf_of h l' (wr.alloc (xbox h A' l'.length cap')) A' cap' (fun w1 hb1 => HI.out l' (by have := HL.out; omega) (by omega) w1 A' cap' (by
          have hb := HW.out.bel.trans ((ba wr (xbox h A' l'.length cap')).mono HW.out.bel.size |>.trans (hb1.mono (by rw [World.size_alloc]; have := HW.out.bel.size; omega)))
          exact XsB.go (fun k hk => hb.block k hk) (fun k hk => Nat.lt_of_lt_of_le hk hb.size) _ _ hl')))
        clear hX hl' hx hc hg
        go_wp2_with fail
        refine HC.out.mono ?_
        rintro e w3 ⟨A3, cap3, rfl, hle3, hx3, hb3⟩
        have hb13 := bt (ba wr (xbox h A' l'.length cap')) hb3
        have H3 := HW.out.below hb13
        obtain ⟨q, hq⟩ := H3.row
        have hq2 := hq.2
        rw [hkl] at hq2
        have hxr : XR (Ot w.heap.size w3 (.slice AS k capS)) w3 (.mk h l') (h, A3, l'.length, cap3) := by
          refine ⟨rfl, rfl, hle3, XsB.go (fun _ _ => rfl) (fun j hj => ⟨?_, hj.2, fun e => ?_⟩) _ _ hx3⟩
          · have := hj.1; rw [World.size_alloc] at this; have := HW.out.bel.size; omega
          · obtain ⟨q0, hq0⟩ := HW.out.row
            have := (hq0.2.lt j e).2
            have h2 := hj.1; rw [World.size_alloc] at h2; omega
        have HQ2 := Lib.hid hq2
        have HH3 := Lib.hid (show ∀ o v' w', w'.ownsRow w.heap.size 37 8 v' (k + 1) (xcells q ++ xcell (h, A3, l'.length, cap3)) → (w3.alloc o).grownBy w' (Value.ownBlock (.slice AS k capS)) →
            (v'.ownBlock = Value.ownBlock (.slice AS k capS) ∨ v'.ownBlock = some (w3.heap.size + 1)) → Xown w.heap.size w w' v' (l.take (k + 1)) from fun o v' w' ho hg hat => by
          rw [HT.out]
          exact H3.grow hq hxr (by rw [hkl]; exact ho) hg (by rw [World.size_alloc]; exact hat))
        have HLE := Lib.hid H3.le
        clear hq2 hxr hq H3 hb13 hb3 hx3 hle3 c0 c1 c2 c3 c4 c5 c6 c7
        go_wp2_with (at_builtin; refine wpList_append_own_at _ rfl _ _ 35 rfl w.heap.size 37 i0 _ 8 104 Tryz.underlying35 hi hz0 hz1 hz2 rfl (by decide) _ _ _ rfl (HQ2.out.alloc _) ⟨w3.heap.size, 0, none⟩ 1 1 (xcell (h, A3, l'.length, cap3)) rfl rfl (xnews _ _ _) (xcell_one _) ?c3 ?c4 ?c5 ?_)
        case c3 => unfold maxLen; omega
        case c4 => omega
        case c5 => have := HLE.out; simp; omega
        intro v' w4 hown' hg4 _ hat
        have HG := Lib.hid (HH3.out _ _ _ hown' hg4 hat)
        clear hown' hg4 hat
        go_wp2_with fail
        go_roundw
        case rel => exact ⟨k + 1, by omega, by go_num, HG⟩
        case measure => simp [intOf]; omega
      · obtain rfl : k = l.length := by omega
        obtain ⟨A2, cap2, hv2, hle2, hx2⟩ := HW.out.xsB
        rw [List.take_length] at hv2 hle2 hx2
        have HE := Lib.hid hx2
        have HB := Lib.hid HW.out.bel
        obtain ⟨rfl, _, rfl⟩ := Value.slice.inj hv2
        clear hx2 hv2
        go_wp2_with fail
        go_ret
        exact ⟨AS, capS, rfl, hle2, HE.out, HB.out⟩
theorem copyAll_any (l : List Ex) (w : World) (A : Option Addr) (cap : Nat) (hc : cntL l ≤ 1000000) (hX : XsAt w.heap.size w l A) :
    Calls Tryz.prog 164 #[.slice A l.length cap] w (CopyL w l) := copyAll_n _ l hc (Nat.le_refl _) w A cap hX
theorem copyOf_any (h : Hd) (l : List Ex) (w : World) (A : Option Addr) (cap : Nat) (hc : cntL l ≤ 1000000) (hX : XsAt w.heap.size w l A) :
    Calls Tryz.prog 160 #[XV h A l.length cap] w (CopyE w (.mk h l)) :=
  copyOf_of h l w A cap fun w1 hb => copyAll_any l w1 A cap hc (XsB.go (fun k hk => hb.block k hk) (fun _ hk => Nat.lt_of_lt_of_le hk hb.size) _ _ hX)
/-! Made. -/
abbrev hdL (k n : Int) (s : ByteArray) : Hd := ⟨1, 0, k, n, s, ⟨#[]⟩, ⟨#[]⟩⟩
abbrev hdC (t c : ByteArray) : Hd := ⟨2, 0, 0, 0, ⟨#[]⟩, t, c⟩
abbrev hdO (n : Int) : Hd := ⟨3, n, 0, 0, ⟨#[]⟩, ⟨#[]⟩, ⟨#[]⟩⟩
abbrev hdA (n : Int) : Hd := ⟨4, n, 0, 0, ⟨#[]⟩, ⟨#[]⟩, ⟨#[]⟩⟩
theorem lit_any (k n : Int) (s : ByteArray) (w : World) :
    Calls Tryz.prog 169 #[VV k n s] w fun e w' => e = .returned (XV (hdL k n s) none 0 0) ∧ Below w.heap.size w w' := by
  go_enter Tryz.func169, Tryz.ntmps169
  go_wp2
  refine bodyPost_ret (v := XV (hdL k n s) none 0 0) (by simp [results, Tryz.results169, go_sem]) rfl ⟨rfl, ?_⟩
  exact ba2 w _ _
theorem column_any (t c : ByteArray) (w : World) :
    Calls Tryz.prog 130 #[.string t, .string c] w fun e w' => e = .returned (XV (hdC t c) none 0 0) ∧ Below w.heap.size w w' := by
  go_enter Tryz.func130, Tryz.ntmps130
  go_wp2
  refine bodyPost_ret (v := XV (hdC t c) none 0 0) (by simp [results, Tryz.results130, go_sem]) rfl ⟨rfl, ?_⟩
  exact ba w _
set_option maxHeartbeats 1000000 in
theorem agg_any (n : Int) (l : List Ex) (w : World) (A : Option Addr) (cap : Nat) (hc : cntL l ≤ 1000000) (hX : XsAt w.heap.size w l A) :
    Calls Tryz.prog 182 #[.int .i64 n, .slice A l.length cap] w (CopyE w (.mk (hdA n) l)) := by
  have HC := Lib.hid (copyAll_any l (w.alloc x0) A cap hc (hX.next (ba w x0)))
  have HX1 := Lib.hid ((MapKept.heap_alloc w x0).1)
  clear hX
  go_enter Tryz.func182, Tryz.ntmps182
  go_wp2_with fail
  refine HC.out.mono ?_
  rintro e w3 ⟨A3, cap3, rfl, hle3, hx3, hb3⟩
  have hX1 := (hb3.block w.heap.size (by rw [World.size_alloc]; omega)).trans HX1.out
  have HB := Lib.hid (bt (ba w x0) hb3)
  have HXB := Lib.hid hx3
  obtain ⟨⟨c0, c1, c2, c3, c4, c5, c6, c7⟩, f0, f1, f2, f3, f4, f5, f6, f7⟩ := cell8 hX1
  have HZ := Lib.hid (set8_box hX1 (.int .i64 (hdA n).k) (.int .i64 n) (.int .i64 0) (.int .i64 0) (.string ⟨#[]⟩) (.string ⟨#[]⟩) (.string ⟨#[]⟩) (.slice A3 l.length cap3))
  clear hX1 hb3 hx3 HC HX1
  go_wp2_with fail
  obtain ⟨⟨q0, q1, q2, q3, q4, q5, q6, q7⟩, _⟩ := cell8 HZ.out
  refine bodyPost_ret (v := XV (hdA n) A3 l.length cap3) (by simp [results, Tryz.results182, go_sem, q0, q1, q2, q3, q4, q5, q6, q7]) rfl ⟨A3, cap3, rfl, hle3, ?_, ?_⟩
  · refine XsB.go (fun k hk => set8_other (by have := hk.1; rw [World.size_alloc] at this; omega) _ _ _ _ _ _ _ _) (fun k hk => ⟨by have := hk.1; rw [World.size_alloc] at this; omega, ?_⟩) _ _ HXB.out
    rw [set8_size]; exact hk.2
  · exact set8_below HB.out (Nat.le_refl _) _ _ _ _ _ _ _ _
end Go.Proofs.YtfjimoccliejdaaGreatDoor
end
section
namespace Go.Proofs.YtfjimoccliejdaaGreatDoor.Pa
open Lx (B Tok)

structure Ps where
  ts : List TkA
  bad : Bool
def Ps.tk (s : Ps) : Tok := (s.ts.headD (⟨6, [], 0⟩, 0)).1
def Ps.at (s : Ps) : Nat := (s.ts.headD (⟨6, [], 0⟩, 0)).2
def isW (w : B) (t : Tok) : Bool := (t.s == w) && (t.k == 2 || t.k == 5)
def takeW (w : B) (s : Ps) : Bool × Ps := if !s.bad && isW w s.tk then (true, ⟨s.ts.tail, false⟩) else (false, s)
def mustW (w : B) (s : Ps) : Ps := if (takeW w s).1 then (takeW w s).2 else ⟨s.ts, true⟩
def takeK (k : Nat) (s : Ps) : Option Tok × Ps := if !s.bad && s.tk.k == k then (some s.tk, ⟨s.ts.tail, false⟩) else (none, s)
def noTok : Tok := ⟨0, [], 0⟩
def mustK (k : Nat) (s : Ps) : Tok × Ps := match takeK k s with | (some t, s1) => (t, s1) | (none, s1) => (noTok, ⟨s1.ts, true⟩)
/-- The end stands behind all else, and nowhere else. -/
def Fin (ts : List TkA) : Prop := ∃ l e, ts = l ++ [e] ∧ e.1.k = 6 ∧ ∀ x ∈ l, x.1.k ≠ 6
theorem Fin.ne {ts : List TkA} (h : Fin ts) : 0 < ts.length := by obtain ⟨l, e, rfl, _, _⟩ := h; simp
theorem Fin.tail {s : Ps} (h : Fin s.ts) (hk : s.tk.k ≠ 6) : Fin s.ts.tail ∧ s.ts.tail.length + 1 = s.ts.length := by
  obtain ⟨l, e, hl, he, ha⟩ := h
  cases l with
  | nil => unfold Ps.tk at hk; rw [hl] at hk; exact absurd he hk
  | cons x l =>
    rw [hl]
    exact ⟨⟨l, e, rfl, he, fun y hy => ha y (List.mem_cons_of_mem _ hy)⟩, by simp⟩
/-- What a step of the reader may do: so many tokens are left at most. -/
structure Le (s s' : Ps) : Prop where
  fin : Fin s'.ts
  len : s'.ts.length ≤ s.ts.length
  stay : s.bad = true → s' = s
  sfx : s'.ts <:+ s.ts
theorem Le.refl {s : Ps} (h : Fin s.ts) : Le s s := ⟨h, Nat.le_refl _, (fun _ => rfl), List.suffix_refl _⟩
theorem Le.trans {a b c : Ps} (h : Le a b) (k : Le b c) : Le a c := ⟨k.fin, Nat.le_trans k.len h.len, (fun e => by
  have e1 := h.stay e
  subst e1
  exact k.stay e), k.sfx.trans h.sfx⟩
theorem isW_k {w : B} {t : Tok} (h : isW w t = true) : t.k ≠ 6 := by
  unfold isW at h
  simp only [Bool.and_eq_true, Bool.or_eq_true, beq_iff_eq] at h
  omega
theorem takeW_le (w : B) {s : Ps} (h : Fin s.ts) : Le s (takeW w s).2 ∧ ((takeW w s).1 = true → s.bad = false ∧ (takeW w s).2.bad = false ∧ (takeW w s).2.ts.length + 1 = s.ts.length) ∧ ((takeW w s).1 = false → (takeW w s).2 = s) := by
  unfold takeW
  split
  · rename_i hc
    simp only [Bool.and_eq_true, Bool.not_eq_true'] at hc
    obtain ⟨h1, h2⟩ := h.tail (isW_k hc.2)
    exact ⟨⟨h1, (show s.ts.tail.length ≤ s.ts.length by omega), (fun e => by rw [hc.1] at e; cases e), List.tail_suffix _⟩, fun _ => ⟨hc.1, rfl, h2⟩, fun e => by cases e⟩
  · exact ⟨Le.refl h, (fun e => by cases e), fun _ => rfl⟩
theorem mustW_le (w : B) {s : Ps} (h : Fin s.ts) : Le s (mustW w s) := by
  unfold mustW
  obtain ⟨h1, h2, h3⟩ := takeW_le w h
  cases hb : (takeW w s).1 with
  | true => rw [if_pos rfl]; exact h1
  | false =>
    rw [if_neg (by simp)]
    exact ⟨h, Nat.le_refl _, (fun e => by cases s; simp only at e; subst e; rfl), List.suffix_refl _⟩
theorem takeK_le {k : Nat} (hk : k ≠ 6) {s : Ps} (h : Fin s.ts) : Le s (takeK k s).2 ∧ (∀ t, (takeK k s).1 = some t → s.bad = false ∧ t = s.tk ∧ t.k = k ∧ (takeK k s).2.bad = false ∧ (takeK k s).2.ts.length + 1 = s.ts.length) ∧ ((takeK k s).1 = none → (takeK k s).2 = s) := by
  unfold takeK
  split
  · rename_i hc
    simp only [Bool.and_eq_true, Bool.not_eq_true', beq_iff_eq] at hc
    obtain ⟨h1, h2⟩ := h.tail (by rw [hc.2]; exact hk)
    exact ⟨⟨h1, (show s.ts.tail.length ≤ s.ts.length by omega), (fun e => by rw [hc.1] at e; cases e), List.tail_suffix _⟩, (fun t e => by cases e; exact ⟨hc.1, rfl, hc.2, rfl, h2⟩), fun e => by cases e⟩
  · exact ⟨Le.refl h, (fun t e => by cases e), fun _ => rfl⟩
theorem mustK_le {k : Nat} (hk : k ≠ 6) {s : Ps} (h : Fin s.ts) : Le s (mustK k s).2 := by
  unfold mustK
  obtain ⟨h1, h2, h3⟩ := takeK_le hk h
  split
  · rename_i t s1 e; rw [e] at h1; exact h1
  · rename_i s1 e
    rw [e] at h3
    have := h3 rfl
    subst this
    exact ⟨h, Nat.le_refl _, (fun e => by cases s1; simp only at e; subst e; rfl), List.suffix_refl _⟩

/-- The word that an operator begins with. -/
def begins : Nat → B
  | 1 => [79, 82] | 2 => [65, 78, 68] | 4 => [61] | 5 => [60, 62] | 6 => [60] | 7 => [60, 61] | 8 => [62] | 9 => [62, 61]
  | 10 => [43] | 11 => [45] | 12 => [42] | 13 => [47] | 14 => [37] | 16 => [73, 83] | _ => []
abbrev wNOT : B := [78, 79, 84]
abbrev wNULL : B := [78, 85, 76, 76]
def nullP (s : Ps) : Nat × Ps := (if (takeW wNOT s).1 then 17 else 16, mustW wNULL (takeW wNOT s).2)
def operP : List Nat → Ps → Nat × Ps
  | [], s => (0, s)
  | op :: r, s => if (takeW (begins op) s).1 then (if op = 16 then nullP (takeW (begins op) s).2 else (op, (takeW (begins op) s).2)) else operP r s
theorem nullP_le {s : Ps} (h : Fin s.ts) : Le s (nullP s).2 := (takeW_le _ h).1.trans (mustW_le _ (takeW_le _ h).1.fin)
theorem operP_le : ∀ (ops : List Nat) {s : Ps}, Fin s.ts → (∀ op ∈ ops, op ≠ 0) → Le s (operP ops s).2 ∧ ((operP ops s).1 ≠ 0 → s.bad = false ∧ (operP ops s).2.ts.length + 1 ≤ s.ts.length) ∧ ((operP ops s).1 = 0 → (operP ops s).2 = s)
  | [], s, h, _ => ⟨Le.refl h, (fun e => absurd rfl e), fun _ => rfl⟩
  | op :: r, s, h, hn => by
    rw [operP]
    obtain ⟨h1, h2, h3⟩ := takeW_le (begins op) h
    cases hb : (takeW (begins op) s).1 with
    | true =>
      obtain ⟨hs, _, hl⟩ := h2 hb
      rw [if_pos rfl]
      split
      · have hle := nullP_le h1.fin
        refine ⟨h1.trans hle, (fun _ => ⟨hs, by have := hle.len; omega⟩), fun e => ?_⟩
        unfold nullP at e
        simp only at e
        split at e <;> cases e
      · exact ⟨h1, (fun _ => ⟨hs, by simp only; omega⟩), fun e => absurd e (hn op (List.mem_cons_self ..))⟩
    | false =>
      rw [if_neg (by simp)]
      exact operP_le r h fun o ho => hn o (List.mem_cons_of_mem _ ho)
def isOne (op : Nat) : Bool := op == 3 || op == 15 || op == 16 || op == 17
def mkOp (op : Nat) (l : List Ex) : Ex := .mk (hdO (op : Nat)) l
def rowP (part : Ps → Ex × Ps) (ops : List Nat) : Nat → Ex → Ps → Ex × Ps
  | 0, e, s => (e, s)
  | n + 1, e, s =>
    if (operP ops s).1 = 0 then (e, s)
    else if isOne (operP ops s).1 then rowP part ops n (mkOp (operP ops s).1 [e]) (operP ops s).2
    else rowP part ops n (mkOp (operP ops s).1 [e, (part (operP ops s).2).1]) (part (operP ops s).2).2
theorem rowP_le {part : Ps → Ex × Ps} {ops : List Nat} {m : Nat} (hp : ∀ s, Fin s.ts → s.ts.length ≤ m → Le s (part s).2) (hn : ∀ op ∈ ops, op ≠ 0) : ∀ (n : Nat) (e : Ex) (s : Ps), Fin s.ts → s.ts.length ≤ m + 1 → Le s (rowP part ops n e s).2
  | 0, e, s, h, _ => Le.refl h
  | n + 1, e, s, h, hm => by
    rw [rowP]
    obtain ⟨h1, h2, h3⟩ := operP_le ops h hn
    split
    · exact Le.refl h
    · rename_i hz
      have hl := (h2 hz).2
      split
      · exact h1.trans (rowP_le hp hn n _ _ h1.fin (by omega))
      · have h4 := hp _ h1.fin (by omega)
        exact h1.trans (h4.trans (rowP_le hp hn n _ _ h4.fin (by have := h4.len; omega)))
/-- More rounds than tokens are left change nothing. -/
theorem rowP_stop {part : Ps → Ex × Ps} {ops : List Nat} {n : Nat} {e : Ex} {s : Ps} (h : (operP ops s).1 = 0) : rowP part ops n e s = (e, s) := by
  cases n with
  | zero => rfl
  | succ n => rw [rowP, if_pos h]

def bst (l : B) : ByteArray := ⟨l.toArray⟩
def exLit (k n : Int) (s : B) : Ex := .mk (hdL k n (bst s)) []
def exCol (t c : B) : Ex := .mk (hdC (bst t) (bst c)) []
def exAgg (n : Nat) (l : List Ex) : Ex := .mk (hdA (n : Nat)) l
abbrev wTRUE : B := [84, 82, 85, 69]
abbrev wFALSE : B := [70, 65, 76, 83, 69]
abbrev wCOUNT : B := [67, 79, 85, 78, 84]
abbrev wSUM : B := [83, 85, 77]
abbrev wMIN : B := [77, 73, 78]
abbrev wMAX : B := [77, 65, 88]
/-- A column. -/
def colP (s : Ps) : Ex × Ps :=
  if (takeW [46] (mustK 1 s).2).1 then (exCol (mustK 1 s).1.s (mustK 1 (takeW [46] (mustK 1 s).2).2).1.s, (mustK 1 (takeW [46] (mustK 1 s).2).2).2)
  else (exCol [] (mustK 1 s).1.s, (mustK 1 s).2)
theorem colP_le {s : Ps} (h : Fin s.ts) : Le s (colP s).2 := by
  unfold colP
  have h1 := mustK_le (k := 1) (by decide) h
  have h2 := (takeW_le [46] h1.fin).1
  split
  · exact h1.trans (h2.trans (mustK_le (by decide) h2.fin))
  · exact h1
/-- What is enclosed, behind its sign. -/
def enclP (or : Ps → Ex × Ps) (s : Ps) : Ex × Ps := ((or s).1, mustW [41] (or s).2)
def aggP (or : Ps → Ex × Ps) (n : Nat) (s : Ps) : Ex × Ps := (exAgg n [(enclP or (mustW [40] s)).1], (enclP or (mustW [40] s)).2)
def countP (or : Ps → Ex × Ps) (s : Ps) : Ex × Ps :=
  if (takeW [42] (mustW [40] s)).1 then (exAgg 1 [], mustW [41] (takeW [42] (mustW [40] s)).2) else aggP or 2 s
def firstP (or : Ps → Ex × Ps) (s : Ps) : Ex × Ps :=
  match (takeK 3 s).1 with
  | some t => (exLit 2 t.n [], (takeK 3 s).2)
  | none => match (takeK 4 s).1 with
    | some t => (exLit 3 0 t.s, (takeK 4 s).2)
    | none =>
      if (takeW wTRUE s).1 then (exLit 1 1 [], (takeW wTRUE s).2)
      else if (takeW wFALSE s).1 then (exLit 1 0 [], (takeW wFALSE s).2)
      else if (takeW wNULL s).1 then (exLit 0 0 [], (takeW wNULL s).2)
      else if (takeW [40] s).1 then enclP or (takeW [40] s).2
      else if (takeW wCOUNT s).1 then countP or (takeW wCOUNT s).2
      else if (takeW wSUM s).1 then aggP or 3 (takeW wSUM s).2
      else if (takeW wMIN s).1 then aggP or 4 (takeW wMIN s).2
      else if (takeW wMAX s).1 then aggP or 5 (takeW wMAX s).2
      else colP s
def opsAt : Nat → List Nat
  | 0 => [1] | 1 => [2] | 3 => [4, 5, 6, 7, 8, 9, 16] | 4 => [10, 11] | 5 => [12, 13, 14] | _ => []
/-- The levels of expressions: OR, AND, NOT, comparisons, sums, products, minus, first ones. -/
def lev : Nat → Nat → Ps → Ex × Ps
  | 0, _, s => (exLit 0 0 [], ⟨s.ts, true⟩)
  | f + 1, k, s =>
    if k = 2 then (if (takeW wNOT s).1 then (mkOp 3 [(lev f 2 (takeW wNOT s).2).1], (lev f 2 (takeW wNOT s).2).2) else lev f 3 s)
    else if k = 6 then (if (takeW [45] s).1 then (mkOp 15 [(lev f 6 (takeW [45] s).2).1], (lev f 6 (takeW [45] s).2).2) else lev f 7 s)
    else if k = 7 then firstP (lev f 0) s
    else rowP (lev f (k + 1)) (opsAt k) (lev f (k + 1) s).2.ts.length (lev f (k + 1) s).1 (lev f (k + 1) s).2
theorem encl_le {or : Ps → Ex × Ps} {s : Ps} (h : Le s (or s).2) : Le s (enclP or s).2 := h.trans (mustW_le _ h.fin)
theorem agg_le {or : Ps → Ex × Ps} {n : Nat} {s : Ps} (hs : Fin s.ts) (h : ∀ s', Fin s'.ts → s'.ts.length ≤ s.ts.length → Le s' (or s').2) : Le s (aggP or n s).2 := by
  have h1 := mustW_le [40] hs
  exact h1.trans (encl_le (h _ h1.fin h1.len))
theorem count_le {or : Ps → Ex × Ps} {s : Ps} (hs : Fin s.ts) (h : ∀ s', Fin s'.ts → s'.ts.length ≤ s.ts.length → Le s' (or s').2) : Le s (countP or s).2 := by
  unfold countP
  have h1 := mustW_le [40] hs
  have h2 := (takeW_le [42] h1.fin).1
  split
  · exact h1.trans (h2.trans (mustW_le _ h2.fin))
  · exact agg_le hs h
theorem first_le {or : Ps → Ex × Ps} {s : Ps} (hs : Fin s.ts) (h : ∀ s', Fin s'.ts → s'.ts.length + 1 ≤ s.ts.length → Le s' (or s').2) : Le s (firstP or s).2 := by
  have tk : ∀ w, (takeW w s).1 = true → Le s (takeW w s).2 ∧ (takeW w s).2.ts.length + 1 = s.ts.length := fun w hw => ⟨(takeW_le w hs).1, ((takeW_le w hs).2.1 hw).2.2⟩
  unfold firstP
  split
  · exact (takeK_le (by decide) hs).1
  · split
    · exact (takeK_le (by decide) hs).1
    · split
      · exact (takeW_le _ hs).1
      split
      · exact (takeW_le _ hs).1
      split
      · exact (takeW_le _ hs).1
      split
      · rename_i hw
        obtain ⟨h1, h2⟩ := tk _ hw
        exact h1.trans (encl_le (h _ h1.fin (by omega)))
      split
      · rename_i hw
        obtain ⟨h1, h2⟩ := tk _ hw
        exact h1.trans (count_le h1.fin fun s' hf hl => h s' hf (by omega))
      split
      · rename_i hw
        obtain ⟨h1, h2⟩ := tk _ hw
        exact h1.trans (agg_le h1.fin fun s' hf hl => h s' hf (by omega))
      split
      · rename_i hw
        obtain ⟨h1, h2⟩ := tk _ hw
        exact h1.trans (agg_le h1.fin fun s' hf hl => h s' hf (by omega))
      split
      · rename_i hw
        obtain ⟨h1, h2⟩ := tk _ hw
        exact h1.trans (agg_le h1.fin fun s' hf hl => h s' hf (by omega))
      · exact colP_le hs
theorem ops_pos (k : Nat) : ∀ op ∈ opsAt k, op ≠ 0 := by
  intro op h
  unfold opsAt at h
  split at h <;> simp at h <;> omega
/-- Whatever the fuel: tokens are taken from the front alone, and none when stuck. -/
theorem lev_le : ∀ (f k : Nat) (s : Ps), Fin s.ts → Le s (lev f k s).2
  | 0, k, s, h => by rw [lev]; exact ⟨h, Nat.le_refl _, (fun e => by cases s; simp only at e; subst e; rfl), List.suffix_refl _⟩
  | f + 1, k, s, h => by
    have row : ∀ k, Le s (rowP (lev f (k + 1)) (opsAt k) (lev f (k + 1) s).2.ts.length (lev f (k + 1) s).1 (lev f (k + 1) s).2).2 := fun k => by
      have h1 := lev_le f (k + 1) s h
      exact h1.trans (rowP_le (m := s.ts.length) (fun s' hf _ => lev_le f (k + 1) s' hf) (ops_pos k) _ _ _ h1.fin (by have := h1.len; omega))
    rw [lev]
    split
    · have h1 := (takeW_le wNOT h).1
      split
      · exact h1.trans (lev_le f 2 _ h1.fin)
      · exact lev_le f 3 s h
    split
    · have h1 := (takeW_le [45] h).1
      split
      · exact h1.trans (lev_le f 6 _ h1.fin)
      · exact lev_le f 7 s h
    split
    · exact first_le h fun s' hf _ => lev_le f 0 s' hf
    · exact row _
end Go.Proofs.YtfjimoccliejdaaGreatDoor.Pa
end
