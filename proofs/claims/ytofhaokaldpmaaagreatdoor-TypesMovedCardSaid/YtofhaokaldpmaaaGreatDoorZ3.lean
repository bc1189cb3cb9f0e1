/-
  Cuts of signs, of numbers.
Cuts of numbers.
Cuts of texts.
Cuts.
Names.
Contracts of package value's small functions: which values may be, and how values are made.
Contracts of value.Compare, of the document's own Compare, and of '==' between two values.
Which expressions fit, but for their parts.
Through an expression: visit, through; what a round of a loop over it may do to a world.
-/
import Derived.Test.YtofhaokaldpmaaaGreatDoorZ2
import Derived.OwnWalk
import Derived.Laws.AppendOwn
import Derived.Laws.IdiomStrings
import Derived.Deep.Cut
import Derived.Test.YtofhaokaldpmaaaGreatDoorProg
import Derived.Laws.StructEq
import Derived.Lib.Hide
import Derived.Deep.QuietTactic
import Derived.BigQuiet
import Derived.RangeFuncNested
import Derived.RangeFuncBound
import Derived.RangeFuncCalls
import Derived.RangeFuncLeaves
import Derived.Shelf.Abstract
import Derived.Shelf.RegionOpen
import Derived.OwnWalkIn
import Derived.TacticsInMore
import Derived.LoopNIn
import Derived.LoopIn
section
namespace Go.Proofs.YtofhaokaldpmaaaGreatDoor
open Go.RowKit Go.Shelf

theorem signs_len : Lx.signs.length = 15 := by decide +kernel
theorem find_at {p : Lx.B → Bool} : ∀ {l : List Lx.B} {k : Nat} {b : Lx.B}, l[k]? = some b → p b = true → (∀ j x, j < k → l[j]? = some x → p x = false) → l.find? p = some b
  | [], k, b, h, _, _ => by simp at h
  | x :: l, 0, b, h, hp, _ => by obtain rfl : x = b := by simpa using h
                                 rw [List.find?_cons, hp]
  | x :: l, k + 1, b, h, hp, ha => by
    rw [List.find?_cons, ha 0 x (by omega) rfl]
    exact find_at (k := k) (by simpa using h) hp fun j y hj hy => ha (j + 1) y (by omega) (by simpa using hy)

/-- A token is stored into a box. -/
theorem tset {w : World} {U : Nat} {a0 a1 a2 a3 : Value} {T : TypeId} (h : w.heap[U]? = some (.cells #[a0, a1, a2, a3] T (0, 0))) (b0 b1 b2 b3 : Value) :
    ((((w.setCell ⟨U, 0, none⟩ b0).setCell ⟨U, 1, none⟩ b1).setCell ⟨U, 2, none⟩ b2).setCell ⟨U, 3, none⟩ b3).heap[U]? = some (.cells #[b0, b1, b2, b3] T (0, 0)) := by
  simp only [World.setCell, Array.getElem?_modify, if_true, h]
  rfl
theorem tcell {w : World} {U : Nat} {b0 b1 b2 b3 : Value} {T : TypeId} (e : w.heap[U]? = some (.cells #[b0, b1, b2, b3] T (0, 0))) :
    (w.cell? ⟨U, 0, none⟩ = some b0 ∧ w.cell? ⟨U, 1, none⟩ = some b1 ∧ w.cell? ⟨U, 2, none⟩ = some b2 ∧ w.cell? ⟨U, 3, none⟩ = some b3) ∧
    w.frozen? ⟨U, 0, none⟩ = false ∧ w.frozen? ⟨U, 1, none⟩ = false ∧ w.frozen? ⟨U, 2, none⟩ = false ∧ w.frozen? ⟨U, 3, none⟩ = false :=
  ⟨⟨by simp only [World.cell?, e]; rfl, by simp only [World.cell?, e]; rfl, by simp only [World.cell?, e]; rfl, by simp only [World.cell?, e]; rfl⟩,
    by simp only [World.frozen?, e]; rfl, by simp only [World.frozen?, e]; rfl, by simp only [World.frozen?, e]; rfl, by simp only [World.frozen?, e]; rfl⟩
abbrev tokO (T : TypeId) : Obj := .cells #[.int .i64 0, .string ⟨#[]⟩, .int .i64 0, .int .i64 0] T

set_option maxHeartbeats 1000000 in
theorem cutSign_any (s : ByteArray) (w : World) (hT : Tabs w) :
    Calls Tryz.prog 121 #[.string s] w fun e w' => ∃ v, e = .returned v ∧ CutV s (Lx.cutSign (bs s)) v ∧ Below w.heap.size w w' := by
  have HT := Lib.hid (hT.kept (ba w (.cells #[.int .i64 0, .string ⟨#[]⟩, .int .i64 0, .int .i64 0] 162)))
  have HBel := Lib.hid (ba w (.cells #[.int .i64 0, .string ⟨#[]⟩, .int .i64 0, .int .i64 0] 162))
  have HU := Lib.hid (show 1 < w.heap.size from lt_of_cell (hT.sg 0 _ rfl))
  have HX := Lib.hid ((MapKept.heap_alloc w (tokO 162)).1)
  clear hT
  go_enter Tryz.func121, Tryz.ntmps121
  go_wp2_with fail
  generalize w.alloc (.cells #[.int .i64 0, .string ⟨#[]⟩, .int .i64 0, .int .i64 0] 162) = W1 at HT HBel HX ⊢
  obtain ⟨U, hU⟩ : ∃ U, w.heap.size = U := ⟨_, rfl⟩
  have HUB := Lib.hid (show w.heap.size ≤ U by omega)
  rw [hU] at HX HU ⊢
  clear hU
  go_loop [5, 4] (fun i _ => ∃ k : Nat, k ≤ 15 ∧ i = .int .i64 k ∧ Hid (∀ j b, j < k → Lx.signs[j]? = some b → b.isPrefixOf (bs s) = false)) (fun i _ => 15 - (intOf i).toNat)
  case atStart => exact ⟨0, Nat.zero_le _, rfl, Lib.hid (fun j c h => absurd h (by omega))⟩
  case round =>
    obtain ⟨k, hk, rfl, HA⟩ := hrel
    by_cases hlt : k < 15
    · obtain ⟨b, hb⟩ : ∃ b, Lx.signs[k]? = some b := ⟨_, List.getElem?_eq_getElem (by rw [signs_len]; exact hlt)⟩
      have hc := HT.out.sg k b hb
      have HB := Lib.hid hb
      have HQ := Lib.hid (show bs (⟨b.toArray⟩ : ByteArray) = b from rfl)
      have HS2 := Lib.hid (show (⟨b.toArray⟩ : ByteArray).size = b.length by rw [← bs_len])
      clear hb
      generalize (⟨b.toArray⟩ : ByteArray) = kb at hc HQ HS2
      cases he : b.isPrefixOf (bs s)
      · go_wp2_with fail
        refine (Tryz.strings_HasPrefix _ _ _).mono ?_
        rintro e W1 ⟨rfl, rfl⟩
        rw [show Lib.hasPrefix s.data.toList kb.data.toList = false by rw [show kb.data.toList = b from HQ.out]; exact he]
        go_wp2_with fail
        go_round
        case rel =>
          refine ⟨k + 1, by omega, by go_num, Lib.hid (fun j x hj hx => ?_)⟩
          rcases Nat.lt_or_ge j k with h | h
          · exact HA.out j x h hx
          · obtain rfl : j = k := by omega
            rw [HB.out] at hx; obtain rfl := Option.some.inj hx; exact he
        case measure => simp [intOf]; omega
      · go_wp2_with fail
        refine (Tryz.strings_HasPrefix _ _ _).mono ?_
        rintro e W1 ⟨rfl, rfl⟩
        rw [show Lib.hasPrefix s.data.toList kb.data.toList = true by rw [show kb.data.toList = b from HQ.out]; exact he]
        go_wp2_with fail
        obtain ⟨⟨c0, c1, c2, c3⟩, f0, f1, f2, f3⟩ := tcell HX.out
        have hUV := HU.out
        have HS := Lib.hid (tset HX.out (.int .i64 5) (.string kb) (.int .i64 0) (.int .i64 0))
        have HE := Lib.hid (show Below w.heap.size w ((((W1.setCell ⟨U, 0, none⟩ (.int .i64 5)).setCell ⟨U, 1, none⟩ (.string kb)).setCell ⟨U, 2, none⟩ (.int .i64 0)).setCell ⟨U, 3, none⟩ (.int .i64 0)) from
          (((HBel.out.setCell HUB.out _).setCell HUB.out _).setCell HUB.out _).setCell HUB.out _)
        go_region
        go_wp2_with fail
        obtain ⟨⟨q0, q1, q2, q3⟩, _⟩ := tcell HS.out
        have HL := Lib.hid (show Lx.cutSign (bs s) = some (⟨5, b, 0⟩, b.length) by rw [Lx.cutSign, find_at HB.out he (fun j x hj hx => HA.out j x hj hx)]; rfl)
        refine bodyPost_ret (v := .tuple #[tokV 5 kb 0 0, .int .i64 kb.size]) (by simp [results, Tryz.results121, go_sem, q0, q1, q2, q3]) rfl ⟨_, rfl, ?_, Below.drew HE.out⟩
        rw [HL.out]
        refine ⟨?_, kb, HQ.out, by rw [HS2.out]; rfl⟩
        rw [← bs_len]
        exact (List.isPrefixOf_iff_prefix.1 he).length_le
    · have HF := Lib.hid (show Lx.cutSign (bs s) = none by
        rw [Lx.cutSign, List.find?_eq_none.2]; rfl
        intro x hx
        obtain ⟨j, hj⟩ := List.getElem?_of_mem hx
        have : j < 15 := by have := (List.getElem?_eq_some_iff.1 hj).1; rw [signs_len] at this; exact this
        rw [HA.out j x (by omega) hj]; decide)
      obtain ⟨⟨c0, c1, c2, c3⟩, f0, f1, f2, f3⟩ := tcell HX.out
      have HS := Lib.hid (tset HX.out (.int .i64 0) (.string ⟨#[]⟩) (.int .i64 0) (.int .i64 0))
      have HE := Lib.hid (show Below w.heap.size w ((((W1.setCell ⟨U, 0, none⟩ (.int .i64 0)).setCell ⟨U, 1, none⟩ (.string ⟨#[]⟩)).setCell ⟨U, 2, none⟩ (.int .i64 0)).setCell ⟨U, 3, none⟩ (.int .i64 0)) from
          (((HBel.out.setCell HUB.out _).setCell HUB.out _).setCell HUB.out _).setCell HUB.out _)
      go_wp2_with fail
      obtain ⟨⟨q0, q1, q2, q3⟩, _⟩ := tcell HS.out
      refine bodyPost_ret (v := noTok) (by simp [results, Tryz.results121, go_sem, q0, q1, q2, q3]) rfl ⟨_, rfl, ?_, HE.out⟩
      rw [HF.out]; rfl
end Go.Proofs.YtofhaokaldpmaaaGreatDoor
end
section
namespace Go.Proofs.YtofhaokaldpmaaaGreatDoor
open Go.RowKit Go.Shelf

theorem val_snoc (l : Lx.B) (c : UInt8) : Lx.val (l ++ [c]) = 10 * Lx.val l + (c.toNat - 48) := by simp [Lx.val, List.foldl_append]
theorem val_app (l r : Lx.B) : Lx.val l ≤ Lx.val (l ++ r) := by
  induction r generalizing l with
  | nil => simp
  | cons c r ih =>
    have := ih (l ++ [c])
    rw [List.append_assoc, List.singleton_append, val_snoc] at this
    omega
theorem val_take (l : Lx.B) (k : Nat) : Lx.val (l.take k) ≤ Lx.val l := by
  have := val_app (l.take k) (l.drop k)
  rwa [List.take_append_drop] at this
theorem bs_snoc (s : ByteArray) (k : Nat) (h : k < s.size) : (bs s).take (k + 1) = (bs s).take k ++ [s[k]] := by
  rw [List.take_add_one, bs_get s k h]; rfl

set_option maxHeartbeats 1000000 in
theorem cutNum_any (s : ByteArray) (w : World) (hs : s.size ≤ 16384) :
    Calls Tryz.prog 119 #[.string s] w fun e w' => ∃ v, e = .returned v ∧ CutV s (Lx.cutNum (bs s)) v ∧ Below w.heap.size w w' := by
  have HBel := Lib.hid (ba w (.cells #[.int .i64 0, .string ⟨#[]⟩, .int .i64 0, .int .i64 0] 162))
  obtain ⟨W, hz⟩ : ∃ W, (bs s).takeWhile Lx.digit = W := ⟨_, rfl⟩
  obtain ⟨n, hn⟩ : ∃ n, W.length = n := ⟨_, rfl⟩
  have hr : n ≤ s.size := by rw [← hn, ← hz, ← bs_len]; exact Lx.takeWhile_le _ _
  have HK := Lib.hid (show (bs s).take n = W by rw [← hn, ← hz, Lx.takeWhile_take])
  have HX := Lib.hid (show bs (s.extract 0 n) = W by rw [bs_extract, List.drop_zero, HK.out])
  have HZ := Lib.hid (show Lx.cutNum (bs s) = if (((bs s).drop n).head?.any Lx.letter) = true then none else if 9007199254740991 < Lx.val W then none else some (⟨3, W, Lx.val W⟩, n) by subst hz hn; rfl)
  have HW := Lib.hid (show ((bs s).takeWhile Lx.digit).length = n by rw [hz, hn])
  have HG := Lib.hid (show ∀ (k : Nat) (h : k < s.size), k < n → Lx.digit s[k] = true by
    intro k h hk
    refine Lx.takeWhile_mem Lx.digit (bs s) _ ?_
    rw [hz]
    refine List.mem_of_getElem? (i := k) ?_
    rw [← HK.out, List.getElem?_take_of_lt hk, bs_get s k h])
  clear hz hn
  by_cases hl : ∃ h : n < s.size, Lx.letter s[n] = true
  · obtain ⟨hlt, hl⟩ := hl
    have HF := Lib.hid (show Lx.cutNum (bs s) = none by rw [HZ.out, if_pos]; rw [bs_drop s n hlt]; exact hl)
    go_enter Tryz.func119, Tryz.ntmps119
    go_wp2_with fail
    refine (runD _ _ (by omega)).mono ?_
    rintro e w' ⟨rfl, rfl⟩
    rw [HW.out]
    go_wp2_with fail
    refine (isLetter_any s[n] _).mono ?_
    rintro e w' ⟨rfl, rfl⟩
    rw [hl]
    go_wp2_with fail
    refine bodyPost_ret (v := noTok) (by simp [results, Tryz.results119, go_sem]) rfl ⟨_, rfl, ?_, HBel.out⟩
    rw [HF.out]; rfl
  · have HF := Lib.hid (show Lx.cutNum (bs s) = if 9007199254740991 < Lx.val W then none else some (⟨3, W, Lx.val W⟩, n) by
      rw [HZ.out, if_neg]
      intro h
      rcases Nat.lt_or_ge n s.size with hlt | hge
      · rw [bs_drop s n hlt] at h; exact hl ⟨hlt, h⟩
      · rw [List.drop_eq_nil_iff.2 (by rw [bs_len]; omega)] at h; cases h)
    go_enter Tryz.func119, Tryz.ntmps119
    go_wp2_with fail
    refine (runD _ _ (by omega)).mono ?_
    rintro e w' ⟨rfl, rfl⟩
    rw [HW.out]
    by_cases hlt : n < s.size
    · have hl' : Lx.letter s[n] = false := by
        cases h : Lx.letter s[n]
        · rfl
        · exact absurd ⟨hlt, h⟩ hl
      clear hl
      go_wp2_with fail
      refine (isLetter_any s[n] _).mono ?_
      rintro e w' ⟨rfl, rfl⟩
      rw [hl']
      go_wp2_with fail
      go_loop [21, 5, 6] (fun i v _ => ∃ k : Nat, k ≤ n ∧ i = .int .i64 k ∧ v = .int .i64 (Lx.val ((bs s).take k) : Nat) ∧ Lx.val ((bs s).take k) ≤ 9007199254740991) (fun i _ _ => n - (intOf i).toNat)
      case atStart => exact ⟨0, Nat.zero_le _, rfl, by simp [Lx.val], by simp [Lx.val]⟩
      case round =>
        obtain ⟨k, hk, rfl, rfl, hv⟩ := hrel
        by_cases hkn : k < n
        · have hks : k < s.size := by omega
          have HS := Lib.hid (show Lx.val ((bs s).take (k + 1)) = 10 * Lx.val ((bs s).take k) + (s[k].toNat - 48) by rw [bs_snoc s k hks, val_snoc])
          have hd : 48 ≤ s[k].toNat ∧ s[k].toNat ≤ 57 := by simpa [Lx.digit] using HG.out k hks hkn
          have HM := Lib.hid (show Lx.val ((bs s).take (k + 1)) ≤ Lx.val W by
            have e : (bs s).take (k + 1) = W.take (k + 1) := by rw [← HK.out, List.take_take, Nat.min_eq_left (by omega)]
            rw [e]; exact val_take _ _)
          generalize Lx.val ((bs s).take k) = v at hv HS ⊢
          by_cases hb : 9007199254740991 < 10 * v + (s[k].toNat - 48)
          · have hb' : 9007199254740991 < 10 * (v : Int) + ((s[k].toNat : Int) - 48) := by omega
            go_wp2_with fail
            refine bodyPost_ret (v := noTok) (by simp [results, Tryz.results119, go_sem]) rfl ⟨_, rfl, ?_, HBel.out⟩
            rw [HF.out, if_pos (by have := HM.out; rw [HS.out] at this; omega)]; rfl
          · have hb' : ¬ 9007199254740991 < 10 * (v : Int) + ((s[k].toNat : Int) - 48) := by omega
            go_wp2_with fail
            go_round
            case rel => exact ⟨k + 1, by omega, by go_num, by rw [HS.out]; go_num, by rw [HS.out]; omega⟩
            case measure => simp [intOf]; omega
        · obtain rfl : k = n := by omega
          rw [HK.out] at hv ⊢
          go_wp2_with fail
          refine bodyPost_ret (v := .tuple #[tokV 3 (s.extract 0 k) (Lx.val W : Nat) 0, .int .i64 k]) (by simp [results, Tryz.results119, go_sem]) rfl ⟨_, rfl, ?_, ba w _⟩
          rw [HF.out, if_neg (by omega)]
          exact ⟨hr, _, HX.out, rfl⟩
    · clear hl
      go_wp2_with fail
      go_loop [21, 5, 6] (fun i v _ => ∃ k : Nat, k ≤ n ∧ i = .int .i64 k ∧ v = .int .i64 (Lx.val ((bs s).take k) : Nat) ∧ Lx.val ((bs s).take k) ≤ 9007199254740991) (fun i _ _ => n - (intOf i).toNat)
      case atStart => exact ⟨0, Nat.zero_le _, rfl, by simp [Lx.val], by simp [Lx.val]⟩
      case round =>
        obtain ⟨k, hk, rfl, rfl, hv⟩ := hrel
        by_cases hkn : k < n
        · have hks : k < s.size := by omega
          have HS := Lib.hid (show Lx.val ((bs s).take (k + 1)) = 10 * Lx.val ((bs s).take k) + (s[k].toNat - 48) by rw [bs_snoc s k hks, val_snoc])
          have hd : 48 ≤ s[k].toNat ∧ s[k].toNat ≤ 57 := by simpa [Lx.digit] using HG.out k hks hkn
          have HM := Lib.hid (show Lx.val ((bs s).take (k + 1)) ≤ Lx.val W by
            have e : (bs s).take (k + 1) = W.take (k + 1) := by rw [← HK.out, List.take_take, Nat.min_eq_left (by omega)]
            rw [e]; exact val_take _ _)
          generalize Lx.val ((bs s).take k) = v at hv HS ⊢
          by_cases hb : 9007199254740991 < 10 * v + (s[k].toNat - 48)
          · have hb' : 9007199254740991 < 10 * (v : Int) + ((s[k].toNat : Int) - 48) := by omega
            go_wp2_with fail
            refine bodyPost_ret (v := noTok) (by simp [results, Tryz.results119, go_sem]) rfl ⟨_, rfl, ?_, HBel.out⟩
            rw [HF.out, if_pos (by have := HM.out; rw [HS.out] at this; omega)]; rfl
          · have hb' : ¬ 9007199254740991 < 10 * (v : Int) + ((s[k].toNat : Int) - 48) := by omega
            go_wp2_with fail
            go_round
            case rel => exact ⟨k + 1, by omega, by go_num, by rw [HS.out]; go_num, by rw [HS.out]; omega⟩
            case measure => simp [intOf]; omega
        · obtain rfl : k = n := by omega
          rw [HK.out] at hv ⊢
          go_wp2_with fail
          refine bodyPost_ret (v := .tuple #[tokV 3 (s.extract 0 k) (Lx.val W : Nat) 0, .int .i64 k]) (by simp [results, Tryz.results119, go_sem]) rfl ⟨_, rfl, ?_, ba w _⟩
          rw [HF.out, if_neg (by omega)]
          exact ⟨hr, _, HX.out, rfl⟩
end Go.Proofs.YtofhaokaldpmaaaGreatDoor
end
section
namespace Go.Proofs.YtofhaokaldpmaaaGreatDoor
open Go.RowKit Go.Shelf

theorem info_byte : (Tryz.prog.info? 5).map (fun i => (i.zero, i.size, i.bytes)) = some (some (.int .u8 0), 1, 1) := by kernel_rfl
theorem infoX_parts {t : TypeId} {z : Value} {n b : Nat} (h : (Tryz.prog.info? t).map (fun i => (i.zero, i.size, i.bytes)) = some (some z, n, b)) :
    ∃ i, Tryz.prog.info? t = some i ∧ i.zero = some z ∧ i.size = n ∧ i.bytes = b := by
  cases hi : Tryz.prog.info? t with
  | none => rw [hi] at h; cases h
  | some i => rw [hi] at h; simp at h; exact ⟨i, rfl, h.1, h.2.1, h.2.2⟩
abbrev u8s (l : Lx.B) : List Value := l.map fun c => .int .u8 (c.toNat : Int)
/-- Bytes of the call's own, told. -/
structure Said (base : Nat) (W1 W : World) (v : Value) (said : Lx.B) : Prop where
  own : W.ownsRow base 5 1 v said.length (u8s said)
  bel : Below base W1 W
  le : base ≤ W.heap.size
theorem Said.slice {base : Nat} {W1 W : World} {v : Value} {said : Lx.B} (h : Said base W1 W v said) : ∃ A cap, v = .slice A said.length cap := by
  rcases h.own.2 with ⟨rfl, h0⟩ | ⟨g, cap, cur, hv, _⟩
  · rw [h0]; exact ⟨none, 0, rfl⟩
  · exact ⟨_, cap, hv⟩
theorem Said.str {base : Nat} {W1 W : World} {v : Value} {said : Lx.B} (h : Said base W1 W v said) : (convert 166 9 v).run Tryz.prog W = .ok (.string ⟨said.toArray⟩) W := by
  rcases h.own.2 with ⟨rfl, h0⟩ | ⟨g, cap, cur, hv, hb, hg, hc, hm, hsz, ht⟩
  · obtain rfl : said = [] := List.eq_nil_of_length_eq_zero h0
    exact run_convert_bytes_nil W _ _ Tryz.underlying166 Tryz.underlying5 0 0 _ Tryz.underlying9
  · subst hv
    refine run_convert_bytes_back W _ _ _ _ cap said Tryz.underlying166 Tryz.underlying5 Tryz.underlying9 fun j hj => ?_
    have e : cur.toList[j]? = (u8s said)[j]? := by rw [← ht, List.getElem?_take_of_lt (by omega)]
    have e2 : (⟨g, 0, none⟩ : Addr).add j = ⟨g, j, none⟩ := by simp only [Addr.add]; split <;> simp_all
    have e3 : W.cell? ⟨g, j, none⟩ = cur[j]? := by simp [World.cell?, hg]
    rw [e2, e3, ← Array.getElem?_toList, e]
    simp [List.getElem?_eq_getElem hj]
theorem Said.grow {base : Nat} {W1 W : World} {v : Value} {said : Lx.B} (h : Said base W1 W v said) (c : UInt8) {o : Obj} {v' : Value} {w' : World} (ho : w'.ownsRow base 5 1 v' (said.length + 1) (u8s said ++ [.int .u8 (c.toNat : Int)])) (hg : (W.alloc o).grownBy w' v.ownBlock) : Said base W1 w' v' (said ++ [c]) := by
  have hle := h.le
  have hs := hg.size
  rw [World.size_alloc] at hs
  refine ⟨by simpa using ho, h.bel.trans (((Below.refl base W).alloc hle _).trans ((Below.refl base (W.alloc o)).grown hg (by rw [World.size_alloc]; omega) (fun k hk => ?_))), by omega⟩
  exact (h.own.lt k hk).1
theorem Said.box {base U : Nat} {W1 W : World} {v : Value} {said : Lx.B} (h : Said base W1 W v said) (hU : U < base) {o : Obj} (hx : W1.heap[U]? = some o) : W.heap[U]? = some o :=
  (h.bel.block U hU).trans hx

theorem below_tok {B U : Nat} {w W : World} (h : Below B w W) (hU : B ≤ U) (b0 b1 b2 b3 : Value) : Below B w ((((W.setCell ⟨U, 0, none⟩ b0).setCell ⟨U, 1, none⟩ b1).setCell ⟨U, 2, none⟩ b2).setCell ⟨U, 3, none⟩ b3) :=
  (((h.setCell (p := ⟨U, 0, none⟩) hU b0).setCell (p := ⟨U, 1, none⟩) hU b1).setCell (p := ⟨U, 2, none⟩) hU b2).setCell (p := ⟨U, 3, none⟩) hU b3
theorem quotes {r : Lx.B} : Lib.hasPrefix (39 :: r) [39, 39] = decide (r.head? = some 39) := by
  cases r with
  | nil => rfl
  | cons x r =>
    by_cases h : x = 39
    · subst h; simp [Lib.hasPrefix]
    · simp [Lib.hasPrefix, List.isPrefixOf, h, Ne.symm h]
theorem txq_quote {r s : Lx.B} (h : s.length ≤ 64) : Lx.txq false (39 :: r) s = Lx.txq true r s := by rw [Lx.txq, if_neg (by omega), if_pos rfl]
theorem txq_end {r s : Lx.B} (h : r.head? ≠ some 39) : Lx.txq true r s = some (s, r) := by
  cases r with
  | nil => rfl
  | cons c r => rw [Lx.txq, if_neg (by simpa using h)]
theorem txq_two {r s : Lx.B} : Lx.txq true (39 :: r) s = Lx.txq false r (s ++ [39]) := by rw [Lx.txq, if_pos rfl]
theorem txq_byte {c : UInt8} {r s : Lx.B} (hc : c ≠ 39) (h : s.length ≤ 64) : Lx.txq false (c :: r) s = Lx.txq false r (s ++ [c]) := by rw [Lx.txq, if_neg (by omega), if_neg hc]
theorem txq_long {r s : Lx.B} (h : 64 < s.length) : Lx.txq false r s = none := by
  cases r with
  | nil => rfl
  | cons c r => rw [Lx.txq, if_pos h]

set_option maxRecDepth 100000 in
set_option maxHeartbeats 2000000 in
theorem cutText_any (s : ByteArray) (w : World) (hs : s.size ≤ 16384) (h1 : 1 ≤ s.size) :
    Calls Tryz.prog 120 #[.string s] w fun e w' => ∃ v, e = .returned v ∧ CutV s (Lx.cutText (bs s)) v ∧ Below w.heap.size w w' := by
  obtain ⟨i0, hi, hz0, hz1, hz2⟩ := infoX_parts info_byte
  have HBel := Lib.hid (ba w (tokO 162))
  have HX := Lib.hid ((MapKept.heap_alloc w (tokO 162)).1)
  have HSz := Lib.hid (show w.heap.size < (w.alloc (tokO 162)).heap.size by rw [World.size_alloc]; omega)
  have HT := Lib.hid (show ∀ o, Lx.txq false ((bs s).drop 1) [] = o → Lx.cutText (bs s) = o.map fun x => (⟨4, x.1, 0⟩, (bs s).length - x.2.length) from fun o ho => by rw [Lx.cutText, ho])
  obtain ⟨R, hR⟩ : ∃ R, Lx.txq false ((bs s).drop 1) [] = R := ⟨_, rfl⟩
  have HF := Lib.hid (HT.out R hR)
  have HR := Lib.hid hR
  clear HT hR
  go_enter Tryz.func120, Tryz.ntmps120
  go_wp2_with fail
  generalize w.alloc (.cells #[.int .i64 0, .string ⟨#[]⟩, .int .i64 0, .int .i64 0] 162) = W1 at HBel HX HSz ⊢
  obtain ⟨U, hU⟩ : ∃ U, w.heap.size = U := ⟨_, rfl⟩
  have HUB := Lib.hid (show w.heap.size ≤ U by omega)
  rw [hU] at HX HSz ⊢
  clear hU
  go_loopw [5, 4] (fun i v W => ∃ (k : Nat) (said : Lx.B), k ≤ s.size ∧ said.length ≤ 65 ∧ i = .int .i64 k ∧ Hid (Said W1.heap.size W1 W v said) ∧ Hid (Lx.txq false ((bs s).drop k) said = R)) (fun i _ _ => s.size - (intOf i).toNat)
  case atStart => exact ⟨1, [], h1, by simp, rfl, Lib.hid ⟨World.ownsRow_nil _ _ _ _, Below.refl _ _, Nat.le_refl _⟩, HR⟩
  case round =>
    obtain ⟨k, said, hk, hl, rfl, HS, HQ⟩ := hrel
    obtain ⟨A, cap, hv⟩ := HS.out.slice
    subst hv
    by_cases hkn : k < s.size
    · have hD := bs_drop s k hkn
      by_cases hl64 : said.length ≤ 64
      · by_cases hc : s[k] = 39
        · have HC := Lib.hid hc
          have hcn : (s[k].toNat : Int) = 39 := by rw [hc]; rfl
          have HP := Lib.hid (show Lib.hasPrefix (bs (s.extract k s.size)) [39, 39] = decide (((bs s).drop (k + 1)).head? = some 39) by rw [bs_from, hD, hc, quotes])
          have HQ2 := Lib.hid (show Lx.txq true ((bs s).drop (k + 1)) said = R by rw [← HQ.out, hD, hc, txq_quote hl64])
          clear hD hc
          by_cases hn : ((bs s).drop (k + 1)).head? = some 39
          · have hk1 : k + 1 < s.size := by
              rcases Nat.lt_or_ge (k + 1) s.size with h | h
              · exact h
              · rw [List.drop_eq_nil_iff.2 (by rw [bs_len]; omega)] at hn; cases hn
            have hD1 := bs_drop s (k + 1) hk1
            have hc1 : s[k + 1] = 39 := by rw [hD1] at hn; simpa using hn
            have HN := Lib.hid (show Lx.txq false ((bs s).drop (k + 1 + 1)) (said ++ [39]) = R by rw [← HQ2.out, hD1, hc1, txq_two])
            have hcm : (s[k + 1].toNat : Int) = 39 := by rw [hc1]; rfl
            have HP2 := Lib.hid (HP.out.trans (decide_eq_true hn))
            clear hD1 hc1 hn
            go_wp2_with fail
            refine (Tryz.strings_HasPrefix _ _ _).mono ?_
            rintro e wr ⟨rfl, rfl⟩
            rw [show Lib.hasPrefix (s.extract k s.size).data.toList [39, 39] = true from HP2.out]
            go_wp2_with (at_builtin; refine wpList_append_own _ rfl _ _ 166 rfl W1.heap.size 5 i0 (.int .u8 0) 1 1 Tryz.underlying166 hi hz0 hz1 hz2 rfl (by decide) _ _ _ rfl (HS.out.own.alloc _) ⟨wr.heap.size, 0, none⟩ 1 1 [.int .u8 ((39 : UInt8).toNat : Int)] rfl rfl ?c1 ?c2 ?c3 ?c4 ?c5 ?_)
            case c1 =>
              intro j u hj
              match j, hj with
              | 0, hj => simp at hj; subst hj; simp [Addr.add]
            case c2 => intro u hu; simp at hu; subst hu; rfl
            case c3 => unfold maxLen; omega
            case c4 => omega
            case c5 => have := HS.out.le; simp; omega
            intro v' w1 hown' hg _
            have HG := Lib.hid (HS.out.grow 39 hown' hg)
            clear hown' hg
            go_wp2_with fail
            go_roundw
            case rel => exact ⟨k + 1 + 1, said ++ [39], by omega, by simp; omega, by go_num, HG, HN⟩
            case measure => simp [intOf]; omega
          · have HN := Lib.hid (show R = some (said, (bs s).drop (k + 1)) by rw [← HQ2.out, txq_end hn])
            have HP2 := Lib.hid (HP.out.trans (decide_eq_false hn))
            clear hn
            go_wp2_with fail
            refine (Tryz.strings_HasPrefix _ _ _).mono ?_
            rintro e wr ⟨rfl, rfl⟩
            rw [show Lib.hasPrefix (s.extract k s.size).data.toList [39, 39] = false from HP2.out]
            have hx := HS.out.box HSz.out HX.out
            obtain ⟨⟨c0, c1, c2, c3⟩, f0, f1, f2, f3⟩ := tcell hx
            have hstr := HS.out.str
            have HS2 := Lib.hid (tset hx (.int .i64 4) (.string ⟨said.toArray⟩) (.int .i64 0) (.int .i64 0))
            have HE := Lib.hid (below_tok (HBel.out.trans (HS.out.bel.mono (by have := HBel.out.size; omega))) HUB.out (.int .i64 4) (.string ⟨said.toArray⟩) (.int .i64 0) (.int .i64 0))
            clear hx
            go_wp2_with fail
            obtain ⟨⟨q0, q1, q2, q3⟩, _⟩ := tcell HS2.out
            refine bodyPost_ret (v := .tuple #[tokV 4 ⟨said.toArray⟩ 0 0, .int .i64 ((k + 1 : Nat))]) (by simp [results, Tryz.results120, go_sem, q0, q1, q2, q3]) rfl ⟨_, rfl, ?_, HE.out⟩
            rw [HF.out, HN.out]
            refine ⟨by simp only [bs_len, List.length_drop]; omega, ⟨said.toArray⟩, rfl, ?_⟩
            simp only [bs_len, List.length_drop]
            rw [show s.size - (s.size - (k + 1)) = k + 1 by omega]; rfl
        · have HN := Lib.hid (show Lx.txq false ((bs s).drop (k + 1)) (said ++ [s[k]]) = R by rw [← HQ.out, hD, txq_byte hc hl64])
          have hcn : ¬ (s[k].toNat : Int) = 39 := by
            intro h; apply hc
            apply UInt8.toNat_inj.1
            have : s[k].toNat = 39 := by omega
            rw [this]; rfl
          clear hD hc
          go_wp2_with (at_builtin; refine wpList_append_own _ rfl _ _ 166 rfl W1.heap.size 5 i0 (.int .u8 0) 1 1 Tryz.underlying166 hi hz0 hz1 hz2 rfl (by decide) _ _ _ rfl (HS.out.own.alloc _) ⟨wr.heap.size, 0, none⟩ 1 1 [.int .u8 (s[k].toNat : Int)] rfl rfl ?c1 ?c2 ?c3 ?c4 ?c5 ?_)
          case c1 =>
            intro j u hj
            match j, hj with
            | 0, hj => simp at hj; subst hj; simp [Addr.add]
          case c2 => intro u hu; simp at hu; subst hu; rfl
          case c3 => unfold maxLen; omega
          case c4 => omega
          case c5 => have := HS.out.le; simp; omega
          intro v' w1 hown' hg _
          have HG := Lib.hid (HS.out.grow s[k] hown' hg)
          clear hown' hg
          go_wp2_with fail
          go_roundw
          case rel => exact ⟨k + 1, said ++ [s[k]], by omega, by simp; omega, by go_num, HG, HN⟩
          case measure => simp [intOf]; omega
      · have HN := Lib.hid (show R = none by rw [← HQ.out, txq_long (by omega)])
        clear hD
        have hx := HS.out.box HSz.out HX.out
        obtain ⟨⟨c0, c1, c2, c3⟩, f0, f1, f2, f3⟩ := tcell hx
        have HS2 := Lib.hid (tset hx (.int .i64 0) (.string ⟨#[]⟩) (.int .i64 0) (.int .i64 0))
        have HE := Lib.hid (below_tok (HBel.out.trans (HS.out.bel.mono (by have := HBel.out.size; omega))) HUB.out (.int .i64 0) (.string ⟨#[]⟩) (.int .i64 0) (.int .i64 0))
        clear hx
        go_wp2_with fail
        obtain ⟨⟨q0, q1, q2, q3⟩, _⟩ := tcell HS2.out
        refine bodyPost_ret (v := noTok) (by simp [results, Tryz.results120, go_sem, q0, q1, q2, q3]) rfl ⟨_, rfl, ?_, HE.out⟩
        rw [HF.out, HN.out]; rfl
    · have HN := Lib.hid (show R = none by rw [← HQ.out, List.drop_eq_nil_iff.2 (by rw [bs_len]; omega)]; rfl)
      have hx := HS.out.box HSz.out HX.out
      obtain ⟨⟨c0, c1, c2, c3⟩, f0, f1, f2, f3⟩ := tcell hx
      have HS2 := Lib.hid (tset hx (.int .i64 0) (.string ⟨#[]⟩) (.int .i64 0) (.int .i64 0))
      have HE := Lib.hid (below_tok (HBel.out.trans (HS.out.bel.mono (by have := HBel.out.size; omega))) HUB.out (.int .i64 0) (.string ⟨#[]⟩) (.int .i64 0) (.int .i64 0))
      clear hx
      go_wp2_with fail
      obtain ⟨⟨q0, q1, q2, q3⟩, _⟩ := tcell HS2.out
      refine bodyPost_ret (v := noTok) (by simp [results, Tryz.results120, go_sem, q0, q1, q2, q3]) rfl ⟨_, rfl, ?_, HE.out⟩
      rw [HF.out, HN.out]; rfl
end Go.Proofs.YtofhaokaldpmaaaGreatDoor
end
section
namespace Go.Proofs.YtofhaokaldpmaaaGreatDoor
open Go.RowKit Go.Shelf

theorem CutV.form {s : ByteArray} {o : Option (Lx.Tok × Nat)} {v : Value} (h : CutV s o v) : ∃ k b n z, v = .tuple #[tokV k b n 0, .int .i64 z] := by
  cases o with
  | none => exact ⟨0, ⟨#[]⟩, 0, 0, h⟩
  | some x => obtain ⟨t, z⟩ := x; obtain ⟨_, b, _, hv⟩ := h; exact ⟨_, b, _, _, hv⟩
/-- What the cuts' box and world are behind a call. -/
theorem cut_end {w W1 W2 : World} {U : Nat} (hB : Below w.heap.size w W1) (hX : W1.heap[U]? = some (tokO 162)) (hb : Below W1.heap.size W1 W2) : Below w.heap.size w W2 ∧ W2.heap[U]? = some (tokO 162) := by
  refine ⟨hB.trans (hb.mono (by have := hB.size; omega)), (hb.block U ?_).trans hX⟩
  rcases Nat.lt_or_ge U W1.heap.size with h | h
  · exact h
  · rw [Array.getElem?_eq_none h] at hX; cases hX

set_option maxHeartbeats 2000000 in
theorem cut_any (s : ByteArray) (w : World) (hs : s.size ≤ 16384) (hT : Tabs w) :
    Calls Tryz.prog 115 #[.string s] w fun e w' => ∃ v, e = .returned v ∧ CutV s (Lx.cut (bs s)) v ∧ Below w.heap.size w w' := by
  have HT := Lib.hid (hT.kept (ba w (tokO 162)))
  have HBel := Lib.hid (ba w (tokO 162))
  have HX := Lib.hid ((MapKept.heap_alloc w (tokO 162)).1)
  clear hT
  go_enter Tryz.func115, Tryz.ntmps115
  go_upto_region 1 with fail
  generalize w.alloc (.cells #[.int .i64 0, .string ⟨#[]⟩, .int .i64 0, .int .i64 0] 162) = W1 at HT HBel HX ⊢
  obtain ⟨U, hU⟩ : ∃ U, w.heap.size = U := ⟨_, rfl⟩
  have HUB := Lib.hid (show w.heap.size ≤ U by omega)
  rw [hU] at HX ⊢
  clear hU
  by_cases h0 : s.size = 0
  · have hE : s.toList.isEmpty = true := by
      rw [ByteArray.toList_eq, List.isEmpty_iff]
      exact List.eq_nil_of_length_eq_zero ((bs_len s).trans h0)
    have HN := Lib.hid (show Lx.cut (bs s) = some (⟨6, [], 0⟩, 0) by rw [List.eq_nil_of_length_eq_zero ((bs_len s).trans h0)]; rfl)
    obtain ⟨⟨c0, c1, c2, c3⟩, f0, f1, f2, f3⟩ := tcell HX.out
    have HS2 := Lib.hid (tset HX.out (.int .i64 6) (.string ⟨#[]⟩) (.int .i64 0) (.int .i64 0))
    have HE := Lib.hid (below_tok HBel.out HUB.out (.int .i64 6) (.string ⟨#[]⟩) (.int .i64 0) (.int .i64 0))
    go_wp2_with fail
    obtain ⟨⟨q0, q1, q2, q3⟩, _⟩ := tcell HS2.out
    refine bodyPost_ret (v := .tuple #[tokV 6 ⟨#[]⟩ 0 0, .int .i64 0]) (by simp [results, Tryz.results115, go_sem, q0, q1, q2, q3]) rfl ⟨_, rfl, ?_, HE.out⟩
    rw [HN.out]
    exact ⟨Nat.zero_le _, ⟨#[]⟩, rfl, rfl⟩
  · have hE : s.toList.isEmpty = false := by
      rw [ByteArray.toList_eq, List.isEmpty_eq_false_iff]
      intro h; exact h0 (by rw [← bs_len, show bs s = [] from h]; rfl)
    have hp : 0 < s.size := by omega
    have HD := Lib.hid (show bs s = s[0] :: (bs s).drop 1 by have := bs_drop s 0 hp; rwa [List.drop_zero] at this)
    cases hl : Lx.letter s[0]
    · cases hd : Lx.digit s[0]
      · by_cases hq : s[0] = 39
        · have HN := Lib.hid (show Lx.cut (bs s) = Lx.cutText (bs s) by rw [HD.out, Lx.cut, hl, hd, hq]; rfl)
          have HCN := Lib.hid (show (s[0].toNat : Int) = 39 by rw [hq]; rfl)
          clear hq
          go_wp2_with fail
          refine (isLetter_any s[0] _).mono ?_
          rintro e W1 ⟨rfl, rfl⟩
          rw [hl]
          go_wp2_with fail
          refine (isDigit_any s[0] _).mono ?_
          rintro e W1 ⟨rfl, rfl⟩
          rw [hd]
          have hcn := HCN.out
          go_wp2_with fail
          refine (cutText_any s _ hs (by omega)).mono ?_
          rintro e W2 ⟨v, rfl, hv, hb⟩
          obtain ⟨k, b, n, z, rfl⟩ := hv.form
          have HV := Lib.hid hv
          have hw := cut_end HBel.out HX.out hb
          have HX2 := Lib.hid hw.2
          obtain ⟨⟨c0, c1, c2, c3⟩, f0, f1, f2, f3⟩ := tcell hw.2
          have HS2 := Lib.hid (tset hw.2 (.int .i64 k) (.string b) (.int .i64 n) (.int .i64 0))
          have HE := Lib.hid (below_tok hw.1 HUB.out (.int .i64 k) (.string b) (.int .i64 n) (.int .i64 0))
          clear hw hv hb
          go_wp2_with fail
          obtain ⟨⟨q0, q1, q2, q3⟩, _⟩ := tcell HS2.out
          refine bodyPost_ret (v := .tuple #[tokV k b n 0, .int .i64 z]) (by simp [results, Tryz.results115, go_sem, q0, q1, q2, q3]) rfl ⟨_, rfl, ?_, HE.out⟩
          rw [HN.out]
          exact HV.out
        · have HN := Lib.hid (show Lx.cut (bs s) = Lx.cutSign (bs s) by rw [HD.out, Lx.cut, if_neg (by simp [hl]), if_neg (by simp [hd]), if_neg hq])
          have HCN := Lib.hid (show ¬ (s[0].toNat : Int) = 39 by
            intro h; apply hq
            apply UInt8.toNat_inj.1
            have : s[0].toNat = 39 := by omega
            rw [this]; rfl)
          clear hq
          go_wp2_with fail
          refine (isLetter_any s[0] _).mono ?_
          rintro e W1 ⟨rfl, rfl⟩
          rw [hl]
          go_wp2_with fail
          refine (isDigit_any s[0] _).mono ?_
          rintro e W1 ⟨rfl, rfl⟩
          rw [hd]
          have hcn := HCN.out
          go_wp2_with fail
          refine (cutSign_any s _ HT.out).mono ?_
          rintro e W2 ⟨v, rfl, hv, hb⟩
          obtain ⟨k, b, n, z, rfl⟩ := hv.form
          have HV := Lib.hid hv
          have hw := cut_end HBel.out HX.out hb
          have HX2 := Lib.hid hw.2
          obtain ⟨⟨c0, c1, c2, c3⟩, f0, f1, f2, f3⟩ := tcell hw.2
          have HS2 := Lib.hid (tset hw.2 (.int .i64 k) (.string b) (.int .i64 n) (.int .i64 0))
          have HE := Lib.hid (below_tok hw.1 HUB.out (.int .i64 k) (.string b) (.int .i64 n) (.int .i64 0))
          clear hw hv hb
          go_wp2_with fail
          obtain ⟨⟨q0, q1, q2, q3⟩, _⟩ := tcell HS2.out
          refine bodyPost_ret (v := .tuple #[tokV k b n 0, .int .i64 z]) (by simp [results, Tryz.results115, go_sem, q0, q1, q2, q3]) rfl ⟨_, rfl, ?_, HE.out⟩
          rw [HN.out]
          exact HV.out
      · have HN := Lib.hid (show Lx.cut (bs s) = Lx.cutNum (bs s) by rw [HD.out, Lx.cut, if_neg (by simp [hl]), if_pos hd])
        go_wp2_with fail
        refine (isLetter_any s[0] _).mono ?_
        rintro e W1 ⟨rfl, rfl⟩
        rw [hl]
        go_wp2_with fail
        refine (isDigit_any s[0] _).mono ?_
        rintro e W1 ⟨rfl, rfl⟩
        rw [hd]
        go_wp2_with fail
        refine (cutNum_any s _ hs).mono ?_
        rintro e W2 ⟨v, rfl, hv, hb⟩
        obtain ⟨k, b, n, z, rfl⟩ := hv.form
        have HV := Lib.hid hv
        have hw := cut_end HBel.out HX.out hb
        have HX2 := Lib.hid hw.2
        obtain ⟨⟨c0, c1, c2, c3⟩, f0, f1, f2, f3⟩ := tcell hw.2
        have HS2 := Lib.hid (tset hw.2 (.int .i64 k) (.string b) (.int .i64 n) (.int .i64 0))
        have HE := Lib.hid (below_tok hw.1 HUB.out (.int .i64 k) (.string b) (.int .i64 n) (.int .i64 0))
        clear hw hv hb
        go_wp2_with fail
        obtain ⟨⟨q0, q1, q2, q3⟩, _⟩ := tcell HS2.out
        refine bodyPost_ret (v := .tuple #[tokV k b n 0, .int .i64 z]) (by simp [results, Tryz.results115, go_sem, q0, q1, q2, q3]) rfl ⟨_, rfl, ?_, HE.out⟩
        rw [HN.out]
        exact HV.out
    · have HN := Lib.hid (show Lx.cut (bs s) = Lx.cutWord (bs s) by rw [HD.out, Lx.cut, if_pos hl])
      go_wp2_with fail
      refine (isLetter_any s[0] _).mono ?_
      rintro e W1 ⟨rfl, rfl⟩
      rw [hl]
      go_wp2_with fail
      refine (cutWord_any s _ hs HT.out).mono ?_
      rintro e W2 ⟨v, rfl, hv, hb⟩
      obtain ⟨k, b, n, z, rfl⟩ := hv.form
      have HV := Lib.hid hv
      have hw := cut_end HBel.out HX.out hb
      have HX2 := Lib.hid hw.2
      obtain ⟨⟨c0, c1, c2, c3⟩, f0, f1, f2, f3⟩ := tcell hw.2
      have HS2 := Lib.hid (tset hw.2 (.int .i64 k) (.string b) (.int .i64 n) (.int .i64 0))
      have HE := Lib.hid (below_tok hw.1 HUB.out (.int .i64 k) (.string b) (.int .i64 n) (.int .i64 0))
      clear hw hv hb
      go_wp2_with fail
      obtain ⟨⟨q0, q1, q2, q3⟩, _⟩ := tcell HS2.out
      refine bodyPost_ret (v := .tuple #[tokV k b n 0, .int .i64 z]) (by simp [results, Tryz.results115, go_sem, q0, q1, q2, q3]) rfl ⟨_, rfl, ?_, HE.out⟩
      rw [HN.out]
      exact HV.out
end Go.Proofs.YtofhaokaldpmaaaGreatDoor
end
section
namespace Go.Proofs.YtofhaokaldpmaaaGreatDoor
open Go.RowKit Go.Shelf

def isName (s : ByteArray) : Bool := match Lx.cut (bs s) with
  | some (t, z) => decide (t.k = 1) && decide (z = s.size)
  | none => false
set_option maxHeartbeats 1000000 in
theorem name_any (s : ByteArray) (w : World) (hs : s.size ≤ 16384) (hT : Tabs w) :
    Calls Tryz.prog 110 #[.string s] w fun e w' => e = .returned (.bool (isName s)) ∧ Below w.heap.size w w' := by
  have HT := Lib.hid hT
  clear hT
  go_enter Tryz.func110, Tryz.ntmps110
  go_wp2_with fail
  refine (cut_any s _ hs HT.out).mono ?_
  rintro e w2 ⟨v, rfl, hv, hb⟩
  have HB := Lib.hid hb
  clear hb
  cases hc : Lx.cut (bs s) with
  | none =>
    rw [hc] at hv
    obtain rfl : v = noTok := hv
    have HN := Lib.hid (show isName s = false by rw [isName, hc])
    go_wp2_with fail
    go_ret
    rw [HN.out]
    exact ⟨rfl, bt HB.out (ba w2 _)⟩
  | some x =>
    obtain ⟨t, z⟩ := x
    rw [hc] at hv
    obtain ⟨hz, b, hbs, rfl⟩ := hv
    have HN := Lib.hid (show isName s = (decide (t.k = 1) && decide (z = s.size)) by rw [isName, hc])
    clear hbs hc
    by_cases h1 : t.k = 1
    · have H1 := Lib.hid h1
      have h1' : (t.k : Int) = 1 := by omega
      clear h1
      by_cases h2 : z = s.size
      · subst h2
        go_wp2_with fail
        go_ret
        rw [HN.out, H1.out]
        exact ⟨ret_b (by simp), bt HB.out (ba w2 _)⟩
      · have h2' : ¬ (z : Int) = s.size := by omega
        go_wp2_with fail
        go_ret
        rw [HN.out, H1.out]
        exact ⟨ret_b (by simp [h2]; exact h2'), bt HB.out (ba w2 _)⟩
    · have h1' : ¬ (t.k : Int) = 1 := by omega
      go_wp2_with fail
      go_ret
      rw [HN.out]
      exact ⟨ret_b (by simp [h1]), bt HB.out (ba w2 _)⟩
end Go.Proofs.YtofhaokaldpmaaaGreatDoor
end
section
namespace Go.Proofs.YtofhaokaldpmaaaGreatDoor
open Go.RowKit

set_option maxHeartbeats 400000 in
theorem mayBe_any (k n : Int) (s : ByteArray) (w : World) (hs : s.size ≤ 9223372036854775807) :
    Calls Tryz.prog 114 #[VV k n s] w fun e w' => e = .returned (.bool (okV k n s)) ∧ Below w.heap.size w w' := by
  go_enter Tryz.func114, Tryz.ntmps114
  go_wp2
  all_goals
    go_ret
    refine ⟨ret_bool (by simp_all [okV] <;> (intros; omega)), (Below.refl _ _).alloc (Nat.le_refl _) _⟩

theorem mayBe_yes (k n : Int) (s : ByteArray) (w : World) (hs : s.size ≤ 9223372036854775807) (h : okV k n s = true) :
    Calls Tryz.prog 114 #[VV k n s] w fun e w' => e = .returned (.bool true) ∧ Below w.heap.size w w' := by
  rw [← h]; exact mayBe_any k n s w hs
theorem mayBe_no (k n : Int) (s : ByteArray) (w : World) (hs : s.size ≤ 9223372036854775807) (h : okV k n s = false) :
    Calls Tryz.prog 114 #[VV k n s] w fun e w' => e = .returned (.bool false) ∧ Below w.heap.size w w' := by
  rw [← h]; exact mayBe_any k n s w hs

set_option maxHeartbeats 400000 in
theorem check_any (k n : Int) (s : ByteArray) (w : World) (hs : s.size ≤ 9223372036854775807) :
    Calls Tryz.prog 109 #[VV k n s] w fun e w' => e = .returned (.int .i64 (if okV k n s then 0 else 10)) ∧ Below w.heap.size w w' := by
  cases hok : okV k n s
  · go_enter Tryz.func109, Tryz.ntmps109
    go_wp2_with (go_at_call 114; refine (mayBe_no _ _ _ _ hs hok).mono ?_; rintro e w' ⟨rfl, hb⟩)
    go_ret
    exact ⟨rfl, ((Below.refl _ _).alloc (Nat.le_refl _) _).trans (hb.mono (by simp))⟩
  · go_enter Tryz.func109, Tryz.ntmps109
    go_wp2_with (go_at_call 114; refine (mayBe_yes _ _ _ _ hs hok).mono ?_; rintro e w' ⟨rfl, hb⟩)
    go_ret
    exact ⟨rfl, ((Below.refl _ _).alloc (Nat.le_refl _) _).trans (hb.mono (by simp))⟩

set_option maxHeartbeats 400000 in
theorem refCheck_any (k n : Int) (s : ByteArray) (w : World) (hs : s.size ≤ 9223372036854775807) :
    Calls Tryz.prog 87 #[VV k n s] w fun e w' => e = .returned (.bool (okV k n s)) ∧ Below w.heap.size w w' := by
  go_enter Tryz.func87, Tryz.ntmps87
  go_wp2
  all_goals
    go_ret
    refine ⟨ret_bool (by simp_all [okV] <;> (intros; omega)), (Below.refl _ _).alloc (Nat.le_refl _) _⟩
theorem refCheck_yes (k n : Int) (s : ByteArray) (w : World) (hs : s.size ≤ 9223372036854775807) (h : okV k n s = true) :
    Calls Tryz.prog 87 #[VV k n s] w fun e w' => e = .returned (.bool true) ∧ Below w.heap.size w w' := by
  rw [← h]; exact refCheck_any k n s w hs
theorem refCheck_no (k n : Int) (s : ByteArray) (w : World) (hs : s.size ≤ 9223372036854775807) (h : okV k n s = false) :
    Calls Tryz.prog 87 #[VV k n s] w fun e w' => e = .returned (.bool false) ∧ Below w.heap.size w w' := by
  rw [← h]; exact refCheck_any k n s w hs

end Go.Proofs.YtofhaokaldpmaaaGreatDoor
end
section
namespace Go.Proofs.YtofhaokaldpmaaaGreatDoor
open Go.RowKit

theorem run_eqV (k n : Int) (s : ByteArray) (k' n' : Int) (s' : ByteArray) (w : World) :
    (binOp .eql 32 (VV k n s) (VV k' n' s')).run Tryz.prog w = .ok (.bool (eqV k n s k' n' s')) w := by
  have u3 := Tryz.underlying3
  have a3 := Tryz.isAgg3
  have z3 := Tryz.sizeOf3
  have u9 := Tryz.underlying9
  have a9 := Tryz.isAgg9
  have z9 := Tryz.sizeOf9
  have hS : Tryz.prog.underlying 32 = some (.struct (Tryz.prog.fieldsOf 32)) := by kernel_rfl
  have hp : Tryz.prog.stoodInHeld 32 = false := by kernel_rfl
  rw [run_eql_struct, show (10000 : Nat) = 9999 + 1 from rfl, run_equalIn_agg w 9999 32 _ _ hS hp]
  simp only [Program.fieldsOf, Tryz.underlying32]
  go_simp
  unfold eqV
  by_cases h1 : k = k' <;> by_cases h2 : n = n' <;> by_cases h3 : s.toList = s'.toList <;> simp [h1, h2, h3]

end Go.Proofs.YtofhaokaldpmaaaGreatDoor
end
section
namespace Go.Proofs.YtofhaokaldpmaaaGreatDoor
open Go.RowKit Go.Shelf

def arI (n : Int) : Int := if n = 3 ∨ n = 15 ∨ n = 16 ∨ n = 17 then 1 else if 1 ≤ n ∧ n ≤ 17 then 2 else 0
theorem arity_any (n : Int) (w : World) :
    Calls Tryz.prog 94 #[.int .i64 n] w fun e w' => e = .returned (.int .i64 (arI n)) ∧ w' = w := by
  go_enter Tryz.func94, Tryz.ntmps94
  go_wp2
  all_goals
    go_ret
    exact ⟨ret_i (by simp_all [arI] <;> omega), rfl⟩
theorem refArity_any (n : Int) (w : World) :
    Calls Tryz.prog 89 #[.int .i64 n] w fun e w' => e = .returned (.int .i64 (arI n)) ∧ w' = w := by
  go_enter Tryz.func89, Tryz.ntmps89
  go_wp2
  all_goals
    go_ret
    exact ⟨ret_i (by simp_all [arI] <;> omega), rfl⟩
def litB (k n : Int) (s : ByteArray) : Bool := okV k n s && (k != 2 || decide (0 ≤ n))
theorem isLiteral_any (k n : Int) (s : ByteArray) (w : World) (hs : s.size ≤ 9223372036854775807) :
    Calls Tryz.prog 92 #[VV k n s] w fun e w' => e = .returned (.bool (litB k n s)) ∧ Below w.heap.size w w' := by
  have hc := check_any k n s
  obtain ⟨b, hb⟩ : ∃ b, okV k n s = b := ⟨_, rfl⟩
  have HB := Lib.hid hb
  cases b
  all_goals
    rw [hb] at hc
    clear hb
    go_enter Tryz.func92, Tryz.ntmps92
    go_wp2_with fail
    refine (hc _ hs).mono ?_
    clear hc
    rintro e w1 ⟨rfl, hb1⟩
    obtain ⟨c0, c1, c2⟩ := box1 hb1
    have HB1 := Lib.hid (bt (ba _ _) hb1)
    clear hb1
    go_wp2
    all_goals
      go_ret
      exact ⟨ret_bool (by have := HB.out; simp_all [litB]), HB1.out⟩
def colB (t c : ByteArray) : Bool := isName c && (t.toList.isEmpty || isName t)
theorem isColumn_any (t c : ByteArray) (w : World) (ht : t.size ≤ 16384) (hc : c.size ≤ 16384) (hT : Tabs w) :
    Calls Tryz.prog 93 #[.string t, .string c] w fun e w' => e = .returned (.bool (colB t c)) ∧ Below w.heap.size w w' := by
  have h1 := name_any c w hc hT
  have h2 := fun w1 (hb : Below w.heap.size w w1) => name_any t w1 ht (hT.kept hb)
  obtain ⟨b, hb⟩ : ∃ b, isName c = b := ⟨_, rfl⟩
  obtain ⟨b', hb'⟩ : ∃ b', isName t = b' := ⟨_, rfl⟩
  obtain ⟨e, he⟩ : ∃ e, t.toList.isEmpty = e := ⟨_, rfl⟩
  rw [hb] at h1
  rw [hb'] at h2
  have HB := Lib.hid (show colB t c = (b && (e || b')) by rw [colB, hb, hb', he])
  clear hb hb'
  cases b
  · go_enter Tryz.func93, Tryz.ntmps93
    go_wp2_with fail
    refine h1.mono ?_
    rintro e1 w1 ⟨rfl, hb1⟩
    go_wp2
    go_ret
    rw [HB.out]
    exact ⟨rfl, hb1⟩
  · cases e
    · go_enter Tryz.func93, Tryz.ntmps93
      go_wp2_with fail
      refine h1.mono ?_
      clear h1
      rintro e1 w1 ⟨rfl, hb1⟩
      go_wp2_with fail
      refine (h2 _ hb1).mono ?_
      rintro e1 w2 ⟨rfl, hb2⟩
      go_wp2
      go_ret
      rw [HB.out]
      exact ⟨by simp, bt hb1 hb2⟩
    · go_enter Tryz.func93, Tryz.ntmps93
      go_wp2_with fail
      refine h1.mono ?_
      clear h1
      rintro e1 w1 ⟨rfl, hb1⟩
      go_wp2
      go_ret
      rw [HB.out]
      exact ⟨rfl, hb1⟩
def aggB (n l : Int) : Bool := if n = 1 then l == 0 else decide (1 < n) && decide (n ≤ 5) && l == 1
theorem isAgg_any (n l : Int) (w : World) :
    Calls Tryz.prog 95 #[.int .i64 n, .int .i64 l] w fun e w' => e = .returned (.bool (aggB n l)) ∧ w' = w := by
  go_enter Tryz.func95, Tryz.ntmps95
  go_wp2
  all_goals
    go_ret
    exact ⟨ret_bool (by simp_all [aggB] <;> omega), rfl⟩
def namelessB (h : Hd) : Bool := h.tab.toList.isEmpty && h.col.toList.isEmpty
def valuelessB (h : Hd) : Bool := eqV h.vk h.vn h.vs 0 0 ⟨#[]⟩
/-- What the program asks of an expression beside its parts. -/
def fitsB (h : Hd) (len : Nat) : Bool :=
  if h.k = 1 then litB h.vk h.vn h.vs && h.n == 0 && namelessB h && (len : Int) == 0
  else if h.k = 2 then colB h.tab h.col && decide (0 ≤ h.n) && decide (h.n < 32) && valuelessB h && (len : Int) == 0
  else if h.k = 3 then decide (0 < arI h.n) && ((len : Int) == arI h.n) && namelessB h && valuelessB h
  else if h.k = 4 then aggB h.n len && namelessB h && valuelessB h
  else false
/-- Texts of an expression that are short enough to be looked at. -/
structure Sm (h : Hd) : Prop where
  t : h.tab.size ≤ 200
  c : h.col.size ≤ 200
  v : h.vs.size ≤ 500
theorem box8 {w w1 : World} {h : Hd} {A : Option Addr} {len cap : Nat} (hb : Below (w.alloc (xbox h A len cap)).heap.size (w.alloc (xbox h A len cap)) w1) : XC w1 w.heap.size 0 h A len cap := by
  have k : ∀ o, w1.cell? ⟨w.heap.size, o, none⟩ = (w.alloc (xbox h A len cap)).cell? ⟨w.heap.size, o, none⟩ := fun o => hb.cell (p := ⟨w.heap.size, o, none⟩) (by simp)
  exact ⟨(k _).trans (by simp), (k _).trans (by simp), (k _).trans (by simp), (k _).trans (by simp), (k _).trans (by simp), (k _).trans (by simp), (k _).trans (by simp), (k _).trans (by simp)⟩
theorem box8v {w w1 : World} {a0 a1 a2 a3 a4 a5 a6 a7 : Value} {T : TypeId} (hb : Below (w.alloc (.cells #[a0, a1, a2, a3, a4, a5, a6, a7] T)).heap.size (w.alloc (.cells #[a0, a1, a2, a3, a4, a5, a6, a7] T)) w1) :
    w1.cell? ⟨w.heap.size, 0, none⟩ = some a0 ∧ w1.cell? ⟨w.heap.size, 1, none⟩ = some a1 ∧ w1.cell? ⟨w.heap.size, 2, none⟩ = some a2 ∧ w1.cell? ⟨w.heap.size, 3, none⟩ = some a3 ∧
    w1.cell? ⟨w.heap.size, 4, none⟩ = some a4 ∧ w1.cell? ⟨w.heap.size, 5, none⟩ = some a5 ∧ w1.cell? ⟨w.heap.size, 6, none⟩ = some a6 ∧ w1.cell? ⟨w.heap.size, 7, none⟩ = some a7 := by
  have k : ∀ o, w1.cell? ⟨w.heap.size, o, none⟩ = (w.alloc (.cells #[a0, a1, a2, a3, a4, a5, a6, a7] T)).cell? ⟨w.heap.size, o, none⟩ := fun o => hb.cell (p := ⟨w.heap.size, o, none⟩) (by simp)
  exact ⟨(k _).trans (by simp), (k _).trans (by simp), (k _).trans (by simp), (k _).trans (by simp), (k _).trans (by simp), (k _).trans (by simp), (k _).trans (by simp), (k _).trans (by simp)⟩
theorem drNE (w : World) (n : Nat) : Below w.heap.size w (w.drewN n) := ⟨rfl, rfl, rfl, Nat.le_refl _, fun _ _ => rfl⟩
set_option maxRecDepth 100000 in
set_option maxHeartbeats 8000000 in
theorem fits_any (h : Hd) (A : Option Addr) (len cap : Nat) (w : World) (hs : Sm h) (hT : Tabs w) (hl : len ≤ 9223372036854775807) :
    Calls Tryz.prog 68 #[XV h A len cap] w fun e w' => e = .returned (.bool (fitsB h len)) ∧ Below w.heap.size w w' := by
  obtain ⟨k, n, vk, vn, vs, tab, col⟩ := h
  obtain ⟨ht, hc, hv⟩ := hs
  simp only at ht hc hv
  obtain ⟨bL, hbL⟩ : ∃ b, litB vk vn vs = b := ⟨_, rfl⟩
  obtain ⟨bK, hbK⟩ : ∃ b, colB tab col = b := ⟨_, rfl⟩
  have HL := Lib.hid (fun w1 => isLiteral_any vk vn vs w1 (by omega))
  have HC := Lib.hid (isColumn_any tab col (w.alloc (xbox ⟨k, n, vk, vn, vs, tab, col⟩ A len cap)) (by omega) (by omega) (hT.kept (ba _ _)))
  rw [hbL] at HL
  rw [hbK] at HC
  have hq := fun w1 => run_eqV vk vn vs 0 0 ⟨#[]⟩ w1
  obtain ⟨bT, hbT⟩ : ∃ b, tab.toList.isEmpty = b := ⟨_, rfl⟩
  obtain ⟨bC, hbC⟩ : ∃ b, col.toList.isEmpty = b := ⟨_, rfl⟩
  obtain ⟨bV, hbV⟩ : ∃ b, eqV vk vn vs 0 0 ⟨#[]⟩ = b := ⟨_, rfl⟩
  rw [hbV] at hq
  have HN := Lib.hid (show namelessB ⟨k, n, vk, vn, vs, tab, col⟩ = (bT && bC) by rw [namelessB, hbT, hbC])
  have HV := Lib.hid (show valuelessB ⟨k, n, vk, vn, vs, tab, col⟩ = bV from hbV)
  have HBx := Lib.hid (ba w (xbox ⟨k, n, vk, vn, vs, tab, col⟩ A len cap))
  have HF := Lib.hid (show fitsB ⟨k, n, vk, vn, vs, tab, col⟩ len =
      if k = 1 then bL && n == 0 && (bT && bC) && (len : Int) == 0
      else if k = 2 then bK && decide (0 ≤ n) && decide (n < 32) && bV && (len : Int) == 0
      else if k = 3 then decide (0 < arI n) && ((len : Int) == arI n) && (bT && bC) && bV
      else if k = 4 then aggB n len && (bT && bC) && bV else false by
    unfold fitsB; rw [HN.out, HV.out]; simp only [hbL, hbK])
  clear hbV hT hv hbL hbK HN HV ht hc
  by_cases h1 : k = 1
  · subst h1
    simp only [if_true] at HF
    cases bT <;> cases bC
    all_goals
      go_enter Tryz.func68, Tryz.ntmps68
      go_wp2_with fail
      refine (HL.out _).mono ?_
      rintro e w1 ⟨rfl, hb1⟩
      obtain ⟨c0, c1, c2, c3, c4, c5, c6, c7⟩ := box8v hb1
      have HB1 := Lib.hid (bt HBx.out hb1)
      clear hb1
      cases bL
      all_goals
        go_wp2
        all_goals
          go_ret
          exact ⟨ret_bool (by rw [HF.out]; simp_all <;> (intros; omega)), HB1.out⟩
  · rw [if_neg h1] at HF
    by_cases h2 : k = 2
    · subst h2
      simp only [if_true] at HF
      cases bV
      all_goals
        go_enter Tryz.func68, Tryz.ntmps68
        go_wp2_with fail
        all_goals
          refine HC.out.mono ?_
          rintro e w1 ⟨rfl, hb1⟩
          obtain ⟨c0, c1, c2, c3, c4, c5, c6, c7⟩ := box8v hb1
          have HB1 := Lib.hid (bt HBx.out hb1)
          clear hb1
          cases bK
          all_goals
            go_wp2
            all_goals
              go_ret
              exact ⟨ret_bool (by rw [HF.out]; simp_all <;> (intros; omega)), HB1.out⟩
    · rw [if_neg h2] at HF
      by_cases h3 : k = 3
      · subst h3
        simp only [if_true] at HF
        rcases (show bT = false ∨ (bT = true ∧ bC = false) ∨ (bT = true ∧ bC = true) by cases bT <;> cases bC <;> simp) with hx | ⟨hx, hy⟩ | ⟨hx, hy⟩
        all_goals
          subst hx
          try subst hy
          go_enter Tryz.func68, Tryz.ntmps68
          go_wp2_with fail
          go_upto_region 9 with fail
          obtain ⟨a, ha⟩ : ∃ a, arI n = a := ⟨_, rfl⟩
          have HAr := Lib.hid (fun w1 => arity_any n w1)
          rw [ha] at HF HAr
          clear ha
          by_cases hp : 0 < a
          · by_cases hla : (len : Int) = a
            · subst hla
              have hpn : 0 < len := by omega
              have hpd : decide (0 < len) = true := by simpa using hpn
              clear hp
              go_quiet ((go_at_call 94; exact Calls.quiet_of_same (HAr.out _)))
              go_wp2_with fail
              go_ret
              exact ⟨ret_bool (by rw [HF.out]; simp_all <;> (intros; omega)), bt HBx.out (drNE _ _)⟩
            · have hpb : decide (0 < a) = true := by simpa using hp
              have hlb : ((len : Int) == a) = false := by simpa using hla
              go_quiet ((go_at_call 94; exact Calls.quiet_of_same (HAr.out _)))
              go_wp2_with fail
              go_ret
              exact ⟨ret_bool (by rw [HF.out]; simp_all <;> (intros; omega)), bt HBx.out (drNE _ _)⟩
          · have hpb : decide (0 < a) = false := by simpa using hp
            go_quiet ((go_at_call 94; exact Calls.quiet_of_same (HAr.out _)))
            go_wp2_with fail
            go_ret
            exact ⟨ret_bool (by rw [HF.out]; simp_all <;> (intros; omega)), bt HBx.out (drNE _ _)⟩
      · rw [if_neg h3] at HF
        by_cases h4 : k = 4
        · subst h4
          simp only [if_true] at HF
          cases bT <;> cases bC <;> cases bV
          all_goals
            go_enter Tryz.func68, Tryz.ntmps68
            go_wp2_with fail
            refine (isAgg_any _ _ _).mono ?_
            rintro e w1 ⟨rfl, rfl⟩
            obtain ⟨bA, hbA⟩ : ∃ b, aggB n len = b := ⟨_, rfl⟩
            rw [hbA] at HF ⊢
            clear hbA
            cases bA
            all_goals
              go_wp2
              go_ret
              exact ⟨ret_bool (by rw [HF.out]; simp), HBx.out⟩
        · rw [if_neg h4] at HF
          cases bT <;> cases bC <;> cases bV
          all_goals
            go_enter Tryz.func68, Tryz.ntmps68
            go_wp2
            go_ret
            exact ⟨ret_bool HF.out.symm, HBx.out⟩
end Go.Proofs.YtofhaokaldpmaaaGreatDoor
end
section
namespace Go.Proofs.YtofhaokaldpmaaaGreatDoor
open Go.RowKit Go.Shelf
attribute [local go_sem] Oper.semAt_some

mutual
/-- All that stands in an expression, in the order of its text, with levels. -/
def preo : Ex → Nat → List (Ex × Nat)
  | .mk h l, d => (.mk h l, d) :: preoL l (d + 1)
def preoL : List Ex → Nat → List (Ex × Nat)
  | [], _ => []
  | x :: r, d => preo x d ++ preoL r d
end
theorem preo_mk (h : Hd) (l : List Ex) (d : Nat) : preo (.mk h l) d = (.mk h l, d) :: preoL l (d + 1) := by rw [preo]
theorem preoL_app : ∀ (l r : List Ex) (d : Nat), preoL (l ++ r) d = preoL l d ++ preoL r d
  | [], r, d => by rw [preoL]; rfl
  | x :: l, r, d => by rw [List.cons_append, preoL, preoL, preoL_app l r d, List.append_assoc]
theorem preoL_take {l : List Ex} {k : Nat} {x : Ex} (h : l[k]? = some x) (d : Nat) : preoL (l.take (k + 1)) d = preoL (l.take k) d ++ preo x d := by
  rw [List.take_add_one, h]
  simp only [Option.toList_some]
  rw [preoL_app, preoL, preoL, List.append_nil]
mutual
theorem preo_len : ∀ (x : Ex) (d : Nat), (preo x d).length = cnt x
  | .mk h l, d => by rw [preo, cnt, List.length_cons, preoL_len l (d + 1)]; omega
theorem preoL_len : ∀ (l : List Ex) (d : Nat), (preoL l d).length = cntL l
  | [], d => by rw [preoL, cntL]; rfl
  | x :: r, d => by rw [preoL, cntL, List.length_append, preo_len x d, preoL_len r d]
end
theorem preoL_split {l : List Ex} {k : Nat} {x : Ex} (h : l[k]? = some x) (d : Nat) : ∃ r, preoL l d = preoL (l.take k) d ++ (preo x d ++ r) := by
  have e : l = l.take k ++ (x :: l.drop (k + 1)) := by
    have := (List.take_append_drop k l).symm
    rwa [List.drop_eq_getElem_cons (List.getElem?_eq_some_iff.1 h).1, (List.getElem?_eq_some_iff.1 h).2] at this
  refine ⟨preoL (l.drop (k + 1)) d, ?_⟩
  conv => lhs; rw [e, preoL_app, preoL]
theorem cntL_split {l : List Ex} {k : Nat} {x : Ex} (h : l[k]? = some x) : cntL (l.take k) + cnt x ≤ cntL l := by
  obtain ⟨r, hr⟩ := preoL_split h 0
  have := congrArg List.length hr
  rw [preoL_len, List.length_append, preoL_len, List.length_append, preo_len] at this
  omega
mutual
/-- All texts in it are short. -/
def AllSm : Ex → Prop
  | .mk h l => Sm h ∧ AllSmL l
def AllSmL : List Ex → Prop
  | [] => True
  | x :: r => AllSm x ∧ AllSmL r
end
theorem AllSmL.at : ∀ {l : List Ex}, AllSmL l → ∀ {i : Nat} {x : Ex}, l[i]? = some x → AllSm x
  | [], _, i, x, h => by simp at h
  | y :: r, H, 0, x, h => by
    obtain rfl : y = x := by simpa using h
    rw [AllSmL] at H; exact H.1
  | y :: r, H, i + 1, x, h => by
    rw [AllSmL] at H; exact AllSmL.at H.2 (i := i) (by simpa using h)

/-- What is handed over, with what is known of it. -/
structure Nd where
  ex : Ex
  A : Option Addr
  cap : Nat
  lv : Nat
structure NdOk (n₀ : Nat) (w0 : World) (y : Nd) : Prop where
  at' : XsAt n₀ w0 y.ex.kids y.A
  cap : y.ex.kids.length ≤ y.cap
  sm : AllSm y.ex
  lv : y.lv + cnt y.ex ≤ 1000000
abbrev NdS (n₀ : Nat) (w0 : World) := { y : Nd // NdOk n₀ w0 y }
abbrev ncs {n₀ : Nat} {w0 : World} (x : NdS n₀ w0) : Array Value := #[XV x.1.ex.hd x.1.A x.1.ex.kids.length x.1.cap, .int .i64 x.1.lv]
abbrev ndp {n₀ : Nat} {w0 : World} (x : NdS n₀ w0) : Ex × Nat := (x.1.ex, x.1.lv)

/-- What a round may do: it turns boxes of S alone, and makes new blocks. -/
structure Rd (S : Nat → Prop) (W W' : World) : Prop where
  os : W'.os = W.os
  tape : W'.tape = W.tape
  output : W'.output = W.output
  size : W.heap.size ≤ W'.heap.size
  block : ∀ k, k < W.heap.size → ¬ S k → W'.heap[k]? = W.heap[k]?
theorem Rd.refl (S : Nat → Prop) (W : World) : Rd S W W := ⟨rfl, rfl, rfl, Nat.le_refl _, fun _ _ _ => rfl⟩
theorem Rd.trans {S : Nat → Prop} {A B C : World} (h : Rd S A B) (k : Rd S B C) : Rd S A C :=
  ⟨k.os.trans h.os, k.tape.trans h.tape, k.output.trans h.output, Nat.le_trans h.size k.size, fun i hi hs => (k.block i (Nat.lt_of_lt_of_le hi h.size) hs).trans (h.block i hi hs)⟩
theorem Rd.of {S : Nat → Prop} {W W' : World} (hb : Below W.heap.size W W') : Rd S W W' := ⟨hb.os, hb.tape, hb.output, hb.size, fun k hk _ => hb.block k hk⟩
theorem Rd.set {S : Nat → Prop} {W W' : World} (h : Rd S W W') {b j : Nat} (hs : S b) (v : Value) : Rd S W (W'.setCell ⟨b, j, none⟩ v) := by
  refine h.trans ⟨rfl, rfl, rfl, by rw [setc_size]; exact Nat.le_refl _, fun k _ hk => setc_other (fun e => hk (by rw [e]; exact hs)) v⟩
theorem Rd.alloc {S : Nat → Prop} {W W' : World} (h : Rd S W W') (o : Obj) : Rd S W (W'.alloc o) := h.trans (Rd.of (ba W' o))
theorem Rd.below {S : Nat → Prop} {n₀ : Nat} {W W' : World} (h : Rd S W W') (hs : ∀ k, S k → n₀ ≤ k) (hn : n₀ ≤ W.heap.size) : Below n₀ W W' :=
  ⟨h.os, h.tape, h.output, h.size, fun k hk => h.block k (Nat.lt_of_lt_of_le hk hn) (fun e => by have := hs k e; omega)⟩
theorem Rd.from {S : Nat → Prop} {B : Nat} {W W' : World} (h : Rd S W W') (hs : ∀ k, S k → k < B) : KeepsFrom B W W' :=
  ⟨h.size, fun k o hB hk _ => (h.block k (Array.getElem?_eq_some_iff.1 hk).1 (fun e => by have := hs k e; omega)).trans hk⟩
/-- What a round that goes on keeps. -/
structure KpS (n₀ : Nat) (S : Nat → Prop) (P : Obj → Prop) (W W' : World) : Prop where
  bel : Below n₀ W W'
  size : W.heap.size ≤ W'.heap.size
  same : ∀ k o, W.heap[k]? = some o → o.isCells = true → ¬ S k → ¬ P o → W'.heap[k]? = some o
theorem KpS.refl (n₀ : Nat) (S : Nat → Prop) (P : Obj → Prop) (W : World) : KpS n₀ S P W W := ⟨Below.refl _ _, Nat.le_refl _, fun _ _ h _ _ _ => h⟩
theorem KpS.trans {n₀ : Nat} {S : Nat → Prop} {P : Obj → Prop} {A B C : World} (h : KpS n₀ S P A B) (k : KpS n₀ S P B C) : KpS n₀ S P A C :=
  ⟨h.bel.trans k.bel, Nat.le_trans h.size k.size, fun i o hi ho hs hp => k.same i o (h.same i o hi ho hs hp) ho hs hp⟩
theorem Rd.kp {S : Nat → Prop} {P : Obj → Prop} {n₀ : Nat} {W W' : World} (h : Rd S W W') (hs : ∀ k, S k → n₀ ≤ k) (hn : n₀ ≤ W.heap.size) : KpS n₀ S P W W' :=
  ⟨h.below hs hn, h.size, fun k _ hk _ he _ => (h.block k (Array.getElem?_eq_some_iff.1 hk).1 he).trans hk⟩
theorem Rd.kp' {S : Nat → Prop} {P : Obj → Prop} {n₀ : Nat} {w0 W W' : World} (h : Rd (fun _ => False) W W') (_ : ∀ k, S k → k < w0.heap.size) (hn : n₀ ≤ w0.heap.size) (hW : w0.heap.size ≤ W.heap.size) : KpS n₀ S P W W' :=
  ⟨h.below (fun _ h => h.elim) (by omega), h.size, fun k _ hk _ _ _ => (h.block k (Array.getElem?_eq_some_iff.1 hk).1 id).trans hk⟩
theorem kpS_put {S : Nat → Prop} {P : Obj → Prop} {n₀ : Nat} {w : World} (hn : n₀ ≤ w.heap.size) (W : World) (l : Nat) (o o' : Obj) (hl : w.heap.size ≤ l) (h : W.heap[l]? = some o) (hc : o.isCells = false) (hw : o.isWalk = false) : KpS n₀ S P W (W.putObj l o') :=
  ⟨belowK_b hn W l o o' hl h hc hw, (grownBy_putObj' W l o').size, fun k o2 hk h2 _ _ => by
    refine ((grownBy_putObj' W l o').block k (Array.getElem?_eq_some_iff.1 hk).1 (fun e => ?_)).trans hk
    cases e
    rw [h] at hk; cases hk; rw [h2] at hc; cases hc⟩

theorem room_of_noneE {F : Fence} (hd : F.depth = none) (k : Nat) : F.room k := fun d h => by rw [hd] at h; cases h
theorem roundAnyE {F : Fence} (hd : F.depth = none) {m m' : Nat} {P : Program} {l : Nat} {f : FuncId} {tmps : Array Value} {assign body : Code} {w : World} {R : Ending → World → Prop}
    (h : RoundIn F m P l f tmps assign body w R) : RoundIn F m' P l f tmps assign body w R := ⟨h.1, fun c cs _ => h.2 c cs (room_of_noneE hd _)⟩
theorem yieldAnyE {F : Fence} (hd : F.depth = none) {m : Nat} (m' : Nat) {P : Program} {l : Nat} {args : Array Value} {W : World} {R : Ending → World → Prop} (h : YieldAt F m P l args W R) : YieldAt F m' P l args W R := by
  obtain ⟨fn, tmps, assign, body, hy, hR⟩ := h
  exact ⟨fn, tmps, assign, body, hy, roundAnyE hd hR⟩

set_option maxRecDepth 100000 in
set_option maxHeartbeats 4000000 in
theorem visit_in (F : Fence) (hd : F.depth = none) (h65 : F.fn 91) (hro : F.round = none) (l n₀ N : Nat) (S : Nat → Prop) (P : Obj → Prop) (hP : ∀ h A len cap, ¬ P (xbox h A len cap)) (w0 : World) (hS : ∀ k, S k → k < w0.heap.size) (J Jx : List (NdS n₀ w0) → World → Prop) (hJa : ∀ pre W o, J pre W → J pre (W.alloc o))
    (hY : ∀ m pre x W, J pre W → pre.length < N → YieldAt F m Tryz.prog l (ncs x) W fun e W' => (e = .returned (.bool true) ∧ J (pre ++ [x]) W' ∧ KpS n₀ S P W W') ∨ (e = .returned (.bool false) ∧ Jx (pre ++ [x]) W')) :
    ∀ (c : Nat) (x : NdS n₀ w0), cnt x.1.ex ≤ c → ∀ (n : Nat) (pre : List (NdS n₀ w0)) (W : World), w0.heap.size ≤ W.heap.size → Below n₀ w0 W → n₀ ≤ w0.heap.size → J pre W → pre.length + cnt x.1.ex ≤ N →
      CallsIn F n Tryz.prog 91 #[XV x.1.ex.hd x.1.A x.1.ex.kids.length x.1.cap, .int .i64 x.1.lv, .func (.yield l) #[] #[]] W fun e W' =>
        (e = .returned (.bool true) ∧ ∃ qs, qs.map ndp = preo x.1.ex x.1.lv ∧ J (pre ++ qs) W' ∧ KpS n₀ S P W W') ∨ (e = .returned (.bool false) ∧ ∃ qs, qs.map ndp <+: preo x.1.ex x.1.lv ∧ Jx (pre ++ qs) W') := by
  intro c
  induction c with
  | zero => intro x hx; have := cnt_pos x.1.ex; omega
  | succ c ih =>
    intro x hx n pre W hW hb hn hJ hN
    have hdd : ∀ k : Nat, (F.depth.isSome = true → 1 ≤ k) := fun k h => by rw [hd] at h; cases h
    obtain ⟨⟨⟨h, lk⟩, A, cap, lv⟩, ok⟩ := x
    have hok1 := ok.at'
    have hok2 := ok.cap
    have hok3 := ok.sm
    have hok4 := ok.lv
    simp only [Ex.hd, Ex.kids, cnt_mk, preo_mk] at hx hN hok1 hok2 hok4 ⊢
    rw [AllSm] at hok3
    have HB1 := Lib.hid (hJa pre W (xbox h A lk.length cap) hJ)
    have HX := Lib.hid ((MapKept.heap_alloc W (xbox h A lk.length cap)).1)
    obtain ⟨x0', hx0⟩ : ∃ y : NdS n₀ w0, (⟨⟨.mk h lk, A, cap, lv⟩, ok⟩ : NdS n₀ w0) = y := ⟨_, rfl⟩
    have hYm := YieldAt.mono (hY (n - 1) pre ⟨⟨.mk h lk, A, cap, lv⟩, ok⟩ _ HB1.out (by omega)) (R' := fun e W' =>
      (e = .returned (.bool true) ∧ W'.cell? ⟨W.heap.size, 7, none⟩ = some (.slice A lk.length cap) ∧ J (pre ++ [x0']) W' ∧ KpS n₀ S P W W') ∨ (e = .returned (.bool false) ∧ Jx (pre ++ [x0']) W')) (fun e W' hh => by
        rw [← hx0]
        rcases hh with ⟨he, h1, h2⟩ | hh
        · have h3 := h2.same _ _ HX.out rfl (fun e => by have := hS _ e; omega) (hP _ _ _ _)
          exact .inl ⟨he, (cell8 h3).1.2.2.2.2.2.2.2, h1, ((Rd.of (ba W _)).kp' hS hn hW).trans h2⟩
        · exact .inr hh)
    have HP0 := Lib.hid (show ndp x0' = (.mk h lk, lv) by rw [← hx0])
    obtain ⟨fn, tmps, assign, body, hy, hR⟩ := hYm
    have hy' : (Instr.yield l #[.agg #[.int .i64 h.k, .int .i64 h.n, .int .i64 h.vk, .int .i64 h.vn, .string h.vs, .string h.tab, .string h.col, .slice A lk.length cap], .int .i64 lv]).run Tryz.prog (W.alloc (.cells #[.int .i64 h.k, .int .i64 h.n, .int .i64 h.vk, .int .i64 h.vn, .string h.vs, .string h.tab, .string h.col, .slice A lk.length cap] 35)) =
        .ok (.round l fn tmps assign body) (W.alloc (.cells #[.int .i64 h.k, .int .i64 h.n, .int .i64 h.vk, .int .i64 h.vn, .string h.vs, .string h.tab, .string h.col, .slice A lk.length cap] 35)) := hy
    have hll := cntL_len lk
    have HI := Lib.hid ih
    have HAt := Lib.hid hok1
    have HSm := Lib.hid hok3.2
    have HBw := Lib.hid hb
    clear hy ih hY hok1 hok3 hJ hx0 hb
    refine callsIn_of_wp Tryz.func91 rfl h65 ?_ hro
    simp only [Tryz.ntmps91, List.size_toArray, List.length_cons, List.length_nil, Nat.reduceAdd, Nat.reduceSub, Array.replicate_succ, Array.replicate_zero, List.push_toArray, List.append_toArray, List.nil_append, List.cons_append]
    gi_wp2_with ((try refine ⟨hdd _, ?_⟩); refine hR.mono ?_; clear hR; rintro e W2 (⟨rfl, c7, hJ2, hK2⟩ | ⟨rfl, hx2⟩))
    · have HJ2 := Lib.hid hJ2
      have HK2 := Lib.hid hK2
      clear hJ2 hK2 c7 hy'
      gi_loopw [17] (fun i Wr => ∃ (k : Nat) (qs : List (NdS n₀ w0)), k ≤ lk.length ∧ i = .int .i64 k ∧ Hid (qs.map ndp = preoL (lk.take k) (lv + 1)) ∧ Hid (J (pre ++ x0' :: qs) Wr) ∧ Hid (KpS n₀ S P W Wr)) (fun i _ => lk.length - (intOf i).toNat)
      case atStart => exact ⟨0, [], Nat.zero_le _, rfl, Lib.hid (by rw [List.take_zero, preoL]; rfl), HJ2, HK2⟩
      case round =>
        obtain ⟨k, qs, hk, rfl, HQ, HJ, HK⟩ := hrel
        by_cases hkl : k < lk.length
        · obtain ⟨y, hy⟩ : ∃ y, lk[k]? = some y := ⟨_, List.getElem?_eq_getElem hkl⟩
          obtain ⟨h', l'⟩ := y
          obtain ⟨g, off, A', cap', rfl, hg, hX, hle', hl'⟩ := HAt.out.at hy
          have hbr := HBw.out.trans HK.out.bel
          have hXr := hX.of (hbr.block g hg)
          have hgr : g < wr.heap.size := by have := HK.out.size; omega
          obtain ⟨c0, c1, c2, c3, c4, c5, c6, c7⟩ := hXr
          have hcs := cntL_split hy
          have hql : qs.length = cntL (lk.take k) := by
            have := congrArg List.length HQ.out
            rwa [List.length_map, preoL_len] at this
          have hok' : NdOk n₀ w0 ⟨.mk h' l', A', cap', lv + 1⟩ := ⟨hl', hle', HSm.out.at hy, by simp only; omega⟩
          have hKa : KpS n₀ S P W (wr.alloc (xbox h' A' l'.length cap')) := HK.out.trans ((Rd.of (ba wr _)).kp' hS hn (by have := HK.out.size; omega))
          have hCI := HI.out ⟨⟨.mk h' l', A', cap', lv + 1⟩, hok'⟩ (by simp only; omega) (n - 1) (pre ++ x0' :: qs) (wr.alloc (xbox h' A' l'.length cap')) (by have := hKa.size; omega) (HBw.out.trans hKa.bel) hn (hJa _ _ _ HJ.out) (by simp only [List.length_append, List.length_cons]; omega)
          have hC : CallsIn F (n - 1) Tryz.prog 91 #[XV h' A' l'.length cap', .int .i64 ((lv : Int) + 1), .func (.yield l) #[] #[]] (wr.alloc (xbox h' A' l'.length cap')) fun e W' =>
              (e = .returned (.bool true) ∧ ∃ qs', qs'.map ndp = preo (.mk h' l') (lv + 1) ∧ J ((pre ++ x0' :: qs) ++ qs') W' ∧ KpS n₀ S P (wr.alloc (xbox h' A' l'.length cap')) W') ∨ (e = .returned (.bool false) ∧ ∃ qs', qs'.map ndp <+: preo (.mk h' l') (lv + 1) ∧ Jx ((pre ++ x0' :: qs) ++ qs') W') := hCI
          have HC := Lib.hid hC
          have HKa := Lib.hid hKa
          have HT := Lib.hid (preoL_take hy (lv + 1))
          have HSp := Lib.hid (preoL_split hy (lv + 1))
          clear hC hCI hKa hok' hX hl' hy hbr hg
          gi_wp2_with ((try refine ⟨hdd _, ?_⟩); gi_at_call 91; refine HC.out.mono ?_; rintro e W3 (⟨rfl, qs', h1, h2, h3⟩ | ⟨rfl, qs', h1, h2⟩))
          · go_roundw
            case rel => exact ⟨k + 1, qs ++ qs', by omega, by go_num, Lib.hid (by rw [List.map_append, HQ.out, h1, HT.out]), Lib.hid (by simpa using h2), Lib.hid (HKa.out.trans h3)⟩
            case measure => simp [intOf]; omega
          · go_ret
            obtain ⟨r, hr⟩ := HSp.out
            obtain ⟨r', hr'⟩ := h1
            refine .inr ⟨rfl, x0' :: (qs ++ qs'), ⟨r' ++ r, ?_⟩, by simpa using h2⟩
            rw [List.map_cons, List.map_append, HP0.out, HQ.out, hr, ← hr']
            simp
        · have hkk : k = lk.length := by omega
          have HQ2 := Lib.hid (show qs.map ndp = preoL lk (lv + 1) by rw [HQ.out, hkk, List.take_length])
          clear HQ
          gi_wp2
          go_ret
          exact .inl ⟨rfl, x0' :: qs, by rw [List.map_cons, HP0.out, HQ2.out], HJ.out, HK.out⟩
    · go_ret
      exact .inr ⟨rfl, [x0'], ⟨preoL lk (lv + 1), by rw [List.map_cons, HP0.out]; rfl⟩, hx2⟩

set_option maxHeartbeats 1000000 in
theorem through_in (F : Fence) (n : Nat) (h51 : F.fn 67) (hro : F.round = none) (h : Hd) (A : Option Addr) (len cap : Nat) (w : World) :
    CallsIn F n Tryz.prog 67 #[XV h A len cap] w fun e w' => e = .returned (.func (.func 90) #[] #[.pointer (some ⟨w.heap.size, 0, none⟩)]) ∧ w' = w.alloc (xbox h A len cap) := by
  refine callsIn_of_wp Tryz.func67 rfl h51 ?_ hro
  simp only [Tryz.ntmps67, List.size_toArray, List.length_cons, List.length_nil, Nat.reduceAdd, Nat.reduceSub, Array.replicate_succ, Array.replicate_zero, List.push_toArray, List.append_toArray, List.nil_append, List.cons_append]
  gi_wp2
  go_ret
  exact ⟨rfl, rfl⟩

set_option maxHeartbeats 1000000 in
/-- What through hands back goes through all, in order. -/
theorem through_stops (F : Fence) (hd : F.depth = none) (n : Nat) (h64 : F.fn 90) (h65 : F.fn 91) (hro : F.round = none) (Bt n₀ : Nat) (S : Nat → Prop) (P : Obj → Prop) (hP : ∀ h A len cap, ¬ P (xbox h A len cap)) (w : World) (x : NdS n₀ w) (hlv : x.1.lv = 1) (hBt : Bt < w.heap.size) (hn : n₀ ≤ w.heap.size) (hS : ∀ k, S k → k < w.heap.size)
    (hc : w.heap[Bt]? = some (xbox x.1.ex.hd x.1.A x.1.ex.kids.length x.1.cap)) :
    SeqStopsK F n Tryz.prog 90 #[.pointer (some ⟨Bt, 0, none⟩)] (ncs (n₀ := n₀) (w0 := w)) (KpS n₀ S P) (fun ys => ys.map ndp = preo x.1.ex 1) (fun pre => pre.map ndp <+: preo x.1.ex 1) (cnt x.1.ex) w := by
  intro l J Jx W hW hJ _ hY h0
  have hdd : ∀ k : Nat, (F.depth.isSome = true → 1 ≤ k) := fun k h => by rw [hd] at h; cases h
  have hV := visit_in F hd h65 hro l n₀ (cnt x.1.ex) S P hP w hS J Jx (fun pre W o hj => hJ pre W _ none hj (World.grownBy_alloc W o none) (fun r e => by cases e)) (fun m pre y W1 hj hl => yieldAnyE hd m (hY pre y W1 hj hl)) _ x (Nat.le_refl _) (n - 1) [] W hW.size (hW.mono hn) hn h0 (by simp)
  have hx := (hW.block Bt hBt).trans hc
  have hBl : Bt < W.heap.size := Nat.lt_of_lt_of_le hBt hW.size
  obtain ⟨⟨⟨h, lk⟩, A, cap, lv⟩, ok⟩ := x
  obtain rfl : lv = 1 := hlv
  have HV := Lib.hid (show CallsIn F (n - 1) Tryz.prog 91 #[XV h A lk.length cap, .int .i64 1, .func (.yield l) #[] #[]] W fun e W' =>
        (e = .returned (.bool true) ∧ ∃ qs, qs.map ndp = preo (.mk h lk) 1 ∧ J ([] ++ qs) W' ∧ KpS n₀ S P W W') ∨ (e = .returned (.bool false) ∧ ∃ qs, qs.map ndp <+: preo (.mk h lk) 1 ∧ Jx ([] ++ qs) W') from hV)
  obtain ⟨⟨c0, c1, c2, c3, c4, c5, c6, c7⟩, _⟩ := cell8 hx
  clear hV hx hY hJ h0
  simp only [Ex.hd, Ex.kids] at c0 c1 c2 c3 c4 c5 c6 c7
  refine callsIn_of_wp Tryz.func90 rfl h64 ?_ hro
  simp only [Tryz.ntmps90, List.size_toArray, List.length_cons, List.length_nil, Nat.reduceAdd, Nat.reduceSub, Array.replicate_succ, Array.replicate_zero, List.push_toArray, List.append_toArray, List.nil_append, List.cons_append]
  gi_wp2_with ((try refine ⟨hdd _, ?_⟩); gi_at_call 91; refine HV.out.mono ?_; clear HV; rintro e W1 (⟨rfl, qs, h1, h2, _⟩ | ⟨rfl, qs, h1, h2⟩))
  · go_end0
    exact ⟨⟨_, rfl⟩, .inl ⟨qs, h1, h2⟩⟩
  · go_end0
    exact ⟨⟨_, rfl⟩, .inr ⟨qs, h1, h2⟩⟩
end Go.Proofs.YtofhaokaldpmaaaGreatDoor
end
