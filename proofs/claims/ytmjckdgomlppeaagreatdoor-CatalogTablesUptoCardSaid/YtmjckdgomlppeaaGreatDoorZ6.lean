/-
  The tables of reserved words and signs; which words are reserved; cuts of words, of signs.
Cuts of signs, of numbers.
Cuts of numbers.
Cuts of texts.
Cuts.
Names.
Package catalog: names told one after the other; types; columns.
Package catalog: areColumns.
Package catalog: Fits, and the document's own.
Package catalog: areRows, isTable, Table.
-/
import Derived.Test.YtmjckdgomlppeaaGreatDoorZ5
import Derived.OwnWalk
import Derived.Laws.AppendOwn
import Derived.Laws.IdiomStrings
import Derived.Deep.Cut
import Derived.Shelf.Abstract
import Derived.WideMake
import Derived.Laws.EntriesVeiled
section
namespace Go.Proofs.YtmjckdgomlppeaaGreatDoor
open Go.RowKit Go.Shelf

structure Tabs (w : World) : Prop where
  ks : ∀ (j : Nat) (b : Lx.B), Lx.keys[j]? = some b → w.cell? ⟨2, j, none⟩ = some (.string ⟨b.toArray⟩)
  sg : ∀ (j : Nat) (b : Lx.B), Lx.signs[j]? = some b → w.cell? ⟨0, j, none⟩ = some (.string ⟨b.toArray⟩)
  m : ∃ m, w.cell? ⟨1, 0, none⟩ = some (.int .i64 m)
theorem lt_of_cell {w : World} {p : Addr} {v : Value} (h : w.cell? p = some v) : p.block < w.heap.size := by
  rcases Nat.lt_or_ge p.block w.heap.size with hl | hg
  · exact hl
  · rw [World.cell?, Array.getElem?_eq_none hg] at h; cases h
theorem Tabs.kept {w w' : World} (h : Tabs w) (hb : Below w.heap.size w w') : Tabs w' := by
  obtain ⟨m, hm⟩ := h.m
  exact ⟨fun j b hj => cell_kept hb (h.ks j b hj), fun j b hj => cell_kept hb (h.sg j b hj), m, cell_kept hb hm⟩
theorem keys_len : Lx.keys.length = 28 := by decide +kernel
theorem tl_bs (a b : ByteArray) : (a.toList == b.toList) = (bs a == bs b) := by rw [ByteArray.toList_eq, ByteArray.toList_eq]

set_option maxHeartbeats 1000000 in
theorem key_any (s : ByteArray) (w : World) (hT : Tabs w) :
    Calls Tryz.prog 113 #[.string s] w fun e w' => e = .returned (.bool (Lx.key (bs s))) ∧ w' = w := by
  have HT := Lib.hid hT
  clear hT
  go_enter Tryz.func113, Tryz.ntmps113
  go_wp2_with fail
  go_loop [4, 3] (fun i _ => ∃ k : Nat, k ≤ 28 ∧ i = .int .i64 k ∧ Hid (∀ j b, j < k → Lx.keys[j]? = some b → b ≠ bs s)) (fun i _ => 28 - (intOf i).toNat)
  case atStart => exact ⟨0, Nat.zero_le _, rfl, Lib.hid (fun j c h => absurd h (by omega))⟩
  case round =>
    obtain ⟨k, hk, rfl, HA⟩ := hrel
    by_cases hlt : k < 28
    · obtain ⟨b, hb⟩ : ∃ b, Lx.keys[k]? = some b := ⟨_, List.getElem?_eq_getElem (by rw [keys_len]; exact hlt)⟩
      have hc := HT.out.ks k b hb
      have HB := Lib.hid hb
      have hq : ((⟨b.toArray⟩ : ByteArray).toList == s.toList) = (b == bs s) := tl_bs _ _
      clear hb
      generalize (⟨b.toArray⟩ : ByteArray) = kb at hc hq
      cases he : b == bs s
      · rw [he] at hq
        go_wp2_with fail
        go_round
        case rel =>
          refine ⟨k + 1, by omega, by go_num, Lib.hid (fun j x hj hx => ?_)⟩
          rcases Nat.lt_or_ge j k with h | h
          · exact HA.out j x h hx
          · obtain rfl : j = k := by omega
            rw [HB.out] at hx; obtain rfl := Option.some.inj hx; simpa using he
        case measure => simp [intOf]; omega
      · rw [he] at hq
        go_wp2_with fail
        go_ret
        refine ⟨ret_b ?_, rfl⟩
        obtain rfl : b = bs s := by simpa using he
        symm; rw [Lx.key, List.contains_iff_mem]
        exact List.mem_of_getElem? HB.out
    · go_wp2_with fail
      go_ret
      refine ⟨ret_b ?_, rfl⟩
      symm; rw [Lx.key, Bool.eq_false_iff]
      intro h
      rw [List.contains_iff_mem] at h
      obtain ⟨j, hj⟩ := List.getElem?_of_mem h
      have : j < 28 := by have := (List.getElem?_eq_some_iff.1 hj).1; rw [keys_len] at this; exact this
      exact HA.out j _ (by omega) hj rfl

abbrev tokV (k : Int) (s : ByteArray) (n a : Int) : Value := .agg #[.int .i64 k, .string s, .int .i64 n, .int .i64 a]
abbrev noTok : Value := .tuple #[tokV 0 ⟨#[]⟩ 0 0, .int .i64 0]
/-- A cut as the program hands it back. -/
def CutV (s : ByteArray) (o : Option (Lx.Tok × Nat)) (v : Value) : Prop :=
  match o with
  | none => v = noTok
  | some (t, z) => z ≤ s.size ∧ ∃ b : ByteArray, bs b = t.s ∧ v = .tuple #[tokV t.k b t.n 0, .int .i64 z]

set_option maxHeartbeats 1000000 in
theorem cutWord_any (s : ByteArray) (w : World) (hs : s.size ≤ 9223372036854775807) (hT : Tabs w) :
    Calls Tryz.prog 98 #[.string s] w fun e w' => ∃ v, e = .returned v ∧ CutV s (Lx.cutWord (bs s)) v ∧ Below w.heap.size w w' := by
  have HT := Lib.hid hT
  have HBel := Lib.hid (ba w (.cells #[.int .i64 0, .string ⟨#[]⟩, .int .i64 0, .int .i64 0] 113))
  obtain ⟨W, hz⟩ : ∃ W, (bs s).takeWhile Lx.wordy = W := ⟨_, rfl⟩
  obtain ⟨n, hn⟩ : ∃ n, W.length = n := ⟨_, rfl⟩
  have hr : n ≤ s.size := by rw [← hn, ← hz, ← bs_len]; exact Lx.takeWhile_le _ _
  have HX := Lib.hid (show bs (s.extract 0 n) = W by rw [bs_extract, List.drop_zero, ← hn, ← hz, Lx.takeWhile_take])
  have HZ := Lib.hid (show Lx.cutWord (bs s) = if 24 < n then none else some (⟨if Lx.key W then 2 else 1, W, 0⟩, n) by subst hz hn; rfl)
  have HW := Lib.hid (show ((bs s).takeWhile Lx.wordy).length = n by rw [hz, hn])
  clear hT hz hn
  go_enter Tryz.func98, Tryz.ntmps98
  go_wp2_with fail
  refine (runW _ _ (by omega)).mono ?_
  rintro e w' ⟨rfl, rfl⟩
  rw [HW.out]
  by_cases h24 : 24 < n
  · go_wp2_with fail
    refine bodyPost_ret (v := noTok) (by simp [results, Tryz.results98, go_sem]) rfl ⟨_, rfl, ?_, HBel.out⟩
    rw [HZ.out, if_pos h24]; rfl
  · go_wp2_with fail
    refine (key_any _ _ (HT.out.kept HBel.out)).mono ?_
    rintro e w' ⟨rfl, rfl⟩
    rw [HX.out]
    cases hk : Lx.key W
    · go_wp2_with fail
      refine bodyPost_ret (v := .tuple #[tokV 1 (s.extract 0 n) 0 0, .int .i64 n]) (by simp [results, Tryz.results98, go_sem]) rfl ⟨_, rfl, ?_, ba w _⟩
      rw [HZ.out, if_neg h24, hk]
      exact ⟨hr, _, HX.out, rfl⟩
    · go_wp2_with fail
      refine bodyPost_ret (v := .tuple #[tokV 2 (s.extract 0 n) 0 0, .int .i64 n]) (by simp [results, Tryz.results98, go_sem]) rfl ⟨_, rfl, ?_, ba w _⟩
      rw [HZ.out, if_neg h24, hk]
      exact ⟨hr, _, HX.out, rfl⟩

end Go.Proofs.YtmjckdgomlppeaaGreatDoor
end
section
namespace Go.Proofs.YtmjckdgomlppeaaGreatDoor
open Go.RowKit Go.Shelf

theorem signs_len : Lx.signs.length = 15 := by decide +kernel
theorem find_at {p : Lx.B → Bool} : ∀ {l : List Lx.B} {k : Nat} {b : Lx.B}, l[k]? = some b → p b = true → (∀ j x, j < k → l[j]? = some x → p x = false) → l.find? p = some b
  | [], k, b, h, _, _ => by simp at h
  | x :: l, 0, b, h, hp, _ => by obtain rfl : x = b := by simpa using h
                                 rw [List.find?_cons, hp]
  | x :: l, k + 1, b, h, hp, ha => by
    rw [List.find?_cons, ha 0 x (by omega) rfl]
    exact find_at (k := k) (by simpa using h) hp fun j y hj hy => ha (j + 1) y (by omega) (by simpa using hy)

/-- A token is stored into a box. -/
theorem tset {w : World} {U : Nat} {a0 a1 a2 a3 : Value} {T : TypeId} (h : w.heap[U]? = some (.cells #[a0, a1, a2, a3] T (0, 0))) (b0 b1 b2 b3 : Value) :
    ((((w.setCell ⟨U, 0, none⟩ b0).setCell ⟨U, 1, none⟩ b1).setCell ⟨U, 2, none⟩ b2).setCell ⟨U, 3, none⟩ b3).heap[U]? = some (.cells #[b0, b1, b2, b3] T (0, 0)) := by
  simp only [World.setCell, Array.getElem?_modify, if_true, h]
  rfl
theorem tcell {w : World} {U : Nat} {b0 b1 b2 b3 : Value} {T : TypeId} (e : w.heap[U]? = some (.cells #[b0, b1, b2, b3] T (0, 0))) :
    (w.cell? ⟨U, 0, none⟩ = some b0 ∧ w.cell? ⟨U, 1, none⟩ = some b1 ∧ w.cell? ⟨U, 2, none⟩ = some b2 ∧ w.cell? ⟨U, 3, none⟩ = some b3) ∧
    w.frozen? ⟨U, 0, none⟩ = false ∧ w.frozen? ⟨U, 1, none⟩ = false ∧ w.frozen? ⟨U, 2, none⟩ = false ∧ w.frozen? ⟨U, 3, none⟩ = false :=
  ⟨⟨by simp only [World.cell?, e]; rfl, by simp only [World.cell?, e]; rfl, by simp only [World.cell?, e]; rfl, by simp only [World.cell?, e]; rfl⟩,
    by simp only [World.frozen?, e]; rfl, by simp only [World.frozen?, e]; rfl, by simp only [World.frozen?, e]; rfl, by simp only [World.frozen?, e]; rfl⟩
abbrev tokO (T : TypeId) : Obj := .cells #[.int .i64 0, .string ⟨#[]⟩, .int .i64 0, .int .i64 0] T

set_option maxHeartbeats 1000000 in
theorem cutSign_any (s : ByteArray) (w : World) (hT : Tabs w) :
    Calls Tryz.prog 102 #[.string s] w fun e w' => ∃ v, e = .returned v ∧ CutV s (Lx.cutSign (bs s)) v ∧ Below w.heap.size w w' := by
  have HT := Lib.hid (hT.kept (ba w (.cells #[.int .i64 0, .string ⟨#[]⟩, .int .i64 0, .int .i64 0] 113)))
  have HBel := Lib.hid (ba w (.cells #[.int .i64 0, .string ⟨#[]⟩, .int .i64 0, .int .i64 0] 113))
  have HU := Lib.hid (show 0 < w.heap.size from lt_of_cell (hT.sg 0 _ rfl))
  have HX := Lib.hid ((MapKept.heap_alloc w (tokO 113)).1)
  clear hT
  go_enter Tryz.func102, Tryz.ntmps102
  go_wp2_with fail
  generalize w.alloc (.cells #[.int .i64 0, .string ⟨#[]⟩, .int .i64 0, .int .i64 0] 113) = W1 at HT HBel HX ⊢
  obtain ⟨U, hU⟩ : ∃ U, w.heap.size = U := ⟨_, rfl⟩
  have HUB := Lib.hid (show w.heap.size ≤ U by omega)
  rw [hU] at HX HU ⊢
  clear hU
  go_loop [5, 4] (fun i _ => ∃ k : Nat, k ≤ 15 ∧ i = .int .i64 k ∧ Hid (∀ j b, j < k → Lx.signs[j]? = some b → b.isPrefixOf (bs s) = false)) (fun i _ => 15 - (intOf i).toNat)
  case atStart => exact ⟨0, Nat.zero_le _, rfl, Lib.hid (fun j c h => absurd h (by omega))⟩
  case round =>
    obtain ⟨k, hk, rfl, HA⟩ := hrel
    by_cases hlt : k < 15
    · obtain ⟨b, hb⟩ : ∃ b, Lx.signs[k]? = some b := ⟨_, List.getElem?_eq_getElem (by rw [signs_len]; exact hlt)⟩
      have hc := HT.out.sg k b hb
      have HB := Lib.hid hb
      have HQ := Lib.hid (show bs (⟨b.toArray⟩ : ByteArray) = b from rfl)
      have HS2 := Lib.hid (show (⟨b.toArray⟩ : ByteArray).size = b.length by rw [← bs_len])
      clear hb
      generalize (⟨b.toArray⟩ : ByteArray) = kb at hc HQ HS2
      cases he : b.isPrefixOf (bs s)
      · go_wp2_with fail
        refine (Tryz.strings_HasPrefix _ _ _).mono ?_
        rintro e W1 ⟨rfl, rfl⟩
        rw [show Lib.hasPrefix s.data.toList kb.data.toList = false by rw [show kb.data.toList = b from HQ.out]; exact he]
        go_wp2_with fail
        go_round
        case rel =>
          refine ⟨k + 1, by omega, by go_num, Lib.hid (fun j x hj hx => ?_)⟩
          rcases Nat.lt_or_ge j k with h | h
          · exact HA.out j x h hx
          · obtain rfl : j = k := by omega
            rw [HB.out] at hx; obtain rfl := Option.some.inj hx; exact he
        case measure => simp [intOf]; omega
      · go_wp2_with fail
        refine (Tryz.strings_HasPrefix _ _ _).mono ?_
        rintro e W1 ⟨rfl, rfl⟩
        rw [show Lib.hasPrefix s.data.toList kb.data.toList = true by rw [show kb.data.toList = b from HQ.out]; exact he]
        go_wp2_with fail
        obtain ⟨⟨c0, c1, c2, c3⟩, f0, f1, f2, f3⟩ := tcell HX.out
        have hUV := HU.out
        have HS := Lib.hid (tset HX.out (.int .i64 5) (.string kb) (.int .i64 0) (.int .i64 0))
        have HE := Lib.hid (show Below w.heap.size w ((((W1.setCell ⟨U, 0, none⟩ (.int .i64 5)).setCell ⟨U, 1, none⟩ (.string kb)).setCell ⟨U, 2, none⟩ (.int .i64 0)).setCell ⟨U, 3, none⟩ (.int .i64 0)) from
          (((HBel.out.setCell HUB.out _).setCell HUB.out _).setCell HUB.out _).setCell HUB.out _)
        go_region
        go_wp2_with fail
        obtain ⟨⟨q0, q1, q2, q3⟩, _⟩ := tcell HS.out
        have HL := Lib.hid (show Lx.cutSign (bs s) = some (⟨5, b, 0⟩, b.length) by rw [Lx.cutSign, find_at HB.out he (fun j x hj hx => HA.out j x hj hx)]; rfl)
        refine bodyPost_ret (v := .tuple #[tokV 5 kb 0 0, .int .i64 kb.size]) (by simp [results, Tryz.results102, go_sem, q0, q1, q2, q3]) rfl ⟨_, rfl, ?_, Below.drew HE.out⟩
        rw [HL.out]
        refine ⟨?_, kb, HQ.out, by rw [HS2.out]; rfl⟩
        rw [← bs_len]
        exact (List.isPrefixOf_iff_prefix.1 he).length_le
    · have HF := Lib.hid (show Lx.cutSign (bs s) = none by
        rw [Lx.cutSign, List.find?_eq_none.2]; rfl
        intro x hx
        obtain ⟨j, hj⟩ := List.getElem?_of_mem hx
        have : j < 15 := by have := (List.getElem?_eq_some_iff.1 hj).1; rw [signs_len] at this; exact this
        rw [HA.out j x (by omega) hj]; decide)
      obtain ⟨⟨c0, c1, c2, c3⟩, f0, f1, f2, f3⟩ := tcell HX.out
      have HS := Lib.hid (tset HX.out (.int .i64 0) (.string ⟨#[]⟩) (.int .i64 0) (.int .i64 0))
      have HE := Lib.hid (show Below w.heap.size w ((((W1.setCell ⟨U, 0, none⟩ (.int .i64 0)).setCell ⟨U, 1, none⟩ (.string ⟨#[]⟩)).setCell ⟨U, 2, none⟩ (.int .i64 0)).setCell ⟨U, 3, none⟩ (.int .i64 0)) from
          (((HBel.out.setCell HUB.out _).setCell HUB.out _).setCell HUB.out _).setCell HUB.out _)
      go_wp2_with fail
      obtain ⟨⟨q0, q1, q2, q3⟩, _⟩ := tcell HS.out
      refine bodyPost_ret (v := noTok) (by simp [results, Tryz.results102, go_sem, q0, q1, q2, q3]) rfl ⟨_, rfl, ?_, HE.out⟩
      rw [HF.out]; rfl
end Go.Proofs.YtmjckdgomlppeaaGreatDoor
end
section
namespace Go.Proofs.YtmjckdgomlppeaaGreatDoor
open Go.RowKit Go.Shelf

theorem val_snoc (l : Lx.B) (c : UInt8) : Lx.val (l ++ [c]) = 10 * Lx.val l + (c.toNat - 48) := by simp [Lx.val, List.foldl_append]
theorem val_app (l r : Lx.B) : Lx.val l ≤ Lx.val (l ++ r) := by
  induction r generalizing l with
  | nil => simp
  | cons c r ih =>
    have := ih (l ++ [c])
    rw [List.append_assoc, List.singleton_append, val_snoc] at this
    omega
theorem val_take (l : Lx.B) (k : Nat) : Lx.val (l.take k) ≤ Lx.val l := by
  have := val_app (l.take k) (l.drop k)
  rwa [List.take_append_drop] at this
theorem bs_snoc (s : ByteArray) (k : Nat) (h : k < s.size) : (bs s).take (k + 1) = (bs s).take k ++ [s[k]] := by
  rw [List.take_add_one, bs_get s k h]; rfl

set_option maxHeartbeats 1000000 in
theorem cutNum_any (s : ByteArray) (w : World) (hs : s.size ≤ 9223372036854775807) :
    Calls Tryz.prog 100 #[.string s] w fun e w' => ∃ v, e = .returned v ∧ CutV s (Lx.cutNum (bs s)) v ∧ Below w.heap.size w w' := by
  have HBel := Lib.hid (ba w (.cells #[.int .i64 0, .string ⟨#[]⟩, .int .i64 0, .int .i64 0] 113))
  obtain ⟨W, hz⟩ : ∃ W, (bs s).takeWhile Lx.digit = W := ⟨_, rfl⟩
  obtain ⟨n, hn⟩ : ∃ n, W.length = n := ⟨_, rfl⟩
  have hr : n ≤ s.size := by rw [← hn, ← hz, ← bs_len]; exact Lx.takeWhile_le _ _
  have HK := Lib.hid (show (bs s).take n = W by rw [← hn, ← hz, Lx.takeWhile_take])
  have HX := Lib.hid (show bs (s.extract 0 n) = W by rw [bs_extract, List.drop_zero, HK.out])
  have HZ := Lib.hid (show Lx.cutNum (bs s) = if (((bs s).drop n).head?.any Lx.letter) = true then none else if 9007199254740991 < Lx.val W then none else some (⟨3, W, Lx.val W⟩, n) by subst hz hn; rfl)
  have HW := Lib.hid (show ((bs s).takeWhile Lx.digit).length = n by rw [hz, hn])
  have HG := Lib.hid (show ∀ (k : Nat) (h : k < s.size), k < n → Lx.digit s[k] = true by
    intro k h hk
    refine Lx.takeWhile_mem Lx.digit (bs s) _ ?_
    rw [hz]
    refine List.mem_of_getElem? (i := k) ?_
    rw [← HK.out, List.getElem?_take_of_lt hk, bs_get s k h])
  clear hz hn
  by_cases hl : ∃ h : n < s.size, Lx.letter s[n] = true
  · obtain ⟨hlt, hl⟩ := hl
    have HF := Lib.hid (show Lx.cutNum (bs s) = none by rw [HZ.out, if_pos]; rw [bs_drop s n hlt]; exact hl)
    go_enter Tryz.func100, Tryz.ntmps100
    go_wp2_with fail
    refine (runD _ _ (by omega)).mono ?_
    rintro e w' ⟨rfl, rfl⟩
    rw [HW.out]
    go_wp2_with fail
    refine (isLetter_any s[n] _).mono ?_
    rintro e w' ⟨rfl, rfl⟩
    rw [hl]
    go_wp2_with fail
    refine bodyPost_ret (v := noTok) (by simp [results, Tryz.results100, go_sem]) rfl ⟨_, rfl, ?_, HBel.out⟩
    rw [HF.out]; rfl
  · have HF := Lib.hid (show Lx.cutNum (bs s) = if 9007199254740991 < Lx.val W then none else some (⟨3, W, Lx.val W⟩, n) by
      rw [HZ.out, if_neg]
      intro h
      rcases Nat.lt_or_ge n s.size with hlt | hge
      · rw [bs_drop s n hlt] at h; exact hl ⟨hlt, h⟩
      · rw [List.drop_eq_nil_iff.2 (by rw [bs_len]; omega)] at h; cases h)
    go_enter Tryz.func100, Tryz.ntmps100
    go_wp2_with fail
    refine (runD _ _ (by omega)).mono ?_
    rintro e w' ⟨rfl, rfl⟩
    rw [HW.out]
    by_cases hlt : n < s.size
    · have hl' : Lx.letter s[n] = false := by
        cases h : Lx.letter s[n]
        · rfl
        · exact absurd ⟨hlt, h⟩ hl
      clear hl
      go_wp2_with fail
      refine (isLetter_any s[n] _).mono ?_
      rintro e w' ⟨rfl, rfl⟩
      rw [hl']
      go_wp2_with fail
      go_loop [21, 5, 6] (fun i v _ => ∃ k : Nat, k ≤ n ∧ i = .int .i64 k ∧ v = .int .i64 (Lx.val ((bs s).take k) : Nat) ∧ Lx.val ((bs s).take k) ≤ 9007199254740991) (fun i _ _ => n - (intOf i).toNat)
      case atStart => exact ⟨0, Nat.zero_le _, rfl, by simp [Lx.val], by simp [Lx.val]⟩
      case round =>
        obtain ⟨k, hk, rfl, rfl, hv⟩ := hrel
        by_cases hkn : k < n
        · have hks : k < s.size := by omega
          have HS := Lib.hid (show Lx.val ((bs s).take (k + 1)) = 10 * Lx.val ((bs s).take k) + (s[k].toNat - 48) by rw [bs_snoc s k hks, val_snoc])
          have hd : 48 ≤ s[k].toNat ∧ s[k].toNat ≤ 57 := by simpa [Lx.digit] using HG.out k hks hkn
          have HM := Lib.hid (show Lx.val ((bs s).take (k + 1)) ≤ Lx.val W by
            have e : (bs s).take (k + 1) = W.take (k + 1) := by rw [← HK.out, List.take_take, Nat.min_eq_left (by omega)]
            rw [e]; exact val_take _ _)
          generalize Lx.val ((bs s).take k) = v at hv HS ⊢
          by_cases hb : 9007199254740991 < 10 * v + (s[k].toNat - 48)
          · have hb' : 9007199254740991 < 10 * (v : Int) + ((s[k].toNat : Int) - 48) := by omega
            go_wp2_with fail
            refine bodyPost_ret (v := noTok) (by simp [results, Tryz.results100, go_sem]) rfl ⟨_, rfl, ?_, HBel.out⟩
            rw [HF.out, if_pos (by have := HM.out; rw [HS.out] at this; omega)]; rfl
          · have hb' : ¬ 9007199254740991 < 10 * (v : Int) + ((s[k].toNat : Int) - 48) := by omega
            go_wp2_with fail
            go_round
            case rel => exact ⟨k + 1, by omega, by go_num, by rw [HS.out]; go_num, by rw [HS.out]; omega⟩
            case measure => simp [intOf]; omega
        · obtain rfl : k = n := by omega
          rw [HK.out] at hv ⊢
          go_wp2_with fail
          refine bodyPost_ret (v := .tuple #[tokV 3 (s.extract 0 k) (Lx.val W : Nat) 0, .int .i64 k]) (by simp [results, Tryz.results100, go_sem]) rfl ⟨_, rfl, ?_, ba w _⟩
          rw [HF.out, if_neg (by omega)]
          exact ⟨hr, _, HX.out, rfl⟩
    · clear hl
      go_wp2_with fail
      go_loop [21, 5, 6] (fun i v _ => ∃ k : Nat, k ≤ n ∧ i = .int .i64 k ∧ v = .int .i64 (Lx.val ((bs s).take k) : Nat) ∧ Lx.val ((bs s).take k) ≤ 9007199254740991) (fun i _ _ => n - (intOf i).toNat)
      case atStart => exact ⟨0, Nat.zero_le _, rfl, by simp [Lx.val], by simp [Lx.val]⟩
      case round =>
        obtain ⟨k, hk, rfl, rfl, hv⟩ := hrel
        by_cases hkn : k < n
        · have hks : k < s.size := by omega
          have HS := Lib.hid (show Lx.val ((bs s).take (k + 1)) = 10 * Lx.val ((bs s).take k) + (s[k].toNat - 48) by rw [bs_snoc s k hks, val_snoc])
          have hd : 48 ≤ s[k].toNat ∧ s[k].toNat ≤ 57 := by simpa [Lx.digit] using HG.out k hks hkn
          have HM := Lib.hid (show Lx.val ((bs s).take (k + 1)) ≤ Lx.val W by
            have e : (bs s).take (k + 1) = W.take (k + 1) := by rw [← HK.out, List.take_take, Nat.min_eq_left (by omega)]
            rw [e]; exact val_take _ _)
          generalize Lx.val ((bs s).take k) = v at hv HS ⊢
          by_cases hb : 9007199254740991 < 10 * v + (s[k].toNat - 48)
          · have hb' : 9007199254740991 < 10 * (v : Int) + ((s[k].toNat : Int) - 48) := by omega
            go_wp2_with fail
            refine bodyPost_ret (v := noTok) (by simp [results, Tryz.results100, go_sem]) rfl ⟨_, rfl, ?_, HBel.out⟩
            rw [HF.out, if_pos (by have := HM.out; rw [HS.out] at this; omega)]; rfl
          · have hb' : ¬ 9007199254740991 < 10 * (v : Int) + ((s[k].toNat : Int) - 48) := by omega
            go_wp2_with fail
            go_round
            case rel => exact ⟨k + 1, by omega, by go_num, by rw [HS.out]; go_num, by rw [HS.out]; omega⟩
            case measure => simp [intOf]; omega
        · obtain rfl : k = n := by omega
          rw [HK.out] at hv ⊢
          go_wp2_with fail
          refine bodyPost_ret (v := .tuple #[tokV 3 (s.extract 0 k) (Lx.val W : Nat) 0, .int .i64 k]) (by simp [results, Tryz.results100, go_sem]) rfl ⟨_, rfl, ?_, ba w _⟩
          rw [HF.out, if_neg (by omega)]
          exact ⟨hr, _, HX.out, rfl⟩
end Go.Proofs.YtmjckdgomlppeaaGreatDoor
end
section
namespace Go.Proofs.YtmjckdgomlppeaaGreatDoor
open Go.RowKit Go.Shelf

theorem infoX_parts {t : TypeId} {z : Value} {n b : Nat} (h : (Tryz.prog.info? t).map (fun i => (i.zero, i.size, i.bytes)) = some (some z, n, b)) :
    ∃ i, Tryz.prog.info? t = some i ∧ i.zero = some z ∧ i.size = n ∧ i.bytes = b := by
  cases hi : Tryz.prog.info? t with
  | none => rw [hi] at h; cases h
  | some i => rw [hi] at h; simp at h; exact ⟨i, rfl, h.1, h.2.1, h.2.2⟩
abbrev u8s (l : Lx.B) : List Value := l.map fun c => .int .u8 (c.toNat : Int)
/-- Bytes of the call's own, told. -/
structure Said (base : Nat) (W1 W : World) (v : Value) (said : Lx.B) : Prop where
  own : W.ownsRow base 5 1 v said.length (u8s said)
  bel : Below base W1 W
  le : base ≤ W.heap.size
theorem Said.slice {base : Nat} {W1 W : World} {v : Value} {said : Lx.B} (h : Said base W1 W v said) : ∃ A cap, v = .slice A said.length cap := by
  rcases h.own.2 with ⟨rfl, h0⟩ | ⟨g, cap, cur, hv, _⟩
  · rw [h0]; exact ⟨none, 0, rfl⟩
  · exact ⟨_, cap, hv⟩
theorem Said.str {base : Nat} {W1 W : World} {v : Value} {said : Lx.B} (h : Said base W1 W v said) : (convert 49 9 v).run Tryz.prog W = .ok (.string ⟨said.toArray⟩) W := by
  rcases h.own.2 with ⟨rfl, h0⟩ | ⟨g, cap, cur, hv, hb, hg, hc, hm, hsz, ht⟩
  · obtain rfl : said = [] := List.eq_nil_of_length_eq_zero h0
    exact run_convert_bytes_nil W _ _ Tryz.underlying49 Tryz.underlying5 0 0 _ Tryz.underlying9
  · subst hv
    refine run_convert_bytes_back W _ _ _ _ cap said Tryz.underlying49 Tryz.underlying5 Tryz.underlying9 fun j hj => ?_
    have e : cur.toList[j]? = (u8s said)[j]? := by rw [← ht, List.getElem?_take_of_lt (by omega)]
    have e2 : (⟨g, 0, none⟩ : Addr).add j = ⟨g, j, none⟩ := by simp only [Addr.add]; split <;> simp_all
    have e3 : W.cell? ⟨g, j, none⟩ = cur[j]? := by simp [World.cell?, hg]
    rw [e2, e3, ← Array.getElem?_toList, e]
    simp [List.getElem?_eq_getElem hj]
theorem Said.grow {base : Nat} {W1 W : World} {v : Value} {said : Lx.B} (h : Said base W1 W v said) (c : UInt8) {o : Obj} {v' : Value} {w' : World} (ho : w'.ownsRow base 5 1 v' (said.length + 1) (u8s said ++ [.int .u8 (c.toNat : Int)])) (hg : (W.alloc o).grownBy w' v.ownBlock) : Said base W1 w' v' (said ++ [c]) := by
  have hle := h.le
  have hs := hg.size
  rw [World.size_alloc] at hs
  refine ⟨by simpa using ho, h.bel.trans (((Below.refl base W).alloc hle _).trans ((Below.refl base (W.alloc o)).grown hg (by rw [World.size_alloc]; omega) (fun k hk => ?_))), by omega⟩
  exact (h.own.lt k hk).1
theorem Said.box {base U : Nat} {W1 W : World} {v : Value} {said : Lx.B} (h : Said base W1 W v said) (hU : U < base) {o : Obj} (hx : W1.heap[U]? = some o) : W.heap[U]? = some o :=
  (h.bel.block U hU).trans hx

theorem below_tok {B U : Nat} {w W : World} (h : Below B w W) (hU : B ≤ U) (b0 b1 b2 b3 : Value) : Below B w ((((W.setCell ⟨U, 0, none⟩ b0).setCell ⟨U, 1, none⟩ b1).setCell ⟨U, 2, none⟩ b2).setCell ⟨U, 3, none⟩ b3) :=
  (((h.setCell (p := ⟨U, 0, none⟩) hU b0).setCell (p := ⟨U, 1, none⟩) hU b1).setCell (p := ⟨U, 2, none⟩) hU b2).setCell (p := ⟨U, 3, none⟩) hU b3
theorem quotes {r : Lx.B} : Lib.hasPrefix (39 :: r) [39, 39] = decide (r.head? = some 39) := by
  cases r with
  | nil => rfl
  | cons x r =>
    by_cases h : x = 39
    · subst h; simp [Lib.hasPrefix]
    · simp [Lib.hasPrefix, List.isPrefixOf, h, Ne.symm h]
theorem txq_quote {r s : Lx.B} (h : s.length ≤ 64) : Lx.txq false (39 :: r) s = Lx.txq true r s := by rw [Lx.txq, if_neg (by omega), if_pos rfl]
theorem txq_end {r s : Lx.B} (h : r.head? ≠ some 39) : Lx.txq true r s = some (s, r) := by
  cases r with
  | nil => rfl
  | cons c r => rw [Lx.txq, if_neg (by simpa using h)]
theorem txq_two {r s : Lx.B} : Lx.txq true (39 :: r) s = Lx.txq false r (s ++ [39]) := by rw [Lx.txq, if_pos rfl]
theorem txq_byte {c : UInt8} {r s : Lx.B} (hc : c ≠ 39) (h : s.length ≤ 64) : Lx.txq false (c :: r) s = Lx.txq false r (s ++ [c]) := by rw [Lx.txq, if_neg (by omega), if_neg hc]
theorem txq_long {r s : Lx.B} (h : 64 < s.length) : Lx.txq false r s = none := by
  cases r with
  | nil => rfl
  | cons c r => rw [Lx.txq, if_pos h]

set_option maxRecDepth 100000 in
set_option maxHeartbeats 2000000 in
theorem cutText_any (s : ByteArray) (w : World) (hs : s.size ≤ 9223372036854775807) (h1 : 1 ≤ s.size) :
    Calls Tryz.prog 101 #[.string s] w fun e w' => ∃ v, e = .returned v ∧ CutV s (Lx.cutText (bs s)) v ∧ Below w.heap.size w w' := by
  obtain ⟨i0, hi, hz0, hz1, hz2⟩ := infoX_parts info_byte
  have HBel := Lib.hid (ba w (tokO 113))
  have HX := Lib.hid ((MapKept.heap_alloc w (tokO 113)).1)
  have HSz := Lib.hid (show w.heap.size < (w.alloc (tokO 113)).heap.size by rw [World.size_alloc]; omega)
  have HT := Lib.hid (show ∀ o, Lx.txq false ((bs s).drop 1) [] = o → Lx.cutText (bs s) = o.map fun x => (⟨4, x.1, 0⟩, (bs s).length - x.2.length) from fun o ho => by rw [Lx.cutText, ho])
  obtain ⟨R, hR⟩ : ∃ R, Lx.txq false ((bs s).drop 1) [] = R := ⟨_, rfl⟩
  have HF := Lib.hid (HT.out R hR)
  have HR := Lib.hid hR
  clear HT hR
  go_enter Tryz.func101, Tryz.ntmps101
  go_wp2_with fail
  generalize w.alloc (.cells #[.int .i64 0, .string ⟨#[]⟩, .int .i64 0, .int .i64 0] 113) = W1 at HBel HX HSz ⊢
  obtain ⟨U, hU⟩ : ∃ U, w.heap.size = U := ⟨_, rfl⟩
  have HUB := Lib.hid (show w.heap.size ≤ U by omega)
  rw [hU] at HX HSz ⊢
  clear hU
  go_loopw [5, 4] (fun i v W => ∃ (k : Nat) (said : Lx.B), k ≤ s.size ∧ said.length ≤ 65 ∧ i = .int .i64 k ∧ Hid (Said W1.heap.size W1 W v said) ∧ Hid (Lx.txq false ((bs s).drop k) said = R)) (fun i _ _ => s.size - (intOf i).toNat)
  case atStart => exact ⟨1, [], h1, by simp, rfl, Lib.hid ⟨World.ownsRow_nil _ _ _ _, Below.refl _ _, Nat.le_refl _⟩, HR⟩
  case round =>
    obtain ⟨k, said, hk, hl, rfl, HS, HQ⟩ := hrel
    obtain ⟨A, cap, hv⟩ := HS.out.slice
    subst hv
    by_cases hkn : k < s.size
    · have hD := bs_drop s k hkn
      by_cases hl64 : said.length ≤ 64
      · by_cases hc : s[k] = 39
        · have HC := Lib.hid hc
          have hcn : (s[k].toNat : Int) = 39 := by rw [hc]; rfl
          have HP := Lib.hid (show Lib.hasPrefix (bs (s.extract k s.size)) [39, 39] = decide (((bs s).drop (k + 1)).head? = some 39) by rw [bs_from, hD, hc, quotes])
          have HQ2 := Lib.hid (show Lx.txq true ((bs s).drop (k + 1)) said = R by rw [← HQ.out, hD, hc, txq_quote hl64])
          clear hD hc
          by_cases hn : ((bs s).drop (k + 1)).head? = some 39
          · have hk1 : k + 1 < s.size := by
              rcases Nat.lt_or_ge (k + 1) s.size with h | h
              · exact h
              · rw [List.drop_eq_nil_iff.2 (by rw [bs_len]; omega)] at hn; cases hn
            have hD1 := bs_drop s (k + 1) hk1
            have hc1 : s[k + 1] = 39 := by rw [hD1] at hn; simpa using hn
            have HN := Lib.hid (show Lx.txq false ((bs s).drop (k + 1 + 1)) (said ++ [39]) = R by rw [← HQ2.out, hD1, hc1, txq_two])
            have hcm : (s[k + 1].toNat : Int) = 39 := by rw [hc1]; rfl
            have HP2 := Lib.hid (HP.out.trans (decide_eq_true hn))
            clear hD1 hc1 hn
            go_wp2_with fail
            refine (Tryz.strings_HasPrefix _ _ _).mono ?_
            rintro e wr ⟨rfl, rfl⟩
            rw [show Lib.hasPrefix (s.extract k s.size).data.toList [39, 39] = true from HP2.out]
            go_wp2_with (at_builtin; refine wpList_append_own _ rfl _ _ 49 rfl W1.heap.size 5 i0 (.int .u8 0) 1 1 Tryz.underlying49 hi hz0 hz1 hz2 rfl (by decide) _ _ _ rfl (HS.out.own.alloc _) ⟨wr.heap.size, 0, none⟩ 1 1 [.int .u8 ((39 : UInt8).toNat : Int)] rfl rfl ?c1 ?c2 ?c3 ?c4 ?c5 ?_)
            case c1 =>
              intro j u hj
              match j, hj with
              | 0, hj => simp at hj; subst hj; simp [Addr.add]
            case c2 => intro u hu; simp at hu; subst hu; rfl
            case c3 => unfold maxLen; omega
            case c4 => omega
            case c5 => have := HS.out.le; simp; omega
            intro v' w1 hown' hg _
            have HG := Lib.hid (HS.out.grow 39 hown' hg)
            clear hown' hg
            go_wp2_with fail
            go_roundw
            case rel => exact ⟨k + 1 + 1, said ++ [39], by omega, by simp; omega, by go_num, HG, HN⟩
            case measure => simp [intOf]; omega
          · have HN := Lib.hid (show R = some (said, (bs s).drop (k + 1)) by rw [← HQ2.out, txq_end hn])
            have HP2 := Lib.hid (HP.out.trans (decide_eq_false hn))
            clear hn
            go_wp2_with fail
            refine (Tryz.strings_HasPrefix _ _ _).mono ?_
            rintro e wr ⟨rfl, rfl⟩
            rw [show Lib.hasPrefix (s.extract k s.size).data.toList [39, 39] = false from HP2.out]
            have hx := HS.out.box HSz.out HX.out
            obtain ⟨⟨c0, c1, c2, c3⟩, f0, f1, f2, f3⟩ := tcell hx
            have hstr := HS.out.str
            have HS2 := Lib.hid (tset hx (.int .i64 4) (.string ⟨said.toArray⟩) (.int .i64 0) (.int .i64 0))
            have HE := Lib.hid (below_tok (HBel.out.trans (HS.out.bel.mono (by have := HBel.out.size; omega))) HUB.out (.int .i64 4) (.string ⟨said.toArray⟩) (.int .i64 0) (.int .i64 0))
            clear hx
            go_wp2_with fail
            obtain ⟨⟨q0, q1, q2, q3⟩, _⟩ := tcell HS2.out
            refine bodyPost_ret (v := .tuple #[tokV 4 ⟨said.toArray⟩ 0 0, .int .i64 ((k + 1 : Nat))]) (by simp [results, Tryz.results101, go_sem, q0, q1, q2, q3]) rfl ⟨_, rfl, ?_, HE.out⟩
            rw [HF.out, HN.out]
            refine ⟨by simp only [bs_len, List.length_drop]; omega, ⟨said.toArray⟩, rfl, ?_⟩
            simp only [bs_len, List.length_drop]
            rw [show s.size - (s.size - (k + 1)) = k + 1 by omega]; rfl
        · have HN := Lib.hid (show Lx.txq false ((bs s).drop (k + 1)) (said ++ [s[k]]) = R by rw [← HQ.out, hD, txq_byte hc hl64])
          have hcn : ¬ (s[k].toNat : Int) = 39 := by
            intro h; apply hc
            apply UInt8.toNat_inj.1
            have : s[k].toNat = 39 := by omega
            rw [this]; rfl
          clear hD hc
          go_wp2_with (at_builtin; refine wpList_append_own _ rfl _ _ 49 rfl W1.heap.size 5 i0 (.int .u8 0) 1 1 Tryz.underlying49 hi hz0 hz1 hz2 rfl (by decide) _ _ _ rfl (HS.out.own.alloc _) ⟨wr.heap.size, 0, none⟩ 1 1 [.int .u8 (s[k].toNat : Int)] rfl rfl ?c1 ?c2 ?c3 ?c4 ?c5 ?_)
          case c1 =>
            intro j u hj
            match j, hj with
            | 0, hj => simp at hj; subst hj; simp [Addr.add]
          case c2 => intro u hu; simp at hu; subst hu; rfl
          case c3 => unfold maxLen; omega
          case c4 => omega
          case c5 => have := HS.out.le; simp; omega
          intro v' w1 hown' hg _
          have HG := Lib.hid (HS.out.grow s[k] hown' hg)
          clear hown' hg
          go_wp2_with fail
          go_roundw
          case rel => exact ⟨k + 1, said ++ [s[k]], by omega, by simp; omega, by go_num, HG, HN⟩
          case measure => simp [intOf]; omega
      · have HN := Lib.hid (show R = none by rw [← HQ.out, txq_long (by omega)])
        clear hD
        have hx := HS.out.box HSz.out HX.out
        obtain ⟨⟨c0, c1, c2, c3⟩, f0, f1, f2, f3⟩ := tcell hx
        have HS2 := Lib.hid (tset hx (.int .i64 0) (.string ⟨#[]⟩) (.int .i64 0) (.int .i64 0))
        have HE := Lib.hid (below_tok (HBel.out.trans (HS.out.bel.mono (by have := HBel.out.size; omega))) HUB.out (.int .i64 0) (.string ⟨#[]⟩) (.int .i64 0) (.int .i64 0))
        clear hx
        go_wp2_with fail
        obtain ⟨⟨q0, q1, q2, q3⟩, _⟩ := tcell HS2.out
        refine bodyPost_ret (v := noTok) (by simp [results, Tryz.results101, go_sem, q0, q1, q2, q3]) rfl ⟨_, rfl, ?_, HE.out⟩
        rw [HF.out, HN.out]; rfl
    · have HN := Lib.hid (show R = none by rw [← HQ.out, List.drop_eq_nil_iff.2 (by rw [bs_len]; omega)]; rfl)
      have hx := HS.out.box HSz.out HX.out
      obtain ⟨⟨c0, c1, c2, c3⟩, f0, f1, f2, f3⟩ := tcell hx
      have HS2 := Lib.hid (tset hx (.int .i64 0) (.string ⟨#[]⟩) (.int .i64 0) (.int .i64 0))
      have HE := Lib.hid (below_tok (HBel.out.trans (HS.out.bel.mono (by have := HBel.out.size; omega))) HUB.out (.int .i64 0) (.string ⟨#[]⟩) (.int .i64 0) (.int .i64 0))
      clear hx
      go_wp2_with fail
      obtain ⟨⟨q0, q1, q2, q3⟩, _⟩ := tcell HS2.out
      refine bodyPost_ret (v := noTok) (by simp [results, Tryz.results101, go_sem, q0, q1, q2, q3]) rfl ⟨_, rfl, ?_, HE.out⟩
      rw [HF.out, HN.out]; rfl
end Go.Proofs.YtmjckdgomlppeaaGreatDoor
end
section
namespace Go.Proofs.YtmjckdgomlppeaaGreatDoor
open Go.RowKit Go.Shelf

theorem CutV.form {s : ByteArray} {o : Option (Lx.Tok × Nat)} {v : Value} (h : CutV s o v) : ∃ k b n z, v = .tuple #[tokV k b n 0, .int .i64 z] := by
  cases o with
  | none => exact ⟨0, ⟨#[]⟩, 0, 0, h⟩
  | some x => obtain ⟨t, z⟩ := x; obtain ⟨_, b, _, hv⟩ := h; exact ⟨_, b, _, _, hv⟩
/-- What the cuts' box and world are behind a call. -/
theorem cut_end {w W1 W2 : World} {U : Nat} (hB : Below w.heap.size w W1) (hX : W1.heap[U]? = some (tokO 113)) (hb : Below W1.heap.size W1 W2) : Below w.heap.size w W2 ∧ W2.heap[U]? = some (tokO 113) := by
  refine ⟨hB.trans (hb.mono (by have := hB.size; omega)), (hb.block U ?_).trans hX⟩
  rcases Nat.lt_or_ge U W1.heap.size with h | h
  · exact h
  · rw [Array.getElem?_eq_none h] at hX; cases hX

set_option maxHeartbeats 2000000 in
theorem cut_any (s : ByteArray) (w : World) (hs : s.size ≤ 9223372036854775807) (hT : Tabs w) :
    Calls Tryz.prog 77 #[.string s] w fun e w' => ∃ v, e = .returned v ∧ CutV s (Lx.cut (bs s)) v ∧ Below w.heap.size w w' := by
  have HT := Lib.hid (hT.kept (ba w (tokO 113)))
  have HBel := Lib.hid (ba w (tokO 113))
  have HX := Lib.hid ((MapKept.heap_alloc w (tokO 113)).1)
  clear hT
  go_enter Tryz.func77, Tryz.ntmps77
  go_upto_region 1 with fail
  generalize w.alloc (.cells #[.int .i64 0, .string ⟨#[]⟩, .int .i64 0, .int .i64 0] 113) = W1 at HT HBel HX ⊢
  obtain ⟨U, hU⟩ : ∃ U, w.heap.size = U := ⟨_, rfl⟩
  have HUB := Lib.hid (show w.heap.size ≤ U by omega)
  rw [hU] at HX ⊢
  clear hU
  by_cases h0 : s.size = 0
  · have hE : s.toList.isEmpty = true := by
      rw [ByteArray.toList_eq, List.isEmpty_iff]
      exact List.eq_nil_of_length_eq_zero ((bs_len s).trans h0)
    have HN := Lib.hid (show Lx.cut (bs s) = some (⟨6, [], 0⟩, 0) by rw [List.eq_nil_of_length_eq_zero ((bs_len s).trans h0)]; rfl)
    obtain ⟨⟨c0, c1, c2, c3⟩, f0, f1, f2, f3⟩ := tcell HX.out
    have HS2 := Lib.hid (tset HX.out (.int .i64 6) (.string ⟨#[]⟩) (.int .i64 0) (.int .i64 0))
    have HE := Lib.hid (below_tok HBel.out HUB.out (.int .i64 6) (.string ⟨#[]⟩) (.int .i64 0) (.int .i64 0))
    go_wp2_with fail
    obtain ⟨⟨q0, q1, q2, q3⟩, _⟩ := tcell HS2.out
    refine bodyPost_ret (v := .tuple #[tokV 6 ⟨#[]⟩ 0 0, .int .i64 0]) (by simp [results, Tryz.results77, go_sem, q0, q1, q2, q3]) rfl ⟨_, rfl, ?_, HE.out⟩
    rw [HN.out]
    exact ⟨Nat.zero_le _, ⟨#[]⟩, rfl, rfl⟩
  · have hE : s.toList.isEmpty = false := by
      rw [ByteArray.toList_eq, List.isEmpty_eq_false_iff]
      intro h; exact h0 (by rw [← bs_len, show bs s = [] from h]; rfl)
    have hp : 0 < s.size := by omega
    have HD := Lib.hid (show bs s = s[0] :: (bs s).drop 1 by have := bs_drop s 0 hp; rwa [List.drop_zero] at this)
    cases hl : Lx.letter s[0]
    · cases hd : Lx.digit s[0]
      · by_cases hq : s[0] = 39
        · have HN := Lib.hid (show Lx.cut (bs s) = Lx.cutText (bs s) by rw [HD.out, Lx.cut, hl, hd, hq]; rfl)
          have HCN := Lib.hid (show (s[0].toNat : Int) = 39 by rw [hq]; rfl)
          clear hq
          go_wp2_with fail
          refine (isLetter_any s[0] _).mono ?_
          rintro e W1 ⟨rfl, rfl⟩
          rw [hl]
          go_wp2_with fail
          refine (isDigit_any s[0] _).mono ?_
          rintro e W1 ⟨rfl, rfl⟩
          rw [hd]
          have hcn := HCN.out
          go_wp2_with fail
          refine (cutText_any s _ hs (by omega)).mono ?_
          rintro e W2 ⟨v, rfl, hv, hb⟩
          obtain ⟨k, b, n, z, rfl⟩ := hv.form
          have HV := Lib.hid hv
          have hw := cut_end HBel.out HX.out hb
          have HX2 := Lib.hid hw.2
          obtain ⟨⟨c0, c1, c2, c3⟩, f0, f1, f2, f3⟩ := tcell hw.2
          have HS2 := Lib.hid (tset hw.2 (.int .i64 k) (.string b) (.int .i64 n) (.int .i64 0))
          have HE := Lib.hid (below_tok hw.1 HUB.out (.int .i64 k) (.string b) (.int .i64 n) (.int .i64 0))
          clear hw hv hb
          go_wp2_with fail
          obtain ⟨⟨q0, q1, q2, q3⟩, _⟩ := tcell HS2.out
          refine bodyPost_ret (v := .tuple #[tokV k b n 0, .int .i64 z]) (by simp [results, Tryz.results77, go_sem, q0, q1, q2, q3]) rfl ⟨_, rfl, ?_, HE.out⟩
          rw [HN.out]
          exact HV.out
        · have HN := Lib.hid (show Lx.cut (bs s) = Lx.cutSign (bs s) by rw [HD.out, Lx.cut, if_neg (by simp [hl]), if_neg (by simp [hd]), if_neg hq])
          have HCN := Lib.hid (show ¬ (s[0].toNat : Int) = 39 by
            intro h; apply hq
            apply UInt8.toNat_inj.1
            have : s[0].toNat = 39 := by omega
            rw [this]; rfl)
          clear hq
          go_wp2_with fail
          refine (isLetter_any s[0] _).mono ?_
          rintro e W1 ⟨rfl, rfl⟩
          rw [hl]
          go_wp2_with fail
          refine (isDigit_any s[0] _).mono ?_
          rintro e W1 ⟨rfl, rfl⟩
          rw [hd]
          have hcn := HCN.out
          go_wp2_with fail
          refine (cutSign_any s _ HT.out).mono ?_
          rintro e W2 ⟨v, rfl, hv, hb⟩
          obtain ⟨k, b, n, z, rfl⟩ := hv.form
          have HV := Lib.hid hv
          have hw := cut_end HBel.out HX.out hb
          have HX2 := Lib.hid hw.2
          obtain ⟨⟨c0, c1, c2, c3⟩, f0, f1, f2, f3⟩ := tcell hw.2
          have HS2 := Lib.hid (tset hw.2 (.int .i64 k) (.string b) (.int .i64 n) (.int .i64 0))
          have HE := Lib.hid (below_tok hw.1 HUB.out (.int .i64 k) (.string b) (.int .i64 n) (.int .i64 0))
          clear hw hv hb
          go_wp2_with fail
          obtain ⟨⟨q0, q1, q2, q3⟩, _⟩ := tcell HS2.out
          refine bodyPost_ret (v := .tuple #[tokV k b n 0, .int .i64 z]) (by simp [results, Tryz.results77, go_sem, q0, q1, q2, q3]) rfl ⟨_, rfl, ?_, HE.out⟩
          rw [HN.out]
          exact HV.out
      · have HN := Lib.hid (show Lx.cut (bs s) = Lx.cutNum (bs s) by rw [HD.out, Lx.cut, if_neg (by simp [hl]), if_pos hd])
        go_wp2_with fail
        refine (isLetter_any s[0] _).mono ?_
        rintro e W1 ⟨rfl, rfl⟩
        rw [hl]
        go_wp2_with fail
        refine (isDigit_any s[0] _).mono ?_
        rintro e W1 ⟨rfl, rfl⟩
        rw [hd]
        go_wp2_with fail
        refine (cutNum_any s _ hs).mono ?_
        rintro e W2 ⟨v, rfl, hv, hb⟩
        obtain ⟨k, b, n, z, rfl⟩ := hv.form
        have HV := Lib.hid hv
        have hw := cut_end HBel.out HX.out hb
        have HX2 := Lib.hid hw.2
        obtain ⟨⟨c0, c1, c2, c3⟩, f0, f1, f2, f3⟩ := tcell hw.2
        have HS2 := Lib.hid (tset hw.2 (.int .i64 k) (.string b) (.int .i64 n) (.int .i64 0))
        have HE := Lib.hid (below_tok hw.1 HUB.out (.int .i64 k) (.string b) (.int .i64 n) (.int .i64 0))
        clear hw hv hb
        go_wp2_with fail
        obtain ⟨⟨q0, q1, q2, q3⟩, _⟩ := tcell HS2.out
        refine bodyPost_ret (v := .tuple #[tokV k b n 0, .int .i64 z]) (by simp [results, Tryz.results77, go_sem, q0, q1, q2, q3]) rfl ⟨_, rfl, ?_, HE.out⟩
        rw [HN.out]
        exact HV.out
    · have HN := Lib.hid (show Lx.cut (bs s) = Lx.cutWord (bs s) by rw [HD.out, Lx.cut, if_pos hl])
      go_wp2_with fail
      refine (isLetter_any s[0] _).mono ?_
      rintro e W1 ⟨rfl, rfl⟩
      rw [hl]
      go_wp2_with fail
      refine (cutWord_any s _ hs HT.out).mono ?_
      rintro e W2 ⟨v, rfl, hv, hb⟩
      obtain ⟨k, b, n, z, rfl⟩ := hv.form
      have HV := Lib.hid hv
      have hw := cut_end HBel.out HX.out hb
      have HX2 := Lib.hid hw.2
      obtain ⟨⟨c0, c1, c2, c3⟩, f0, f1, f2, f3⟩ := tcell hw.2
      have HS2 := Lib.hid (tset hw.2 (.int .i64 k) (.string b) (.int .i64 n) (.int .i64 0))
      have HE := Lib.hid (below_tok hw.1 HUB.out (.int .i64 k) (.string b) (.int .i64 n) (.int .i64 0))
      clear hw hv hb
      go_wp2_with fail
      obtain ⟨⟨q0, q1, q2, q3⟩, _⟩ := tcell HS2.out
      refine bodyPost_ret (v := .tuple #[tokV k b n 0, .int .i64 z]) (by simp [results, Tryz.results77, go_sem, q0, q1, q2, q3]) rfl ⟨_, rfl, ?_, HE.out⟩
      rw [HN.out]
      exact HV.out
end Go.Proofs.YtmjckdgomlppeaaGreatDoor
end
section
namespace Go.Proofs.YtmjckdgomlppeaaGreatDoor
open Go.RowKit Go.Shelf

def isName (s : ByteArray) : Bool := match Lx.cut (bs s) with
  | some (t, z) => decide (t.k = 1) && decide (z = s.size)
  | none => false
set_option maxHeartbeats 1000000 in
theorem name_any (s : ByteArray) (w : World) (hs : s.size ≤ 9223372036854775807) (hT : Tabs w) :
    Calls Tryz.prog 55 #[.string s] w fun e w' => e = .returned (.bool (isName s)) ∧ Below w.heap.size w w' := by
  have HT := Lib.hid hT
  clear hT
  go_enter Tryz.func55, Tryz.ntmps55
  go_wp2_with fail
  refine (cut_any s _ hs HT.out).mono ?_
  rintro e w2 ⟨v, rfl, hv, hb⟩
  have HB := Lib.hid hb
  clear hb
  cases hc : Lx.cut (bs s) with
  | none =>
    rw [hc] at hv
    obtain rfl : v = noTok := hv
    have HN := Lib.hid (show isName s = false by rw [isName, hc])
    go_wp2_with fail
    go_ret
    rw [HN.out]
    exact ⟨rfl, bt HB.out (ba w2 _)⟩
  | some x =>
    obtain ⟨t, z⟩ := x
    rw [hc] at hv
    obtain ⟨hz, b, hbs, rfl⟩ := hv
    have HN := Lib.hid (show isName s = (decide (t.k = 1) && decide (z = s.size)) by rw [isName, hc])
    clear hbs hc
    by_cases h1 : t.k = 1
    · have H1 := Lib.hid h1
      have h1' : (t.k : Int) = 1 := by omega
      clear h1
      by_cases h2 : z = s.size
      · subst h2
        go_wp2_with fail
        go_ret
        rw [HN.out, H1.out]
        exact ⟨ret_b (by simp), bt HB.out (ba w2 _)⟩
      · have h2' : ¬ (z : Int) = s.size := by omega
        go_wp2_with fail
        go_ret
        rw [HN.out, H1.out]
        exact ⟨ret_b (by simp [h2]; exact h2'), bt HB.out (ba w2 _)⟩
    · have h1' : ¬ (t.k : Int) = 1 := by omega
      go_wp2_with fail
      go_ret
      rw [HN.out]
      exact ⟨ret_b (by simp [h1]), bt HB.out (ba w2 _)⟩
end Go.Proofs.YtmjckdgomlppeaaGreatDoor
end
section
namespace Go.Proofs.YtmjckdgomlppeaaGreatDoor
open Go.RowKit Go.Shelf
attribute [local go_sem] Oper.semAt_some

/-- Nothing but block m is another. -/
structure But (m : Nat) (w w' : World) : Prop where
  below : Below m w w'
  size : w.heap.size ≤ w'.heap.size
  block : ∀ k, k < w.heap.size → k ≠ m → w'.heap[k]? = w.heap[k]?
theorem But.refl (m : Nat) (w : World) : But m w w := ⟨Below.refl _ _, Nat.le_refl _, fun _ _ _ => rfl⟩
theorem But.trans {m : Nat} {w w1 w2 : World} (h : But m w w1) (h' : But m w1 w2) : But m w w2 :=
  ⟨h.below.trans h'.below, Nat.le_trans h.size h'.size, fun k hk hne => (h'.block k (Nat.lt_of_lt_of_le hk h.size) hne).trans (h.block k hk hne)⟩
theorem But.of {m : Nat} {w w' : World} (h : Below w.heap.size w w') (hm : m ≤ w.heap.size) : But m w w' := ⟨h.mono hm, h.size, fun k hk _ => h.block k hk⟩
theorem But.turned {m : Nat} {w w' : World} (h : w.mapTurned w' m) : But m w w' := by
  refine ⟨below_turned h (Nat.le_refl m), ?_, ?_⟩
  · obtain ⟨es, clock, es', clock', h1, rfl⟩ := h
    simp [Go.ChangeMaps.setBlock]
  · intro k _ hne
    obtain ⟨es, clock, es', clock', h1, rfl⟩ := h
    simp only [Go.ChangeMaps.setBlock]
    rw [Array.getElem?_setIfInBounds_ne (Ne.symm hne)]
/-- What oddNames keeps: a set at m, in a box behind it. -/
structure OdAt (W : World) (m : Nat) (S : List ByteArray) : Prop where
  bx : W.heap[m + 1]? = some (.cells #[.map (some m)] 82)
  st : SsAt W m S
theorem OdAt.next {W W' : World} {m : Nat} {S : List ByteArray} (h : OdAt W m S) (hb : Below W.heap.size W W') : OdAt W' m S :=
  ⟨(hb.block _ (Array.getElem?_eq_some_iff.1 h.bx).1).trans h.bx, h.st.next hb⟩
theorem OdAt.turned {W W' : World} {m : Nat} {S S' : List ByteArray} (h : OdAt W m S) (hs : SsAt W' m S') (ht : W.mapTurned W' m) : OdAt W' m S' := by
  refine ⟨?_, hs⟩
  obtain ⟨es, clock, es', clock', h1, rfl⟩ := ht
  simp only [Go.ChangeMaps.setBlock]
  rw [Array.getElem?_setIfInBounds_ne (by omega)]
  exact h.bx
set_option maxRecDepth 100000 in
theorem odd_any (m : Nat) (S : List ByteArray) (nm : ByteArray) (w0 W : World) (hO : OdAt W m S) (hl : S.length < 100000) (hn : nm.size ≤ maxLen) (hT : Tabs w0) (hB : Below w0.heap.size w0 W) (hm : w0.heap.size ≤ m) {b : Bool} (hb : (hasB S nm || !isName nm) = b) :
    Calls Tryz.prog 54 #[.string nm, .pointer (some ⟨m + 1, 0, none⟩)] W fun e W' => e = .returned (.bool b) ∧ OdAt W' m (S ++ [nm]) ∧ But m W W' := by
  have hlk := hO.st.look nm hn
  have hbx : W.cell? ⟨m + 1, 0, none⟩ = some (.map (some m)) := by simp [World.cell?, hO.bx]
  have hba := ba W (.cells #[] 83)
  have hO1 := hO.next hba
  have hbx1 : (W.alloc (.cells #[] 83)).cell? ⟨m + 1, 0, none⟩ = some (.map (some m)) := by simp [World.cell?, hO1.bx]
  obtain ⟨W2, hrun, hs2, ht2⟩ := hO1.st.put (by unfold maxLen; omega) nm hn
  have hmW := hO.st.lt
  have hb2 := (But.of hba (Nat.le_of_lt hmW)).trans (But.turned ht2)
  have HO2 := Lib.hid (hO1.turned hs2 ht2)
  have HB2 := Lib.hid hb2
  have HN := Lib.hid (name_any nm W2 (by unfold maxLen at hn; omega) (hT.kept (hB.trans (hb2.below.mono hm))))
  have HS2 := Lib.hid (show m ≤ W2.heap.size from Nat.le_of_lt hs2.lt)
  have hbb := Lib.hid hb
  clear hO hO1 hs2 ht2 hb2 hba hT hB hm hmW hl hn hb
  go_enter Tryz.func54, Tryz.ntmps54
  go_upto_region 3 with fail
  clear hlk hbx hbx1 hrun
  cases hh : hasB S nm
  · go_wp2_with fail
    refine HN.out.mono ?_
    rintro e W3 ⟨rfl, hb3⟩
    have HB3 := Lib.hid hb3
    clear hb3
    have HBB := Lib.hid (show (!isName nm) = b by have := hbb.out; rwa [hh, Bool.false_or] at this)
    go_wp2_with fail
    go_ret
    exact ⟨by rw [← HBB.out]; rfl, HO2.out.next HB3.out, HB2.out.trans (But.of HB3.out HS2.out)⟩
  · have HBB := Lib.hid (show true = b by have := hbb.out; rwa [hh, Bool.true_or] at this)
    go_wp2_with fail
    go_ret
    exact ⟨by rw [← HBB.out]; rfl, HO2.out, HB2.out⟩
theorem oddNames_any (W : World) : Calls Tryz.prog 33 #[] W fun e W' => e = .returned (.func (.func 54) #[] #[.pointer (some ⟨W.heap.size + 1, 0, none⟩)]) ∧ OdAt W' W.heap.size [] ∧ Below W.heap.size W W' := by
  have h1 := ba W (.map #[] 0)
  have h2 := ba (W.alloc (.map #[] 0)) (.cells #[.map (some W.heap.size)] 82)
  have HO := Lib.hid (show OdAt ((W.alloc (.map #[] 0)).alloc (.cells #[.map (some W.heap.size)] 82)) W.heap.size [] from ⟨by
    have := (MapKept.heap_alloc (W.alloc (.map #[] 0)) (.cells #[.map (some W.heap.size)] 82)).1
    rwa [World.size_alloc] at this, (SsAt.made W _ rfl).next h2⟩)
  have HB := Lib.hid (bt h1 h2)
  clear h1 h2
  have hmk := run_makeMap_plain (P := Tryz.prog) W 82
  go_enter Tryz.func33, Tryz.ntmps33
  go_wp2_with fail
  go_ret
  exact ⟨rfl, HO.out, HB.out⟩
def typeB (n : Int) : Bool := decide (1 ≤ n) && decide (n ≤ 3)
theorem isType_any (n : Int) (w : World) : Calls Tryz.prog 79 #[.int .i64 n] w fun e w' => e = .returned (.bool (typeB n)) ∧ w' = w := by
  by_cases h1 : 1 ≤ n
  · by_cases h2 : n ≤ 3
    · go_enter Tryz.func79, Tryz.ntmps79
      go_wp2_with fail
      go_ret
      exact ⟨by rw [typeB, decide_eq_true h1, decide_eq_true h2]; rfl, rfl⟩
    · go_enter Tryz.func79, Tryz.ntmps79
      go_wp2_with fail
      go_ret
      exact ⟨by rw [typeB, decide_eq_true h1, decide_eq_false (show ¬ n ≤ 3 by omega)]; rfl, rfl⟩
  · go_enter Tryz.func79, Tryz.ntmps79
    go_wp2_with fail
    go_ret
    exact ⟨by rw [typeB, decide_eq_false (show ¬ 1 ≤ n by omega)]; rfl, rfl⟩
/-- Is a column odd, when so many names were told of? -/
def oddC (S : List ByteArray) (c : Co) : Bool := hasB S c.nm || !isName c.nm || !c.tab.toList.isEmpty || !typeB c.ty
set_option maxRecDepth 100000 in
set_option maxHeartbeats 1000000 in
theorem oddCol_any (m p : Nat) (S : List ByteArray) (c : Co) (w0 W : World) (hO : OdAt W m S) (hp : W.heap[p]? = some (.cells #[.func (.func 54) #[] #[.pointer (some ⟨m + 1, 0, none⟩)]] 60)) (hl : S.length < 100000) (hn : c.nm.size ≤ maxLen) (hT : Tabs w0) (hB : Below w0.heap.size w0 W) (hm : w0.heap.size ≤ m) {b : Bool} (hb : oddC S c = b) :
    Calls Tryz.prog 78 #[coV c, .pointer (some ⟨p, 0, none⟩)] W fun e W' => e = .returned (.bool b) ∧ OdAt W' m (S ++ [c.nm]) ∧ But m W W' := by
  have eg := enters_of Tryz.func54 (by kernel_rfl) rfl
  unfold Enters at eg
  have hba := ba W (.cells #[.string c.tab, .string c.nm, .int .i64 c.ty] 57)
  have hfn : (W.alloc (.cells #[.string c.tab, .string c.nm, .int .i64 c.ty] 57)).cell? ⟨p, 0, none⟩ = some (.func (.func 54) #[] #[.pointer (some ⟨m + 1, 0, none⟩)]) := by
    rw [hba.cell (p := ⟨p, 0, none⟩) (Array.getElem?_eq_some_iff.1 hp).1]; simp [World.cell?, hp]
  have hmW := hO.st.lt
  have HBx := Lib.hid (MapKept.heap_alloc W (.cells #[.string c.tab, .string c.nm, .int .i64 c.ty] 57)).1
  obtain ⟨b1, hb1⟩ : ∃ b1, (hasB S c.nm || !isName c.nm) = b1 := ⟨_, rfl⟩
  have HC := Lib.hid (odd_any m S c.nm w0 _ (hO.next hba) hl hn hT (bt hB hba) hm hb1)
  have HB0 := Lib.hid (But.of hba (Nat.le_of_lt hmW))
  have HmW := Lib.hid hmW
  have HbW := Lib.hid hba
  have HD := Lib.hid (show (b1 || !c.tab.toList.isEmpty || !typeB c.ty) = b by rw [← hb1]; exact hb)
  obtain ⟨nt, nn, ny⟩ := c
  clear hO hp hl hn hT hB hm hb hba hmW hb1
  simp only at HBx HC HB0 HbW hfn HD ⊢
  obtain ⟨x0, x1, x2⟩ : (W.alloc (.cells #[.string nt, .string nn, .int .i64 ny] 57)).cell? ⟨W.heap.size, 0, none⟩ = some (.string nt) ∧ (W.alloc (.cells #[.string nt, .string nn, .int .i64 ny] 57)).cell? ⟨W.heap.size, 1, none⟩ = some (.string nn) ∧ (W.alloc (.cells #[.string nt, .string nn, .int .i64 ny] 57)).cell? ⟨W.heap.size, 2, none⟩ = some (.int .i64 ny) := by
    refine ⟨?_, ?_, ?_⟩ <;> simp
  go_enter Tryz.func78, Tryz.ntmps78
  go_wp2_with fail
  refine HC.out.mono ?_
  rintro e W3 ⟨rfl, hO3, hb3⟩
  have HO3 := Lib.hid hO3
  have HB3 := Lib.hid (HB0.out.trans hb3)
  cases b1
  · have hx : W3.heap[W.heap.size]? = some (.cells #[.string nt, .string nn, .int .i64 ny] 57) := by
      rw [hb3.block _ (by simp) (by have := HmW.out; omega)]; exact HBx.out
    obtain ⟨y0, y1, y2⟩ : W3.cell? ⟨W.heap.size, 0, none⟩ = some (.string nt) ∧ W3.cell? ⟨W.heap.size, 1, none⟩ = some (.string nn) ∧ W3.cell? ⟨W.heap.size, 2, none⟩ = some (.int .i64 ny) := by
      refine ⟨?_, ?_, ?_⟩ <;> simp [World.cell?, hx]
    have hD := HD.out
    rw [Bool.false_or] at hD
    clear hx x0 x1 x2 hO3 hb3 HBx HbW
    cases ht : nt.toList.isEmpty
    · have hne : (nt.toList == []) = false := by rw [← ht]; cases nt.toList <;> rfl
      have HDD := Lib.hid (show true = b by rw [ht] at hD; exact hD)
      clear hD
      go_wp2_with fail
      go_ret
      exact ⟨by rw [← HDD.out]; rfl, HO3.out, HB3.out⟩
    · have htl : nt.toList = [] := List.isEmpty_iff.1 ht
      have HDD := Lib.hid (show (!typeB ny) = b by rw [ht] at hD; exact hD)
      clear hD
      go_wp2_with fail
      refine (isType_any ny _).mono ?_
      rintro e W4 ⟨rfl, rfl⟩
      go_wp2_with fail
      go_ret
      exact ⟨by rw [← HDD.out]; rfl, HO3.out, HB3.out⟩
  · have HDD := Lib.hid (show true = b by have := HD.out; rwa [Bool.true_or, Bool.true_or] at this)
    go_wp2_with fail
    go_ret
    exact ⟨by rw [← HDD.out]; rfl, HO3.out, HB3.out⟩
end Go.Proofs.YtmjckdgomlppeaaGreatDoor
end
section
namespace Go.Proofs.YtmjckdgomlppeaaGreatDoor
open Go.RowKit Go.Shelf
attribute [local go_sem] Oper.semAt_some

/-- Is the column at a place odd behind those ahead of it? -/
def oddAt (l : List Co) (i : Nat) : Bool := oddC ((l.take i).map Co.nm) (l.getD i zCo)
def oddsB (l : List Co) : Bool := (List.range l.length).any (oddAt l)
def colsB (l : List Co) : Bool := decide (1 ≤ l.length) && decide (l.length ≤ 16) && !oddsB l
theorem oddsB_no {l : List Co} (h : ∀ i, i < l.length → oddAt l i = false) : oddsB l = false := by
  unfold oddsB
  rw [List.any_eq_false]
  intro i hi
  rw [h i (List.mem_range.1 hi)]; simp
theorem oddsB_yes {l : List Co} {j : Nat} (hj : j < l.length) (h : oddAt l j = true) : oddsB l = true :=
  List.any_eq_true.2 ⟨j, List.mem_range.2 hj, h⟩
abbrev oddFn (m : Nat) : Value := .func (.func 54) #[] #[.pointer (some ⟨m + 1, 0, none⟩)]
abbrev fbox (m : Nat) : Obj := .cells #[oddFn m] 60
/-- What an index over columns finds. -/
def IdxO (l : List Co) (m : Nat) (w : World) (e : Ending) (w' : World) : Prop :=
  ∃ i : Int, e = .returned (.int .i64 i) ∧ But m w w' ∧ ((i = -1 ∧ oddsB l = false) ∨ (∃ j : Nat, i = j ∧ oddsB l = true))
set_option maxRecDepth 100000 in
set_option maxHeartbeats 1000000 in
theorem indexOddC_any (m p : Nat) (A : Option Addr) (c : Nat) (l : List Co) (w0 w : World) (h : CoAt w0 A l) (hl : l.length ≤ 1000) (hO : OdAt w m []) (hp : w.heap[p]? = some (fbox m)) (hpm : p ≠ m) (hn : ∀ x ∈ l, x.nm.size ≤ maxLen) (hT : Tabs w0) (hB : Below w0.heap.size w0 w) (hm : w0.heap.size ≤ m) :
    Calls Tryz.prog 103 #[.slice A l.length c, .func (.func 78) #[] #[.pointer (some ⟨p, 0, none⟩)]] w (IdxO l m w) := by
  have eg := enters_of Tryz.func78 (by kernel_rfl) rfl
  unfold Enters at eg
  have HH := Lib.hid h
  have HNn := Lib.hid hn
  have HT := Lib.hid hT
  have HB := Lib.hid hB
  have HP := Lib.hid hp
  have HPl := Lib.hid (Array.getElem?_eq_some_iff.1 hp).1
  have HPm := Lib.hid hpm
  have Hm := Lib.hid hm
  have HO := Lib.hid hO
  clear h hn hT hB hp hpm hm hO
  go_enter Tryz.func103, Tryz.ntmps103
  go_wp2_with fail
  go_loopw [8] (fun i wr => ∃ j : Nat, j ≤ l.length ∧ i = .int .i64 j ∧ Hid (But m w wr) ∧ Hid (OdAt wr m ((l.take j).map Co.nm)) ∧ Hid (∀ i, i < j → oddAt l i = false)) (fun i _ => l.length - (intOf i).toNat)
  case atStart => exact ⟨0, Nat.zero_le _, rfl, Lib.hid (But.refl _ _), HO, Lib.hid (fun i hi => absurd hi (by omega))⟩
  case round =>
    obtain ⟨j, hj, rfl, HBu, HOd, HNo⟩ := hrel
    have HBw := Lib.hid (HB.out.trans (HBu.out.below.mono Hm.out))
    by_cases hlt : j < l.length
    · obtain ⟨b, off, rfl, hb, c0, c1, c2⟩ := (HH.out.kept HBw.out).at hlt
      obtain ⟨v, hv⟩ : ∃ v, l[j] = v := ⟨_, rfl⟩
      rw [hv] at c0 c1 c2
      have HGd := Lib.hid (show l.getD j zCo = v by rw [List.getD_eq_getElem?_getD, List.getElem?_eq_getElem hlt, hv]; rfl)
      have HTk := Lib.hid (show (l.take (j + 1)).map Co.nm = (l.take j).map Co.nm ++ [v.nm] by rw [List.take_succ_eq_append_getElem hlt, List.map_append, hv]; rfl)
      obtain ⟨bq, hbq⟩ : ∃ bq, oddC ((l.take j).map Co.nm) v = bq := ⟨_, rfl⟩
      have HC := Lib.hid (oddCol_any m p _ v w0 wr HOd.out ((HBu.out.block p HPl.out HPm.out).trans HP.out) (by rw [List.length_map, List.length_take]; omega) (HNn.out v (by rw [← hv]; exact List.getElem_mem hlt)) HT.out HBw.out Hm.out hbq)
      have HAt := Lib.hid (show oddAt l j = bq by unfold oddAt; rw [HGd.out]; exact hbq)
      obtain ⟨vt, vn, vy⟩ := v
      clear hv hbq hb
      cases bq
      · go_wp2_with fail
        refine HC.out.mono ?_
        rintro e w1 ⟨rfl, hO1, hb1⟩
        have HO1 := Lib.hid (show OdAt w1 m ((l.take (j + 1)).map Co.nm) by rw [HTk.out]; exact hO1)
        have HB1 := Lib.hid (HBu.out.trans hb1)
        have HN1 := Lib.hid (fun i (hi : i < j + 1) => by
          rcases Nat.lt_or_ge i j with h | h
          · exact HNo.out i h
          · obtain rfl : i = j := by omega
            exact HAt.out)
        clear hO1 hb1
        go_wp2_with fail
        go_roundw
        case rel => exact ⟨j + 1, by omega, by go_num, HB1, HO1, HN1⟩
        case measure => simp [intOf]; omega
      · go_wp2_with fail
        refine HC.out.mono ?_
        rintro e w1 ⟨rfl, hO1, hb1⟩
        have HB1 := Lib.hid (HBu.out.trans hb1)
        have HY := Lib.hid (oddsB_yes hlt HAt.out)
        clear hO1 hb1
        go_wp2_with fail
        go_ret
        exact ⟨j, rfl, HB1.out, .inr ⟨j, rfl, HY.out⟩⟩
    · have HE := Lib.hid (oddsB_no (l := l) fun i hi => HNo.out i (by omega))
      go_wp2_with fail
      go_ret
      exact ⟨-1, rfl, HBu.out, .inl ⟨rfl, HE.out⟩⟩
set_option maxRecDepth 100000 in
theorem containsOdd_any (m p : Nat) (A : Option Addr) (c : Nat) (l : List Co) (w0 w : World) (h : CoAt w0 A l) (hl : l.length ≤ 1000) (hO : OdAt w m []) (hp : w.heap[p]? = some (fbox m)) (hpm : p ≠ m) (hn : ∀ x ∈ l, x.nm.size ≤ maxLen) (hT : Tabs w0) (hB : Below w0.heap.size w0 w) (hm : w0.heap.size ≤ m) {q : Bool} (hq : oddsB l = q) :
    Calls Tryz.prog 80 #[.slice A l.length c, .func (.func 78) #[] #[.pointer (some ⟨p, 0, none⟩)]] w fun e w' => e = .returned (.bool q) ∧ But m w w' := by
  have HI := Lib.hid (indexOddC_any m p A c l w0 w h hl hO hp hpm hn hT hB hm)
  have HQ := Lib.hid hq
  clear h hO hp hpm hn hT hB hm hq
  go_enter Tryz.func80, Tryz.ntmps80
  go_wp2_with fail
  refine HI.out.mono ?_
  rintro e w1 ⟨i, rfl, hb1, hi⟩
  have HB := Lib.hid hb1
  rcases hi with ⟨rfl, ha⟩ | ⟨j, rfl, ha⟩
  · obtain rfl : false = q := by rw [← HQ.out, ha]
    clear hb1 ha
    go_wp2_with fail
    go_ret
    exact ⟨rfl, HB.out⟩
  · obtain rfl : true = q := by rw [← HQ.out, ha]
    clear hb1 ha
    go_wp2_with fail
    go_ret
    exact ⟨rfl, HB.out⟩
set_option maxRecDepth 100000 in
theorem areColumns_any (A : Option Addr) (c : Nat) (l : List Co) (w : World) (h : CoAt w A l) (hl : l.length ≤ 9223372036854775807) (hn : ∀ x ∈ l, x.nm.size ≤ maxLen) (hT : Tabs w) {q : Bool} (hq : colsB l = q) :
    Calls Tryz.prog 56 #[.slice A l.length c] w fun e w' => e = .returned (.bool q) ∧ Below w.heap.size w w' := by
  have HH := Lib.hid h
  have HN := Lib.hid hn
  have HT := Lib.hid hT
  have HQ := Lib.hid hq
  clear h hn hT hq
  go_enter Tryz.func56, Tryz.ntmps56
  go_wp2_with fail
  refine (oddNames_any w).mono ?_
  rintro e w1 ⟨rfl, hO1, hb1⟩
  have hb2 := ba w1 (fbox w.heap.size)
  have HO2 := Lib.hid (hO1.next hb2)
  have HF2 := Lib.hid (MapKept.heap_alloc w1 (fbox w.heap.size)).1
  have HB2 := Lib.hid (bt hb1 hb2)
  have HS := Lib.hid (show w1.heap.size ≠ w.heap.size by have := hO1.st.lt; omega)
  clear hO1 hb1 hb2
  by_cases h1 : 1 ≤ l.length
  · by_cases h2 : l.length ≤ 16
    · obtain ⟨qo, hqo⟩ : ∃ qo, oddsB l = qo := ⟨_, rfl⟩
      have HC := Lib.hid (containsOdd_any w.heap.size w1.heap.size A c l w _ HH.out (by omega) HO2.out HF2.out HS.out HN.out HT.out HB2.out (Nat.le_refl _) hqo)
      have HQ2 := Lib.hid (show (!qo) = q by have := HQ.out; rw [colsB, decide_eq_true h1, decide_eq_true h2, hqo] at this; simpa using this)
      have h1' : (1 : Int) ≤ (l.length : Int) := by omega
      have h2' : (l.length : Int) ≤ 16 := by omega
      clear hqo h1 h2 HQ
      go_upto_region 3 with fail
      generalize w1.alloc (.cells #[oddFn w.heap.size] 60) = W2 at HC HB2 ⊢
      generalize w1.heap.size = p at HC ⊢
      clear HO2 HF2
      go_wp2_with fail
      refine HC.out.mono ?_
      rintro e w3 ⟨rfl, hb3⟩
      have HB3 := Lib.hid (HB2.out.trans hb3.below)
      clear hb3
      go_wp2_with fail
      go_ret
      exact ⟨by rw [← HQ2.out]; rfl, HB3.out⟩
    · obtain rfl : false = q := by rw [← HQ.out, colsB, decide_eq_false h2, Bool.and_false, Bool.false_and]
      have h1' : (1 : Int) ≤ (l.length : Int) := by omega
      have h2' : ¬ (l.length : Int) ≤ 16 := by omega
      clear h1 h2
      go_wp2_with fail
      go_ret
      exact ⟨rfl, HB2.out⟩
  · obtain rfl : false = q := by rw [← HQ.out, colsB, decide_eq_false h1, Bool.false_and, Bool.false_and]
    have h1' : ¬ (1 : Int) ≤ (l.length : Int) := by omega
    clear h1
    go_wp2_with fail
    go_ret
    exact ⟨rfl, HB2.out⟩
end Go.Proofs.YtmjckdgomlppeaaGreatDoor
end
section
namespace Go.Proofs.YtmjckdgomlppeaaGreatDoor
open Go.RowKit Go.Shelf
attribute [local go_sem] Oper.semAt_some

/-- Is a value of a column's type, or null? -/
def kindOk (cols : List Co) (r : List Va) (i : Nat) : Bool := ((r.getD i nullA).k == 0) || ((r.getD i nullA).k == (cols.getD i zCo).ty)
def fitT (cols : List Co) (r : List Va) : Bool := decide (r.length = cols.length) && okR r && (List.range r.length).all (kindOk cols r)
theorem fitT_len {cols : List Co} {r : List Va} (h : r.length ≠ cols.length) : fitT cols r = false := by rw [fitT, decide_eq_false h]; rfl
theorem fitT_bad {cols : List Co} {r : List Va} (h : okR r = false) : fitT cols r = false := by rw [fitT, h]; simp
theorem fitT_no {cols : List Co} {r : List Va} {j : Nat} (hj : j < r.length) (h : kindOk cols r j = false) : fitT cols r = false := by
  have : (List.range r.length).all (kindOk cols r) = false := by
    rw [List.all_eq_false]
    exact ⟨j, List.mem_range.2 hj, by rw [h]; simp⟩
  rw [fitT, this, Bool.and_false]
theorem fitT_yes {cols : List Co} {r : List Va} (h1 : r.length = cols.length) (h2 : okR r = true) (h3 : ∀ i, i < r.length → kindOk cols r i = true) : fitT cols r = true := by
  have : (List.range r.length).all (kindOk cols r) = true := List.all_eq_true.2 fun i hi => h3 i (List.mem_range.1 hi)
  rw [fitT, this, h2, decide_eq_true h1]; rfl
theorem okR_32 {r : List Va} (h : okR r = true) : r.length ≤ 32 := (okR_parts h).1
set_option maxRecDepth 100000 in
set_option maxHeartbeats 4000000 in
theorem cfits_any (A B : Option Addr) (c d : Nat) (cols : List Co) (r : List Va) (w : World) (hC : CoAt w A cols) (hR : RowAt w B r) (hf : Fine r) (hl : r.length ≤ 9223372036854775807) {q : Bool} (hq : fitT cols r = q) :
    Calls Tryz.prog 22 #[.slice A cols.length c, .slice B r.length d] w fun e w' => e = .returned (.bool q) ∧ Below w.heap.size w w' := by
  obtain ⟨b, hb⟩ : ∃ b, okR r = b := ⟨_, rfl⟩
  have HK := Lib.hid (rowCheck_b b B d r w hR hf hl hb)
  have HC := Lib.hid hC
  have HR := Lib.hid hR
  have HQ := Lib.hid hq
  have HOk := Lib.hid hb
  clear hC hR hf hq hb
  by_cases hlen : r.length = cols.length
  · have hne : ((r.length : Int) != (cols.length : Int)) = false := by rw [bne_eq_false_iff_eq]; omega
    have HLn := Lib.hid hlen
    clear hlen
    cases b
    · obtain rfl : false = q := by rw [← HQ.out, fitT_bad HOk.out]
      go_enter Tryz.func22, Tryz.ntmps22
      go_wp2_with fail
      refine HK.out.mono ?_
      rintro e w1 ⟨rfl, hb1⟩
      have HB1 := Lib.hid hb1
      clear hb1
      go_wp2_with fail
      go_ret
      exact ⟨rfl, HB1.out⟩
    · have H32 := Lib.hid (okR_32 HOk.out)
      go_enter Tryz.func22, Tryz.ntmps22
      go_wp2_with fail
      refine HK.out.mono ?_
      rintro e w1 ⟨rfl, hb1⟩
      have HB1 := Lib.hid hb1
      clear hb1 hne HK
      go_wp2_with fail
      go_loopw [19] (fun i wr => ∃ j : Nat, j ≤ r.length ∧ i = .int .i64 j ∧ Hid (Below w.heap.size w wr) ∧ Hid (∀ i, i < j → kindOk cols r i = true)) (fun i _ => r.length - (intOf i).toNat)
      case atStart => exact ⟨0, Nat.zero_le _, rfl, HB1, Lib.hid (fun i hi => absurd hi (by omega))⟩
      case round =>
        obtain ⟨j, hj, rfl, HB, HNo⟩ := hrel
        by_cases hlt : j < r.length
        · obtain ⟨b1, off1, rfl, hbl1, c0, c1, c2⟩ := (HR.out.kept HB.out).at hlt
          obtain ⟨b2, off2, rfl, hbl2, d0, d1, d2⟩ := (HC.out.kept HB.out).at (by rw [← HLn.out]; exact hlt)
          have HKo := Lib.hid (show kindOk cols r j = ((r[j].k == 0) || (r[j].k == (cols[j]'(by rw [← HLn.out]; exact hlt)).ty)) by
            unfold kindOk
            rw [List.getD_eq_getElem?_getD, List.getD_eq_getElem?_getD, List.getElem?_eq_getElem hlt, List.getElem?_eq_getElem (show j < cols.length by rw [← HLn.out]; exact hlt)]
            rfl)
          generalize (cols[j]'(by rw [← HLn.out]; exact hlt)).ty = ty at HKo d2
          generalize r[j] = v at HKo c0 c1 c2
          obtain ⟨vk, vn, vs⟩ := v
          simp only at HKo c0 c1 c2
          have hjI : (j : Int) < (r.length : Int) := by omega
          have hjC : (j : Int) < (cols.length : Int) := by have := HLn.out; omega
          have hj0 : 0 ≤ (j : Int) := Int.natCast_nonneg _
          have hba := ba wr (.cells #[.int .i64 vk, .int .i64 vn, .string vs] 69)
          have d2' := (hba.cell (p := ⟨b2, off2 + j * 3 + 2, none⟩) hbl2).trans d2
          have HB2 := Lib.hid (bt HB.out (bt hba (Below.drew (Below.refl _ _))))
          have HN2 := Lib.hid (fun (h : kindOk cols r j = true) i (hi : i < j + 1) => by
            rcases Nat.lt_or_ge i j with h' | h'
            · exact HNo.out i h'
            · obtain rfl : i = j := by omega
              exact h)
          clear hba d0 d1
          by_cases hk0 : vk = 0
          · have HY := Lib.hid (HN2.out (by rw [HKo.out, hk0]; rfl))
            have hkb : (vk != 0) = false := by rw [hk0]; rfl
            clear hk0 hlt
            go_wp2_with fail
            go_region
            all_goals
              go_wp2_with fail
              go_roundw
              case rel => exact ⟨j + 1, by omega, by go_num, HB2, HY⟩
              case measure => simp [intOf]; omega
          · by_cases hkt : vk = ty
            · have HY := Lib.hid (HN2.out (by rw [HKo.out, hkt]; simp))
              have hkb : (vk != 0) = true := by rw [bne_iff_ne]; exact hk0
              have hkc : (vk != ty) = false := by rw [hkt]; simp
              clear hk0 hkt hlt
              go_wp2_with fail
              go_region
              all_goals
                go_wp2_with fail
                go_roundw
                case rel => exact ⟨j + 1, by omega, by go_num, HB2, HY⟩
                case measure => simp [intOf]; omega
            · obtain rfl : false = q := by rw [← HQ.out, fitT_no hlt (by rw [HKo.out]; simp [hk0, hkt])]
              have hkb : (vk != 0) = true := by rw [bne_iff_ne]; exact hk0
              have hkc : (vk != ty) = true := by rw [bne_iff_ne]; exact hkt
              clear hk0 hkt hlt
              go_wp2_with fail
              go_region
              all_goals
                go_wp2_with fail
                go_ret
                exact ⟨rfl, HB2.out⟩
        · obtain rfl : true = q := by rw [← HQ.out, fitT_yes HLn.out HOk.out fun i hi => HNo.out i (by omega)]
          go_wp2_with fail
          go_ret
          exact ⟨rfl, HB.out⟩
  · obtain rfl : false = q := by rw [← HQ.out, fitT_len hlen]
    have hne : ((r.length : Int) != (cols.length : Int)) = true := by rw [bne_iff_ne]; omega
    go_enter Tryz.func22, Tryz.ntmps22
    go_wp2_with fail
    go_ret
    exact ⟨rfl, Below.refl _ _⟩
set_option maxRecDepth 100000 in
set_option maxHeartbeats 4000000 in
theorem rcfits_any (A B : Option Addr) (c d : Nat) (cols : List Co) (r : List Va) (w : World) (hC : CoAt w A cols) (hR : RowAt w B r) (hf : Fine r) (hl : r.length ≤ 9223372036854775807) {q : Bool} (hq : fitT cols r = q) :
    Calls Tryz.prog 23 #[.slice A cols.length c, .slice B r.length d] w fun e w' => e = .returned (.bool q) ∧ Below w.heap.size w w' := by
  obtain ⟨b, hb⟩ : ∃ b, okR r = b := ⟨_, rfl⟩
  have HK := Lib.hid (refRowCheck_any B d r w hR hf hl)
  rw [hb] at HK
  have HC := Lib.hid hC
  have HR := Lib.hid hR
  have HQ := Lib.hid hq
  have HOk := Lib.hid hb
  clear hC hR hf hq hb
  by_cases hlen : r.length = cols.length
  · have hne : ((r.length : Int) != (cols.length : Int)) = false := by rw [bne_eq_false_iff_eq]; omega
    have HLn := Lib.hid hlen
    clear hlen
    cases b
    · obtain rfl : false = q := by rw [← HQ.out, fitT_bad HOk.out]
      go_enter Tryz.func23, Tryz.ntmps23
      go_wp2_with fail
      refine HK.out.mono ?_
      rintro e w1 ⟨rfl, hb1⟩
      have HB1 := Lib.hid hb1
      clear hb1
      go_wp2_with fail
      go_ret
      exact ⟨rfl, HB1.out⟩
    · have H32 := Lib.hid (okR_32 HOk.out)
      go_enter Tryz.func23, Tryz.ntmps23
      go_wp2_with fail
      refine HK.out.mono ?_
      rintro e w1 ⟨rfl, hb1⟩
      have HB1 := Lib.hid hb1
      clear hb1 hne HK
      go_wp2_with fail
      go_loopw [5] (fun i wr => ∃ j : Nat, j ≤ r.length ∧ i = .int .i64 j ∧ Hid (Below w.heap.size w wr) ∧ Hid (∀ i, i < j → kindOk cols r i = true)) (fun i _ => r.length - (intOf i).toNat)
      case atStart => exact ⟨0, Nat.zero_le _, rfl, HB1, Lib.hid (fun i hi => absurd hi (by omega))⟩
      case round =>
        obtain ⟨j, hj, rfl, HB, HNo⟩ := hrel
        by_cases hlt : j < r.length
        · obtain ⟨b1, off1, rfl, hbl1, c0, c1, c2⟩ := (HR.out.kept HB.out).at hlt
          obtain ⟨b2, off2, rfl, hbl2, d0, d1, d2⟩ := (HC.out.kept HB.out).at (by rw [← HLn.out]; exact hlt)
          have HKo := Lib.hid (show kindOk cols r j = ((r[j].k == 0) || (r[j].k == (cols[j]'(by rw [← HLn.out]; exact hlt)).ty)) by
            unfold kindOk
            rw [List.getD_eq_getElem?_getD, List.getD_eq_getElem?_getD, List.getElem?_eq_getElem hlt, List.getElem?_eq_getElem (show j < cols.length by rw [← HLn.out]; exact hlt)]
            rfl)
          generalize (cols[j]'(by rw [← HLn.out]; exact hlt)).ty = ty at HKo d2
          generalize r[j] = v at HKo c0 c1 c2
          obtain ⟨vk, vn, vs⟩ := v
          simp only at HKo c0 c1 c2
          have hjI : (j : Int) < (r.length : Int) := by omega
          have hjC : (j : Int) < (cols.length : Int) := by have := HLn.out; omega
          have hj0 : 0 ≤ (j : Int) := Int.natCast_nonneg _
          have HB2 := Lib.hid (bt HB.out (Below.drew (Below.refl _ _)))
          have HN2 := Lib.hid (fun (h : kindOk cols r j = true) i (hi : i < j + 1) => by
            rcases Nat.lt_or_ge i j with h' | h'
            · exact HNo.out i h'
            · obtain rfl : i = j := by omega
              exact h)
          clear d0 d1
          by_cases hk0 : vk = 0
          · have HY := Lib.hid (HN2.out (by rw [HKo.out, hk0]; rfl))
            have hkb : (vk != 0) = false := by rw [hk0]; rfl
            clear hk0 hlt
            go_wp2_with fail
            go_region
            all_goals
              go_wp2_with fail
              go_roundw
              case rel => exact ⟨j + 1, by omega, by go_num, HB2, HY⟩
              case measure => simp [intOf]; omega
          · by_cases hkt : vk = ty
            · have HY := Lib.hid (HN2.out (by rw [HKo.out, hkt]; simp))
              have hkb : (vk != 0) = true := by rw [bne_iff_ne]; exact hk0
              have hkc : (vk != ty) = false := by rw [hkt]; simp
              clear hk0 hkt hlt
              go_wp2_with fail
              go_region
              all_goals
                go_wp2_with fail
                go_roundw
                case rel => exact ⟨j + 1, by omega, by go_num, HB2, HY⟩
                case measure => simp [intOf]; omega
            · obtain rfl : false = q := by rw [← HQ.out, fitT_no hlt (by rw [HKo.out]; simp [hk0, hkt])]
              have hkb : (vk != 0) = true := by rw [bne_iff_ne]; exact hk0
              have hkc : (vk != ty) = true := by rw [bne_iff_ne]; exact hkt
              clear hk0 hkt hlt
              go_wp2_with fail
              go_region
              all_goals
                go_wp2_with fail
                go_ret
                exact ⟨rfl, HB2.out⟩
        · obtain rfl : true = q := by rw [← HQ.out, fitT_yes HLn.out HOk.out fun i hi => HNo.out i (by omega)]
          go_wp2_with fail
          go_ret
          exact ⟨rfl, HB.out⟩
  · obtain rfl : false = q := by rw [← HQ.out, fitT_len hlen]
    have hne : ((r.length : Int) != (cols.length : Int)) = true := by rw [bne_iff_ne]; omega
    go_enter Tryz.func23, Tryz.ntmps23
    go_wp2_with fail
    go_ret
    exact ⟨rfl, Below.refl _ _⟩
end Go.Proofs.YtmjckdgomlppeaaGreatDoor
end
section
namespace Go.Proofs.YtmjckdgomlppeaaGreatDoor
open Go.RowKit Go.Shelf
attribute [local go_sem] Oper.semAt_some

def oddR (cols : List Co) (r : List Va) : Bool := !fitT cols r || decide (253 < 1 + sumV r)
def rowsB (cols : List Co) (rs : List (List Va)) : Bool := decide (rs.length ≤ 4096) && !rs.any (oddR cols)
theorem fitT_ok {cols : List Co} {r : List Va} (h : fitT cols r = true) : okR r = true := by
  rw [fitT, Bool.and_eq_true, Bool.and_eq_true] at h
  exact h.1.2
set_option maxRecDepth 100000 in
theorem oddRow_any (p : Nat) (A B : Option Addr) (c d : Nat) (cols : List Co) (r : List Va) (w : World) (hp : w.cell? ⟨p, 0, none⟩ = some (.slice A cols.length c)) (hC : CoAt w A cols) (hR : RowAt w B r) (hf : Fine r) (hl : r.length ≤ 9223372036854775807) {q : Bool} (hq : oddR cols r = q) :
    Calls Tryz.prog 81 #[.slice B r.length d, .pointer (some ⟨p, 0, none⟩)] w fun e w' => e = .returned (.bool q) ∧ Below w.heap.size w w' := by
  obtain ⟨b, hb⟩ : ∃ b, fitT cols r = b := ⟨_, rfl⟩
  have HK := Lib.hid (cfits_any A B c d cols r w hC hR hf hl hb)
  have HR := Lib.hid hR
  have HF := Lib.hid hf
  have HB := Lib.hid hb
  have HQ := Lib.hid hq
  clear hC hR hf hl hb hq
  cases b
  · obtain rfl : true = q := by rw [← HQ.out, oddR, HB.out]; rfl
    go_enter Tryz.func81, Tryz.ntmps81
    go_wp2_with fail
    refine HK.out.mono ?_
    rintro e w1 ⟨rfl, hb1⟩
    have HB1 := Lib.hid hb1
    clear hb1
    go_wp2_with fail
    go_ret
    exact ⟨rfl, HB1.out⟩
  · have HQ2 := Lib.hid (show decide (253 < 1 + sumV r) = q by rw [← HQ.out, oddR, HB.out]; rfl)
    have HS := Lib.hid (fun w1 (hb1 : Below w.heap.size w w1) => size_any B d r w1 (HR.out.kept hb1) HF.out (fitT_ok HB.out))
    obtain ⟨n, hn⟩ : ∃ n, 1 + sumV r = n := ⟨_, rfl⟩
    have HN : ((1 : Int) + (sumV r : Int)) = (n : Int) := by omega
    rw [hn] at HQ2
    rw [HN] at HS
    clear hn HN HQ
    go_enter Tryz.func81, Tryz.ntmps81
    go_wp2_with fail
    refine HK.out.mono ?_
    rintro e w1 ⟨rfl, hb1⟩
    have HB1 := Lib.hid hb1
    clear hb1
    go_wp2_with fail
    refine (HS.out w1 HB1.out).mono ?_
    rintro e w2 ⟨rfl, hb2⟩
    have HB2 := Lib.hid (bt HB1.out hb2)
    clear hb2
    by_cases hlt : 253 < n
    · obtain rfl : true = q := by rw [← HQ2.out, decide_eq_true hlt]
      have hI : decide ((253 : Int) < (n : Int)) = true := decide_eq_true (by omega)
      clear hlt
      go_wp2_with fail
      go_ret
      exact ⟨rfl, HB2.out⟩
    · obtain rfl : false = q := by rw [← HQ2.out, decide_eq_false hlt]
      have hI : decide ((253 : Int) < (n : Int)) = false := decide_eq_false (by omega)
      clear hlt
      go_wp2_with fail
      go_ret
      exact ⟨rfl, HB2.out⟩
/-- What an index over rows finds. -/
def IdxR (q : List Va → Bool) (l : List (List Va)) (w : World) (e : Ending) (w' : World) : Prop :=
  ∃ i : Int, e = .returned (.int .i64 i) ∧ Below w.heap.size w w' ∧ ((i = -1 ∧ l.any q = false) ∨ (∃ j : Nat, i = j ∧ l.any q = true))
theorem any_no {α : Type} {q : α → Bool} {l : List α} (h : ∀ i (hi : i < l.length), q l[i] = false) : l.any q = false := by
  rw [List.any_eq_false]
  intro x hx
  obtain ⟨i, hi, rfl⟩ := List.mem_iff_getElem.1 hx
  rw [h i hi]; simp
theorem any_yes {α : Type} {q : α → Bool} {l : List α} {j : Nat} (hj : j < l.length) (h : q l[j] = true) : l.any q = true := List.any_eq_true.2 ⟨_, List.getElem_mem hj, h⟩
set_option maxRecDepth 100000 in
set_option maxHeartbeats 1000000 in
theorem indexRow_any (p : Nat) (A B : Option Addr) (c d : Nat) (cols : List Co) (rs : List (List Va)) (w : World) (hp : w.cell? ⟨p, 0, none⟩ = some (.slice A cols.length c)) (hC : CoAt w A cols) (hR : RowsAt w B rs) (hf : ∀ r ∈ rs, Fine r) (hl : ∀ r ∈ rs, r.length ≤ 9223372036854775807) (hrl : rs.length ≤ 9223372036854775807) :
    Calls Tryz.prog 105 #[.slice B rs.length d, .func (.func 81) #[] #[.pointer (some ⟨p, 0, none⟩)]] w (IdxR (oddR cols) rs w) := by
  have eg := enters_of Tryz.func81 (by kernel_rfl) rfl
  unfold Enters at eg
  have HP := Lib.hid (fun W (hb : Below w.heap.size w W) => (hb.cell (p := ⟨p, 0, none⟩) (World.block_lt_of_cell? w _ hp)).trans hp)
  have HC := Lib.hid hC
  have HR := Lib.hid hR
  have HF := Lib.hid hf
  have HL := Lib.hid hl
  clear hp hC hR hf hl
  go_enter Tryz.func105, Tryz.ntmps105
  go_wp2_with fail
  go_loopw [8] (fun i wr => ∃ j : Nat, j ≤ rs.length ∧ i = .int .i64 j ∧ Hid (Below w.heap.size w wr) ∧ Hid (∀ i (hi : i < rs.length), i < j → oddR cols rs[i] = false)) (fun i _ => rs.length - (intOf i).toNat)
  case atStart => exact ⟨0, Nat.zero_le _, rfl, Lib.hid (Below.refl _ _), Lib.hid (fun i hi h => absurd h (by omega))⟩
  case round =>
    obtain ⟨j, hj, rfl, HB, HNo⟩ := hrel
    by_cases hlt : j < rs.length
    · obtain ⟨b, off, rfl, hb, A', c', c0, hrow, _, _⟩ := HR.out.at HB.out hlt
      obtain ⟨q, hq⟩ : ∃ q, oddR cols rs[j] = q := ⟨_, rfl⟩
      have HCl := Lib.hid (oddRow_any p A A' c c' cols rs[j] wr (HP.out wr HB.out) (HC.out.kept HB.out) hrow (HF.out _ (List.getElem_mem hlt)) (HL.out _ (List.getElem_mem hlt)) hq)
      have HQ := Lib.hid hq
      generalize (rs[j]).length = n at c0 HCl
      clear hq hrow hb
      cases q
      · go_wp2_with fail
        refine HCl.out.mono ?_
        rintro e w1 ⟨rfl, hb1⟩
        have HB1 := Lib.hid (bt HB.out hb1)
        have HN1 := Lib.hid (fun i (hi : i < rs.length) (h : i < j + 1) => by
          rcases Nat.lt_or_ge i j with h' | h'
          · exact HNo.out i hi h'
          · obtain rfl : i = j := by omega
            exact HQ.out)
        clear hb1
        go_wp2_with fail
        go_roundw
        case rel => exact ⟨j + 1, by omega, by go_num, HB1, HN1⟩
        case measure => simp [intOf]; omega
      · go_wp2_with fail
        refine HCl.out.mono ?_
        rintro e w1 ⟨rfl, hb1⟩
        have HB1 := Lib.hid (bt HB.out hb1)
        have HY := Lib.hid (any_yes hlt HQ.out)
        clear hb1
        go_wp2_with fail
        go_ret
        exact ⟨j, rfl, HB1.out, .inr ⟨j, rfl, HY.out⟩⟩
    · have HE := Lib.hid (any_no (q := oddR cols) (l := rs) fun i hi => HNo.out i hi (by omega))
      go_wp2_with fail
      go_ret
      exact ⟨-1, rfl, HB.out, .inl ⟨rfl, HE.out⟩⟩
set_option maxRecDepth 100000 in
theorem containsRow_any (p : Nat) (A B : Option Addr) (c d : Nat) (cols : List Co) (rs : List (List Va)) (w : World) (hp : w.cell? ⟨p, 0, none⟩ = some (.slice A cols.length c)) (hC : CoAt w A cols) (hR : RowsAt w B rs) (hf : ∀ r ∈ rs, Fine r) (hl : ∀ r ∈ rs, r.length ≤ 9223372036854775807) (hrl : rs.length ≤ 9223372036854775807) {q : Bool} (hq : rs.any (oddR cols) = q) :
    Calls Tryz.prog 83 #[.slice B rs.length d, .func (.func 81) #[] #[.pointer (some ⟨p, 0, none⟩)]] w fun e w' => e = .returned (.bool q) ∧ Below w.heap.size w w' := by
  have HI := Lib.hid (indexRow_any p A B c d cols rs w hp hC hR hf hl hrl)
  have HQ := Lib.hid hq
  clear hp hC hR hf hl hrl hq
  go_enter Tryz.func83, Tryz.ntmps83
  go_wp2_with fail
  refine HI.out.mono ?_
  rintro e w1 ⟨i, rfl, hb1, hi⟩
  have HB := Lib.hid hb1
  rcases hi with ⟨rfl, ha⟩ | ⟨j, rfl, ha⟩
  · obtain rfl : false = q := by rw [← HQ.out, ha]
    clear hb1 ha
    go_wp2_with fail
    go_ret
    exact ⟨rfl, HB.out⟩
  · obtain rfl : true = q := by rw [← HQ.out, ha]
    clear hb1 ha
    go_wp2_with fail
    go_ret
    exact ⟨rfl, HB.out⟩
set_option maxRecDepth 100000 in
theorem areRows_any (A B : Option Addr) (c d : Nat) (cols : List Co) (rs : List (List Va)) (w : World) (hC : CoAt w A cols) (hR : RowsAt w B rs) (hf : ∀ r ∈ rs, Fine r) (hl : ∀ r ∈ rs, r.length ≤ 9223372036854775807) (hrl : rs.length ≤ 9223372036854775807) {q : Bool} (hq : rowsB cols rs = q) :
    Calls Tryz.prog 57 #[.slice B rs.length d, .slice A cols.length c] w fun e w' => e = .returned (.bool q) ∧ Below w.heap.size w w' := by
  have hba := ba w (.cells #[.slice A cols.length c] 26)
  obtain ⟨qr, hqr⟩ : ∃ qr, rs.any (oddR cols) = qr := ⟨_, rfl⟩
  have HC := Lib.hid (containsRow_any w.heap.size A B c d cols rs (w.alloc (.cells #[.slice A cols.length c] 26)) (by simp) (hC.kept hba) (hR.kept hba) hf hl hrl hqr)
  have HQ := Lib.hid hq
  have HQr := Lib.hid hqr
  have HB := Lib.hid hba
  clear hba hC hR hf hl hq hqr
  by_cases h1 : rs.length ≤ 4096
  · have HQ2 := Lib.hid (show (!qr) = q by rw [← HQ.out, rowsB, decide_eq_true h1, HQr.out]; rfl)
    have hI : (rs.length : Int) ≤ 4096 := by omega
    clear h1
    go_enter Tryz.func57, Tryz.ntmps57
    go_wp2_with fail
    refine HC.out.mono ?_
    rintro e w1 ⟨rfl, hb1⟩
    have HB1 := Lib.hid (bt HB.out hb1)
    clear hb1
    go_wp2_with fail
    go_ret
    exact ⟨by rw [← HQ2.out]; rfl, HB1.out⟩
  · obtain rfl : false = q := by rw [← HQ.out, rowsB, decide_eq_false h1]; rfl
    have hI : ¬ (rs.length : Int) ≤ 4096 := by omega
    clear h1
    go_enter Tryz.func57, Tryz.ntmps57
    go_wp2_with fail
    go_ret
    exact ⟨rfl, HB.out⟩
/-- May a table be? -/
def tabB (t : Ta) : Bool := isName t.nm && colsB t.cols && rowsB t.cols t.rows
set_option maxRecDepth 100000 in
theorem isTable_any (t : Ta) (A B : Option Addr) (c d : Nat) (w : World) (h : TaOk w t A c B d) (hF : FineT t) (hT : Tabs w) {q : Bool} (hq : tabB t = q) :
    Calls Tryz.prog 35 #[TV t.nm A t.cols.length c B t.rows.length d] w fun e w' => e = .returned (.bool q) ∧ Below w.heap.size w w' := by
  have hba := ba w (tbox t.nm A t.cols.length c B t.rows.length d)
  have HBx := Lib.hid (MapKept.heap_alloc w (tbox t.nm A t.cols.length c B t.rows.length d)).1
  have hnm := hF.nm
  have HN := Lib.hid (name_any t.nm (w.alloc (tbox t.nm A t.cols.length c B t.rows.length d)) (by unfold maxLen at hnm; omega) (hT.kept hba))
  have HC := Lib.hid (fun W (hb : Below w.heap.size w W) q (hq : colsB t.cols = q) => areColumns_any A c t.cols W (h.co.kept hb) (by have := h.cl; have := h.cm; omega) hF.co (hT.kept hb) hq)
  have HR := Lib.hid (fun W (hb : Below w.heap.size w W) q (hq : rowsB t.cols t.rows = q) => areRows_any A B c d t.cols t.rows W (h.co.kept hb) (h.ro.kept hb) hF.ro hF.rl (by have := h.rl; have := h.rm; omega) hq)
  have HQ := Lib.hid hq
  have HB := Lib.hid hba
  obtain ⟨nm, cols, rows⟩ := t
  simp only at HBx HN HC HR HB ⊢
  clear hba h hF hT hq hnm
  obtain ⟨x0, x1, x2⟩ := cell3 HBx.out
  go_enter Tryz.func35, Tryz.ntmps35
  go_wp2_with fail
  refine HN.out.mono ?_
  rintro e w1 ⟨rfl, hb1⟩
  have hx1 := (hb1.block w.heap.size (by simp)).trans HBx.out
  have HB1 := Lib.hid (bt HB.out hb1)
  obtain ⟨y0, y1, y2⟩ := cell3 hx1
  clear hb1 x0 x1 x2
  cases hn : isName nm
  · obtain rfl : false = q := by rw [← HQ.out, tabB, hn]; rfl
    clear hn hx1
    go_wp2_with fail
    go_ret
    exact ⟨rfl, HB1.out⟩
  · obtain ⟨q1, hq1⟩ : ∃ q1, colsB cols = q1 := ⟨_, rfl⟩
    have HQ1 := Lib.hid (show (q1 && rowsB cols rows) = q by rw [← HQ.out, tabB, hn, hq1]; rfl)
    have HC1 := Lib.hid (HC.out w1 HB1.out q1 hq1)
    have HX1 := Lib.hid hx1
    clear hn hq1 hx1 HQ
    go_wp2_with fail
    refine HC1.out.mono ?_
    rintro e w2 ⟨rfl, hb2⟩
    have hx2 := (hb2.block w.heap.size (Array.getElem?_eq_some_iff.1 HX1.out).1).trans HX1.out
    have HB2 := Lib.hid (bt HB1.out hb2)
    obtain ⟨z0, z1, z2⟩ := cell3 hx2
    clear hb2 y0 y1 y2 hx2
    cases q1
    · obtain rfl : false = q := by rw [← HQ1.out]; rfl
      go_wp2_with fail
      go_ret
      exact ⟨rfl, HB2.out⟩
    · have HR2 := Lib.hid (HR.out w2 HB2.out q (by rw [← HQ1.out]; rfl))
      go_wp2_with fail
      refine HR2.out.mono ?_
      rintro e w3 ⟨rfl, hb3⟩
      have HB3 := Lib.hid (bt HB2.out hb3)
      clear hb3
      go_wp2_with fail
      go_ret
      exact ⟨rfl, HB3.out⟩
theorem table_any (t : Ta) (A B : Option Addr) (c d : Nat) (w : World) (h : TaOk w t A c B d) (hF : FineT t) (hT : Tabs w) {q : Bool} (hq : tabB t = q) :
    Calls Tryz.prog 14 #[TV t.nm A t.cols.length c B t.rows.length d] w fun e w' => e = .returned (.int .i64 (if q then 0 else 130)) ∧ Below w.heap.size w w' := by
  have hba := ba w (tbox t.nm A t.cols.length c B t.rows.length d)
  have HBx := Lib.hid (MapKept.heap_alloc w (tbox t.nm A t.cols.length c B t.rows.length d)).1
  have HI := Lib.hid (isTable_any t A B c d _ (h.kept hba) hF (hT.kept hba) hq)
  have HB := Lib.hid hba
  obtain ⟨nm, cols, rows⟩ := t
  simp only at HBx HI HB ⊢
  clear hba h hF hT hq
  obtain ⟨x0, x1, x2⟩ := cell3 HBx.out
  go_enter Tryz.func14, Tryz.ntmps14
  go_wp2_with fail
  refine HI.out.mono ?_
  rintro e w1 ⟨rfl, hb1⟩
  have HB1 := Lib.hid (bt HB.out hb1)
  clear hb1
  cases q
  all_goals
    go_wp2_with fail
    go_ret
    exact ⟨rfl, HB1.out⟩
end Go.Proofs.YtmjckdgomlppeaaGreatDoor
end
