/-
  The tables of reserved words and signs; which words are reserved; cuts of words, of signs.
-/
import Derived.Test.YteckhaicodmakaaGreatDoorLx5
import Derived.Test.YteckhaicodmakaaGreatDoorPlain
namespace Go.Proofs.YteckhaicodmakaaGreatDoor
open Go.RowKit Go.Shelf

structure Tabs (w : World) : Prop where
  ks : ∀ (j : Nat) (b : Lx.B), Lx.keys[j]? = some b → w.cell? ⟨6, j, none⟩ = some (.string ⟨b.toArray⟩)
  sg : ∀ (j : Nat) (b : Lx.B), Lx.signs[j]? = some b → w.cell? ⟨1, j, none⟩ = some (.string ⟨b.toArray⟩)
  m : ∃ m, w.cell? ⟨3, 0, none⟩ = some (.int .i64 m)
theorem lt_of_cell {w : World} {p : Addr} {v : Value} (h : w.cell? p = some v) : p.block < w.heap.size := by
  rcases Nat.lt_or_ge p.block w.heap.size with hl | hg
  · exact hl
  · rw [World.cell?, Array.getElem?_eq_none hg] at h; cases h
theorem cell_kept {w w' : World} (hb : Below w.heap.size w w') {p : Addr} {v : Value} (h : w.cell? p = some v) : w'.cell? p = some v :=
  (hb.cell (lt_of_cell h)).trans h
theorem Tabs.kept {w w' : World} (h : Tabs w) (hb : Below w.heap.size w w') : Tabs w' := by
  obtain ⟨m, hm⟩ := h.m
  exact ⟨fun j b hj => cell_kept hb (h.ks j b hj), fun j b hj => cell_kept hb (h.sg j b hj), m, cell_kept hb hm⟩
theorem keys_len : Lx.keys.length = 28 := by decide +kernel
theorem tl_bs (a b : ByteArray) : (a.toList == b.toList) = (bs a == bs b) := by rw [ByteArray.toList_eq, ByteArray.toList_eq]

set_option maxHeartbeats 1000000 in
theorem key_any (s : ByteArray) (w : World) (hT : Tabs w) :
    Calls Tryz.prog 108 #[.string s] w fun e w' => e = .returned (.bool (Lx.key (bs s))) ∧ w' = w := by
  have HT := Lib.hid hT
  clear hT
  go_enter Tryz.func108, Tryz.ntmps108
  go_wp2_with fail
  go_loop [4, 3] (fun i _ => ∃ k : Nat, k ≤ 28 ∧ i = .int .i64 k ∧ Hid (∀ j b, j < k → Lx.keys[j]? = some b → b ≠ bs s)) (fun i _ => 28 - (intOf i).toNat)
  case atStart => exact ⟨0, Nat.zero_le _, rfl, Lib.hid (fun j c h => absurd h (by omega))⟩
  case round =>
    obtain ⟨k, hk, rfl, HA⟩ := hrel
    by_cases hlt : k < 28
    · obtain ⟨b, hb⟩ : ∃ b, Lx.keys[k]? = some b := ⟨_, List.getElem?_eq_getElem (by rw [keys_len]; exact hlt)⟩
      have hc := HT.out.ks k b hb
      have HB := Lib.hid hb
      have hq : ((⟨b.toArray⟩ : ByteArray).toList == s.toList) = (b == bs s) := tl_bs _ _
      clear hb
      generalize (⟨b.toArray⟩ : ByteArray) = kb at hc hq
      cases he : b == bs s
      · rw [he] at hq
        go_wp2_with fail
        go_round
        case rel =>
          refine ⟨k + 1, by omega, by go_num, Lib.hid (fun j x hj hx => ?_)⟩
          rcases Nat.lt_or_ge j k with h | h
          · exact HA.out j x h hx
          · obtain rfl : j = k := by omega
            rw [HB.out] at hx; obtain rfl := Option.some.inj hx; simpa using he
        case measure => simp [intOf]; omega
      · rw [he] at hq
        go_wp2_with fail
        go_ret
        refine ⟨ret_b ?_, rfl⟩
        obtain rfl : b = bs s := by simpa using he
        symm; rw [Lx.key, List.contains_iff_mem]
        exact List.mem_of_getElem? HB.out
    · go_wp2_with fail
      go_ret
      refine ⟨ret_b ?_, rfl⟩
      symm; rw [Lx.key, Bool.eq_false_iff]
      intro h
      rw [List.contains_iff_mem] at h
      obtain ⟨j, hj⟩ := List.getElem?_of_mem h
      have : j < 28 := by have := (List.getElem?_eq_some_iff.1 hj).1; rw [keys_len] at this; exact this
      exact HA.out j _ (by omega) hj rfl

abbrev tokV (k : Int) (s : ByteArray) (n a : Int) : Value := .agg #[.int .i64 k, .string s, .int .i64 n, .int .i64 a]
abbrev noTok : Value := .tuple #[tokV 0 ⟨#[]⟩ 0 0, .int .i64 0]
/-- A cut as the program hands it back. -/
def CutV (s : ByteArray) (o : Option (Lx.Tok × Nat)) (v : Value) : Prop :=
  match o with
  | none => v = noTok
  | some (t, z) => z ≤ s.size ∧ ∃ b : ByteArray, bs b = t.s ∧ v = .tuple #[tokV t.k b t.n 0, .int .i64 z]

set_option maxHeartbeats 1000000 in
theorem cutWord_any (s : ByteArray) (w : World) (hs : s.size ≤ 16384) (hT : Tabs w) :
    Calls Tryz.prog 91 #[.string s] w fun e w' => ∃ v, e = .returned v ∧ CutV s (Lx.cutWord (bs s)) v ∧ Below w.heap.size w w' := by
  have HT := Lib.hid hT
  have HBel := Lib.hid (ba w (.cells #[.int .i64 0, .string ⟨#[]⟩, .int .i64 0, .int .i64 0] 80))
  obtain ⟨W, hz⟩ : ∃ W, (bs s).takeWhile Lx.wordy = W := ⟨_, rfl⟩
  obtain ⟨n, hn⟩ : ∃ n, W.length = n := ⟨_, rfl⟩
  have hr : n ≤ s.size := by rw [← hn, ← hz, ← bs_len]; exact Lx.takeWhile_le _ _
  have HX := Lib.hid (show bs (s.extract 0 n) = W by rw [bs_extract, List.drop_zero, ← hn, ← hz, Lx.takeWhile_take])
  have HZ := Lib.hid (show Lx.cutWord (bs s) = if 24 < n then none else some (⟨if Lx.key W then 2 else 1, W, 0⟩, n) by subst hz hn; rfl)
  have HW := Lib.hid (show ((bs s).takeWhile Lx.wordy).length = n by rw [hz, hn])
  clear hT hz hn
  go_enter Tryz.func91, Tryz.ntmps91
  go_wp2_with fail
  refine (runW _ _ (by omega)).mono ?_
  rintro e w' ⟨rfl, rfl⟩
  rw [HW.out]
  by_cases h24 : 24 < n
  · go_wp2_with fail
    refine bodyPost_ret (v := noTok) (by simp [results, Tryz.results91, go_sem]) rfl ⟨_, rfl, ?_, HBel.out⟩
    rw [HZ.out, if_pos h24]; rfl
  · go_wp2_with fail
    refine (key_any _ _ (HT.out.kept HBel.out)).mono ?_
    rintro e w' ⟨rfl, rfl⟩
    rw [HX.out]
    cases hk : Lx.key W
    · go_wp2_with fail
      refine bodyPost_ret (v := .tuple #[tokV 1 (s.extract 0 n) 0 0, .int .i64 n]) (by simp [results, Tryz.results91, go_sem]) rfl ⟨_, rfl, ?_, ba w _⟩
      rw [HZ.out, if_neg h24, hk]
      exact ⟨hr, _, HX.out, rfl⟩
    · go_wp2_with fail
      refine bodyPost_ret (v := .tuple #[tokV 2 (s.extract 0 n) 0 0, .int .i64 n]) (by simp [results, Tryz.results91, go_sem]) rfl ⟨_, rfl, ?_, ba w _⟩
      rw [HZ.out, if_neg h24, hk]
      exact ⟨hr, _, HX.out, rfl⟩

end Go.Proofs.YteckhaicodmakaaGreatDoor
