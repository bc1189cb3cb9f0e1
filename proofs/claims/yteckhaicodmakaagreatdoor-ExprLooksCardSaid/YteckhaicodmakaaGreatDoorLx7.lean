/-
  Cuts of signs, of numbers.
-/
import Derived.Test.YteckhaicodmakaaGreatDoorLx6
namespace Go.Proofs.YteckhaicodmakaaGreatDoor
open Go.RowKit Go.Shelf

theorem signs_len : Lx.signs.length = 15 := by decide +kernel
theorem find_at {p : Lx.B → Bool} : ∀ {l : List Lx.B} {k : Nat} {b : Lx.B}, l[k]? = some b → p b = true → (∀ j x, j < k → l[j]? = some x → p x = false) → l.find? p = some b
  | [], k, b, h, _, _ => by simp at h
  | x :: l, 0, b, h, hp, _ => by obtain rfl : x = b := by simpa using h
                                 rw [List.find?_cons, hp]
  | x :: l, k + 1, b, h, hp, ha => by
    rw [List.find?_cons, ha 0 x (by omega) rfl]
    exact find_at (k := k) (by simpa using h) hp fun j y hj hy => ha (j + 1) y (by omega) (by simpa using hy)

/-- A token is stored into a box. -/
theorem tset {w : World} {U : Nat} {a0 a1 a2 a3 : Value} {T : TypeId} (h : w.heap[U]? = some (.cells #[a0, a1, a2, a3] T (0, 0))) (b0 b1 b2 b3 : Value) :
    ((((w.setCell ⟨U, 0, none⟩ b0).setCell ⟨U, 1, none⟩ b1).setCell ⟨U, 2, none⟩ b2).setCell ⟨U, 3, none⟩ b3).heap[U]? = some (.cells #[b0, b1, b2, b3] T (0, 0)) := by
  simp only [World.setCell, Array.getElem?_modify, if_true, h]
  rfl
theorem tcell {w : World} {U : Nat} {b0 b1 b2 b3 : Value} {T : TypeId} (e : w.heap[U]? = some (.cells #[b0, b1, b2, b3] T (0, 0))) :
    (w.cell? ⟨U, 0, none⟩ = some b0 ∧ w.cell? ⟨U, 1, none⟩ = some b1 ∧ w.cell? ⟨U, 2, none⟩ = some b2 ∧ w.cell? ⟨U, 3, none⟩ = some b3) ∧
    w.frozen? ⟨U, 0, none⟩ = false ∧ w.frozen? ⟨U, 1, none⟩ = false ∧ w.frozen? ⟨U, 2, none⟩ = false ∧ w.frozen? ⟨U, 3, none⟩ = false :=
  ⟨⟨by simp only [World.cell?, e]; rfl, by simp only [World.cell?, e]; rfl, by simp only [World.cell?, e]; rfl, by simp only [World.cell?, e]; rfl⟩,
    by simp only [World.frozen?, e]; rfl, by simp only [World.frozen?, e]; rfl, by simp only [World.frozen?, e]; rfl, by simp only [World.frozen?, e]; rfl⟩
abbrev tokO (T : TypeId) : Obj := .cells #[.int .i64 0, .string ⟨#[]⟩, .int .i64 0, .int .i64 0] T

set_option maxHeartbeats 1000000 in
theorem cutSign_any (s : ByteArray) (w : World) (hT : Tabs w) :
    Calls Tryz.prog 95 #[.string s] w fun e w' => ∃ v, e = .returned v ∧ CutV s (Lx.cutSign (bs s)) v ∧ Below w.heap.size w w' := by
  have HT := Lib.hid (hT.kept (ba w (.cells #[.int .i64 0, .string ⟨#[]⟩, .int .i64 0, .int .i64 0] 80)))
  have HBel := Lib.hid (ba w (.cells #[.int .i64 0, .string ⟨#[]⟩, .int .i64 0, .int .i64 0] 80))
  have HU := Lib.hid (show 1 < w.heap.size from lt_of_cell (hT.sg 0 _ rfl))
  have HX := Lib.hid ((MapKept.heap_alloc w (tokO 80)).1)
  clear hT
  go_enter Tryz.func95, Tryz.ntmps95
  go_wp2_with fail
  generalize w.alloc (.cells #[.int .i64 0, .string ⟨#[]⟩, .int .i64 0, .int .i64 0] 80) = W1 at HT HBel HX ⊢
  obtain ⟨U, hU⟩ : ∃ U, w.heap.size = U := ⟨_, rfl⟩
  have HUB := Lib.hid (show w.heap.size ≤ U by omega)
  rw [hU] at HX HU ⊢
  clear hU
  go_loop [5, 4] (fun i _ => ∃ k : Nat, k ≤ 15 ∧ i = .int .i64 k ∧ Hid (∀ j b, j < k → Lx.signs[j]? = some b → b.isPrefixOf (bs s) = false)) (fun i _ => 15 - (intOf i).toNat)
  case atStart => exact ⟨0, Nat.zero_le _, rfl, Lib.hid (fun j c h => absurd h (by omega))⟩
  case round =>
    obtain ⟨k, hk, rfl, HA⟩ := hrel
    by_cases hlt : k < 15
    · obtain ⟨b, hb⟩ : ∃ b, Lx.signs[k]? = some b := ⟨_, List.getElem?_eq_getElem (by rw [signs_len]; exact hlt)⟩
      have hc := HT.out.sg k b hb
      have HB := Lib.hid hb
      have HQ := Lib.hid (show bs (⟨b.toArray⟩ : ByteArray) = b from rfl)
      have HS2 := Lib.hid (show (⟨b.toArray⟩ : ByteArray).size = b.length by rw [← bs_len])
      clear hb
      generalize (⟨b.toArray⟩ : ByteArray) = kb at hc HQ HS2
      cases he : b.isPrefixOf (bs s)
      · go_wp2_with fail
        refine (Tryz.strings_HasPrefix _ _ _).mono ?_
        rintro e W1 ⟨rfl, rfl⟩
        rw [show Lib.hasPrefix s.data.toList kb.data.toList = false by rw [show kb.data.toList = b from HQ.out]; exact he]
        go_wp2_with fail
        go_round
        case rel =>
          refine ⟨k + 1, by omega, by go_num, Lib.hid (fun j x hj hx => ?_)⟩
          rcases Nat.lt_or_ge j k with h | h
          · exact HA.out j x h hx
          · obtain rfl : j = k := by omega
            rw [HB.out] at hx; obtain rfl := Option.some.inj hx; exact he
        case measure => simp [intOf]; omega
      · go_wp2_with fail
        refine (Tryz.strings_HasPrefix _ _ _).mono ?_
        rintro e W1 ⟨rfl, rfl⟩
        rw [show Lib.hasPrefix s.data.toList kb.data.toList = true by rw [show kb.data.toList = b from HQ.out]; exact he]
        go_wp2_with fail
        obtain ⟨⟨c0, c1, c2, c3⟩, f0, f1, f2, f3⟩ := tcell HX.out
        have hUV := HU.out
        have HS := Lib.hid (tset HX.out (.int .i64 5) (.string kb) (.int .i64 0) (.int .i64 0))
        have HE := Lib.hid (show Below w.heap.size w ((((W1.setCell ⟨U, 0, none⟩ (.int .i64 5)).setCell ⟨U, 1, none⟩ (.string kb)).setCell ⟨U, 2, none⟩ (.int .i64 0)).setCell ⟨U, 3, none⟩ (.int .i64 0)) from
          (((HBel.out.setCell HUB.out _).setCell HUB.out _).setCell HUB.out _).setCell HUB.out _)
        go_region
        go_wp2_with fail
        obtain ⟨⟨q0, q1, q2, q3⟩, _⟩ := tcell HS.out
        have HL := Lib.hid (show Lx.cutSign (bs s) = some (⟨5, b, 0⟩, b.length) by rw [Lx.cutSign, find_at HB.out he (fun j x hj hx => HA.out j x hj hx)]; rfl)
        refine bodyPost_ret (v := .tuple #[tokV 5 kb 0 0, .int .i64 kb.size]) (by simp [results, Tryz.results95, go_sem, q0, q1, q2, q3]) rfl ⟨_, rfl, ?_, Below.drew HE.out⟩
        rw [HL.out]
        refine ⟨?_, kb, HQ.out, by rw [HS2.out]; rfl⟩
        rw [← bs_len]
        exact (List.isPrefixOf_iff_prefix.1 he).length_le
    · have HF := Lib.hid (show Lx.cutSign (bs s) = none by
        rw [Lx.cutSign, List.find?_eq_none.2]; rfl
        intro x hx
        obtain ⟨j, hj⟩ := List.getElem?_of_mem hx
        have : j < 15 := by have := (List.getElem?_eq_some_iff.1 hj).1; rw [signs_len] at this; exact this
        rw [HA.out j x (by omega) hj]; decide)
      obtain ⟨⟨c0, c1, c2, c3⟩, f0, f1, f2, f3⟩ := tcell HX.out
      have HS := Lib.hid (tset HX.out (.int .i64 0) (.string ⟨#[]⟩) (.int .i64 0) (.int .i64 0))
      have HE := Lib.hid (show Below w.heap.size w ((((W1.setCell ⟨U, 0, none⟩ (.int .i64 0)).setCell ⟨U, 1, none⟩ (.string ⟨#[]⟩)).setCell ⟨U, 2, none⟩ (.int .i64 0)).setCell ⟨U, 3, none⟩ (.int .i64 0)) from
          (((HBel.out.setCell HUB.out _).setCell HUB.out _).setCell HUB.out _).setCell HUB.out _)
      go_wp2_with fail
      obtain ⟨⟨q0, q1, q2, q3⟩, _⟩ := tcell HS.out
      refine bodyPost_ret (v := noTok) (by simp [results, Tryz.results95, go_sem, q0, q1, q2, q3]) rfl ⟨_, rfl, ?_, HE.out⟩
      rw [HF.out]; rfl
end Go.Proofs.YteckhaicodmakaaGreatDoor
