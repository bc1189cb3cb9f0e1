/-
  Package disk: New.
-/
import Derived.Test.YthimgldohhaimabDk9
namespace Go.Proofs.Ythimgldohhaimab
open Go.RowKit Go.Maps

/-- A slice's address, at which these numbers lie. -/
def NumsAt (w : World) (A : Option Addr) (l : List Int) : Prop :=
  l = [] ∨ ∃ b off : Nat, A = some ⟨b, off, none⟩ ∧ b < w.heap.size ∧ ∀ (i : Nat) (v : Int), l[i]? = some v → w.cell? ⟨b, off + i, none⟩ = some (.int .i64 v)
theorem NumsAt.kept {w w' : World} {A : Option Addr} {xs : List Int} (h : NumsAt w A xs) (hb : Below w.heap.size w w') : NumsAt w' A xs := by
  rcases h with h | ⟨b, off, hA, hlt, hc⟩
  · exact .inl h
  · exact .inr ⟨b, off, hA, Nat.lt_of_lt_of_le hlt hb.size, fun i v hv => (hb.cell (p := ⟨b, _, none⟩) hlt).trans (hc i v hv)⟩
theorem NumsAt.at {w : World} {A : Option Addr} {xs : List Int} (h : NumsAt w A xs) {i : Nat} (hi : i < xs.length) :
    ∃ b off : Nat, A = some ⟨b, off, none⟩ ∧ b < w.heap.size ∧ w.cell? ⟨b, off + i, none⟩ = some (.int .i64 xs[i]) := by
  rcases h with h | ⟨b, off, hA, hlt, hc⟩
  · subst h; simp at hi
  · exact ⟨b, off, hA, hlt, hc i _ (List.getElem?_eq_getElem hi)⟩
def dkNew (room : Int) (F : List Int) : Dk := ⟨room, F, [], 0, 0, 0, 0, 0, 0⟩
theorem sd_new {room : Int} {F : List Int} (h : 0 ≤ room ∧ room ≤ 16384) (hn : F.Nodup) (hl : F.length ≤ maxLen) : Sd (dkNew room F) :=
  ⟨h, hn, hl, List.nodup_nil, by simp [dkNew], by simp [dkNew], by simp [dkNew], by simp [dkNew], rfl, h.1, ⟨Int.le_refl _, h.1⟩, Int.le_refl _, Int.le_refl _, Int.le_refl _, Int.le_refl _⟩
def addF (F : List Int) (n : Int) : List Int := if n ∈ F then F else F ++ [n]
theorem put_flt (F : List Int) (n : Int) : putV (F.map fun n => (n, Value.agg #[])) n (.agg #[]) = (addF F n).map fun n => (n, Value.agg #[]) := by
  unfold putV addF
  rw [vOf_flt]
  by_cases h : n ∈ F
  · rw [if_pos h, if_pos (by rfl), if_pos h, List.map_map]
    apply List.map_congr_left
    intro k _
    simp only [Function.comp]
    by_cases e : k = n
    · rw [if_pos e, e]
    · rw [if_neg e]
  · rw [if_neg h, if_neg (by simp), if_neg h, List.map_append]
    rfl
theorem addF_nodup {F : List Int} (h : F.Nodup) (n : Int) : (addF F n).Nodup := by
  unfold addF
  split
  · exact h
  · rename_i hn
    rw [List.nodup_append]
    exact ⟨h, by simp, fun x hx y hy => by simp at hy; subst hy; exact fun e => hn (e ▸ hx)⟩
theorem addF_len (F : List Int) (n : Int) : (addF F n).length ≤ F.length + 1 := by unfold addF; split <;> simp
theorem addF_mem (F : List Int) (n k : Int) : k ∈ addF F n ↔ k ∈ F ∨ k = n := by
  unfold addF
  split
  · rename_i h
    constructor
    · exact .inl
    · rintro (h1 | rfl)
      · exact h1
      · exact h
  · simp
/-- What stands at the disk of the call's own: no file; faults among those that were handed in. -/
def NewAt (B : Nat) (w : World) (l mf ms : Nat) (room : Int) (fa : List Int) : Prop := ∃ F, DkAt B w l mf ms (dkNew room F) ∧ (∀ n, n ∈ F ↔ n ∈ fa ∧ 1 ≤ n) ∧ F.length ≤ fa.length
def NewDEnd (w : World) (room : Int) (fa : List Int) (e : Ending) (w' : World) : Prop :=
  Below w.heap.size w w' ∧ if 0 ≤ room ∧ room ≤ 16384 then ∃ l mf ms, e = .returned (.tuple #[.pointer (some ⟨l, 0, none⟩), .int .i64 0]) ∧ NewAt w.heap.size w' l mf ms room fa
    else e = .returned (.tuple #[.pointer none, .int .i64 1])
set_option maxRecDepth 100000 in
set_option maxHeartbeats 4000000 in
theorem newD_any (room : Int) (A : Option Addr) (c : Nat) (fa : List Int) (w : World) (hA : NumsAt w A fa) (hwf : ∀ n ∈ fa, (Lit.int .i64 n).wf = true) (hl : fa.length ≤ maxLen) :
    Calls Try.prog 5 #[.int .i64 room, .slice A fa.length c] w (NewDEnd w room fa) := by
  by_cases h0 : room < 0
  · have HN := Lib.hid (show ¬ (0 ≤ room ∧ room ≤ 16384) by omega)
    have _u : True := (fun _ _ _ => trivial) hA hwf hl
    clear hA hwf hl
    go_enter Try.func5, Try.ntmps5
    go_wp2_with fail
    go_ret2
    refine ⟨Below.refl _ _, ?_⟩
    rw [if_neg HN.out]
    rfl
  · by_cases h1 : 16384 < room
    · have HN := Lib.hid (show ¬ (0 ≤ room ∧ room ≤ 16384) by omega)
      clear hA hwf hl
      go_enter Try.func5, Try.ntmps5
      go_wp2_with fail
      go_ret2
      refine ⟨Below.refl _ _, ?_⟩
      rw [if_neg HN.out]
      rfl
    · have hroom : 0 ≤ room ∧ room ≤ 16384 := by omega
      have HN := Lib.hid hroom
      have hmm := @run_makeMap Try.prog
      have hb2 := ba (w.alloc (.map #[] 0)) (.map #[] 0)
      have hm1 := ((MpAt.made w _ rfl).kept (hb2.block w.heap.size (by simp)))
      have hm2 := MpAt.made (w.alloc (.map #[] 0)) (w.heap.size + 1) (by simp)
      have hb3 := ba ((w.alloc (.map #[] 0)).alloc (.map #[] 0)) (.cells ((dkNew room []).box w.heap.size (w.heap.size + 1)) 53)
      have hD : DkAt w.heap.size (((w.alloc (.map #[] 0)).alloc (.map #[] 0)).alloc (.cells ((dkNew room []).box w.heap.size (w.heap.size + 1)) 53)) (w.heap.size + 1 + 1) w.heap.size (w.heap.size + 1) (dkNew room []) := by
        refine ⟨⟨?_, hm1.kept (hb3.block _ (by simp; omega)), hm2.kept (hb3.block _ (by simp)), by simp [dkNew], ⟨by omega, by omega, by omega⟩, by omega⟩, sd_new hroom List.nodup_nil (by simp)⟩
        have := (MapKept.heap_alloc ((w.alloc (.map #[] 0)).alloc (.map #[] 0)) (.cells ((dkNew room []).box w.heap.size (w.heap.size + 1)) 53)).1
        rw [World.size_alloc, World.size_alloc] at this
        exact this
      have HD0 := Lib.hid hD
      have HB0 := Lib.hid (bt (bt (ba w _) hb2) hb3)
      unfold dkNew Dk.box at HD0 HB0
      simp only at HD0 HB0
      have HA := Lib.hid hA
      have HW := Lib.hid hwf
      have hlen : fa.length ≤ 9223372036854775807 := by simp only [maxLen] at hl; omega
      have HL := Lib.hid hl
      clear hm1 hm2 hb2 hb3 hD hA hwf hl
      go_enter Try.func5, Try.ntmps5
      go_wp2_with fail
      obtain ⟨B, hB⟩ : ∃ B, B = w.heap.size := ⟨_, rfl⟩
      rw [← hB] at HD0 HB0 ⊢
      have HBe := Lib.hid hB
      clear hB
      go_loopw [22] (fun v wr => ∃ (j : Nat) (F : List Int), v = .int .i64 j ∧ j ≤ fa.length ∧ Hid (DkAt B wr (B + 1 + 1) B (B + 1) (dkNew room F)) ∧ Hid (∀ n, n ∈ F ↔ n ∈ fa.take j ∧ 1 ≤ n) ∧ Hid (F.length ≤ j) ∧ Hid (Below B w wr)) (fun v _ => fa.length - (intOf v).toNat)
      case atStart => exact ⟨0, [], rfl, Nat.zero_le _, HD0, Lib.hid (by simp), Lib.hid (by simp), HB0⟩
      case round =>
        obtain ⟨j, F, rfl, hj, HD, HF, HFl, HB⟩ := hrel
        clear HD0 HB0
        by_cases hlt : j < fa.length
        · have hbB := HB.out
          rw [HBe.out] at hbB
          obtain ⟨b, off, hA, hb, c0⟩ := (HA.out.kept hbB).at hlt
          have HS := Lib.hid (List.take_succ_eq_append_getElem hlt)
          have hwn := HW.out _ (List.getElem_mem hlt)
          subst hA
          generalize fa[j] = n at c0 HS hwn
          have HWn := Lib.hid hwn
          clear hwn hbB
          by_cases hn : n < 1
          · have HF2 := Lib.hid (show ∀ k, k ∈ F ↔ k ∈ fa.take (j + 1) ∧ 1 ≤ k from fun k => by
              rw [HF.out, HS.out, List.mem_append]
              constructor
              · rintro ⟨h1, h2⟩; exact ⟨.inl h1, h2⟩
              · rintro ⟨h1 | h1, h2⟩
                · exact ⟨h1, h2⟩
                · simp at h1; omega)
            have HL2 := Lib.hid (show F.length ≤ j + 1 from Nat.le_succ_of_le HFl.out)
            go_wp2_with fail
            go_roundw
            case rel => exact ⟨j + 1, F, by go_num, by omega, HD, HF2, HL2, HB⟩
            case measure => simp [intOf]; omega
          · have HF2 := Lib.hid (show ∀ k, k ∈ addF F n ↔ k ∈ fa.take (j + 1) ∧ 1 ≤ k from fun k => by
              rw [addF_mem, HF.out, HS.out, List.mem_append]
              constructor
              · rintro (⟨h1, h2⟩ | rfl)
                · exact ⟨.inl h1, h2⟩
                · exact ⟨.inr (by simp), by omega⟩
              · rintro ⟨h1 | h1, h2⟩
                · exact .inl ⟨h1, h2⟩
                · simp at h1; exact .inr h1)
            have HL2 := Lib.hid (show (addF F n).length ≤ j + 1 from Nat.le_trans (addF_len F n) (by have := HFl.out; omega))
            have c1 := HD.out.c1
            obtain ⟨w', hrun, hm', ht'⟩ := HD.out.flt.put (n := n) (.agg #[]) HWn.out (by have := HFl.out; have := HL.out; simp [Dk.flt, dkNew]; omega) Try.underlying50
            rw [show putV (dkNew room F).flt n (.agg #[]) = (dkNew room (addF F n)).flt from put_flt F n] at hm'
            have hfin := HD.out.flt_turned hm' ht' rfl rfl (sd_new HN.out (addF_nodup HD.out.sane.fnod n) (by have := HL2.out; have := HL.out; omega))
            have HFin := Lib.hid hfin
            have HB2 := Lib.hid (HB.out.trans hfin.2.below)
            clear hm' ht' hfin
            go_wp2_with fail
            go_roundw
            case rel => exact ⟨j + 1, addF F n, by go_num, by omega, Lib.hid HFin.out.1, HF2, HL2, HB2⟩
            case measure => simp [intOf]; omega
        · have hj2 : j = fa.length := by omega
          subst hj2
          go_wp2_with fail
          go_ret2
          refine ⟨by rw [← HBe.out]; exact HB.out, ?_⟩
          rw [if_pos HN.out, ← HBe.out]
          exact ⟨_, _, _, rfl, F, HD.out, by have := HF.out; rwa [List.take_length] at this, HFl.out⟩
end Go.Proofs.Ythimgldohhaimab
