/-
  Contracts of row.By and what it calls, and of the document's own By.
-/
import Derived.Test.YtlobgdfmgbedgaaRCmp
namespace Go.Proofs.Ytlobgdfmgbedgaa
open Go.RowKit Go.Shelf

theorem atV_in (r : List Va) (i : Nat) (h : i < r.length) : atV r (i : Int) = r[i] := by
  unfold atV
  rw [if_pos (Int.natCast_nonneg _), Int.toNat_natCast, List.getD_eq_getElem?_getD, List.getElem?_eq_getElem h]; rfl
theorem atV_neg (r : List Va) (c : Int) (h : c < 0) : atV r c = nullA := by unfold atV; rw [if_neg (by omega)]
theorem atV_out (r : List Va) (c : Int) (h : (r.length : Int) ≤ c) : atV r c = nullA := by
  unfold atV
  rw [if_pos (by omega), List.getD_eq_getElem?_getD, List.getElem?_eq_none (by omega)]; rfl

def hasV (r : List Va) (c : Int) : Bool := decide (0 ≤ c) && decide (c < r.length)

set_option maxHeartbeats 400000 in
theorem has_b (b : Bool) (A : Option Addr) (c : Nat) (r : List Va) (i : Int) (w : World) (h : hasV r i = b) :
    Calls Try.prog 86 #[.slice A r.length c, .int .i64 i] w fun e w' => e = .returned (.bool b) ∧ w = w' := by
  subst h
  by_cases h0 : 0 ≤ i
  · have HF := Lib.hid (show hasV r i = decide (i < r.length) by simp [hasV, h0])
    go_enter Try.func86, Try.ntmps86
    go_wp2_with fail
    go_ret
    exact ⟨ret_bool HF.out.symm, rfl⟩
  · have HF := Lib.hid (show hasV r i = false by simp [hasV, h0])
    have h0' : decide (0 ≤ i) = false := by simpa using h0
    go_enter Try.func86, Try.ntmps86
    go_wp2_with fail
    go_ret
    exact ⟨ret_bool HF.out.symm, rfl⟩

set_option maxHeartbeats 400000 in
theorem at_any (A : Option Addr) (c : Nat) (r : List Va) (i : Int) (w : World) (h : RowAt w A r) :
    Calls Try.prog 91 #[.slice A r.length c, .int .i64 i] w fun e w' => e = .returned (VV (atV r i).k (atV r i).n (atV r i).s) ∧ Below w.heap.size w w' := by
  by_cases hin : 0 ≤ i ∧ i < r.length
  · obtain ⟨N, rfl⟩ := Int.eq_ofNat_of_zero_le hin.1
    have hN : N < r.length := by omega
    have HF := Lib.hid (atV_in r N hN)
    have HH := Lib.hid (show hasV r N = true by simp [hasV]; omega)
    obtain ⟨b, off, rfl, hb, c0, c1, c2⟩ := h.at hN
    clear h hin
    generalize r[N] = v at c0 c1 c2 HF
    have hcN : (N : Int) < (r.length : Int) := by omega
    go_enter Try.func91, Try.ntmps91
    go_wp2_with fail
    refine (has_b true _ _ _ _ _ HH.out).mono ?_
    rintro e w1 ⟨rfl, rfl⟩
    go_wp2_with fail
    refine bodyPost_ret (v := VV v.k v.n v.s) (by simp [results, Try.results91, go_sem]) rfl ⟨?_, ba _ _⟩
    rw [HF.out]
  · have HF := Lib.hid (show atV r i = nullA by
      by_cases h0 : i < 0
      · exact atV_neg r i h0
      · exact atV_out r i (by omega))
    have HH := Lib.hid (show hasV r i = false by simp [hasV]; omega)
    clear h hin
    go_enter Try.func91, Try.ntmps91
    go_wp2_with fail
    refine (has_b false _ _ _ _ _ HH.out).mono ?_
    rintro e w1 ⟨rfl, rfl⟩
    go_wp2_with fail
    refine (null_any _).mono ?_
    rintro e w1 ⟨rfl, hb1⟩
    obtain ⟨hc1, hf1⟩ := bcell hb1
    obtain ⟨c0, c1, c2⟩ := box1 hb1
    go_wp2_with fail
    refine bodyPost_ret (v := VV 0 0 ⟨#[]⟩) (by simp [results, Try.results91, go_sem, c0, c1, c2]) rfl ⟨?_, ?_⟩
    · rw [HF.out]; rfl
    · exact ((((ba w _).trans (hb1.mono (by simp))).setCell (Nat.le_refl _) _).setCell (Nat.le_refl _) _).setCell (Nat.le_refl _) _

theorem map_at (l : List Int) (j : Nat) (h : j < l.length) : (l.map (Value.int .i64))[j]? = some (.int .i64 l[j]) := by
  rw [List.getElem?_map, List.getElem?_eq_getElem h]; rfl
theorem mapb_at (l : List Bool) (j : Nat) (h : j < l.length) : (l.map Value.bool)[j]? = some (.bool l[j]) := by
  rw [List.getElem?_map, List.getElem?_eq_getElem h]; rfl

set_option maxRecDepth 100000 in
set_option maxHeartbeats 2000000 in
theorem by_any (A A' C D : Option Addr) (c c' cc cd : Nat) (r r' : List Va) (cols : List Int) (down : List Bool) (w : World) (h : RowAt w A r) (h' : RowAt w A' r') (hC : IntsAt w C cols) (hD : BoolsAt w D down)
    (hlc : cols.length ≤ 9223372036854775807) :
    Calls Try.prog 63 #[.slice A r.length c, .slice A' r'.length c', .slice C cols.length cc, .slice D down.length cd] w fun e w' => e = .returned (.int .i64 (byV r r' cols down)) ∧ Below w.heap.size w w' := by
  go_enter Try.func63, Try.ntmps63
  go_wp2_with fail
  go_loopw [14] (fun i wr => ∃ j : Nat, j ≤ cols.length ∧ i = .int .i64 j ∧ Below w.heap.size w wr ∧ Hid (byV r r' cols down = byV r r' (cols.drop j) (down.drop j))) (fun i _ => cols.length - (intOf i).toNat)
  case atStart => exact ⟨0, Nat.zero_le _, rfl, Below.refl _ _, Lib.hid (by simp)⟩
  case round =>
    obtain ⟨j, hj, rfl, hB, HC⟩ := hrel
    have HR := Lib.hid (h.kept hB)
    have HR' := Lib.hid (h'.kept hB)
    have HD := Lib.hid (hD.kept hB)
    have hCr := hC.kept hB
    clear h h' hC hD
    by_cases hlt : j < cols.length
    · obtain ⟨b, off, rfl, hb, c0⟩ := hCr.at (map_at cols j hlt)
      have HS := Lib.hid (byV_step r r' cols down j hlt)
      generalize cols[j] = col at c0 HS
      clear hCr
      go_wp2_with fail
      refine (at_any _ _ _ _ _ HR.out).mono ?_
      rintro e w1 ⟨rfl, hb1⟩
      have hB1 := bt hB hb1
      go_wp2_with fail
      refine (at_any _ _ _ _ _ (HR'.out.kept hb1)).mono ?_
      rintro e w2 ⟨rfl, hb2⟩
      have hB2 := bt hB1 hb2
      go_wp2_with fail
      refine (compareA _ _ _).mono ?_
      rintro e w3 ⟨rfl, hb3⟩
      have hB3 := bt hB2 hb3
      have hD3 := HD.out.kept (bt (bt hb1 hb2) hb3)
      have hrg := cmpV_range (atV r col).k (atV r col).n (atV r col).s (atV r' col).k (atV r' col).n (atV r' col).s
      change -1 ≤ cmpA (atV r col) (atV r' col) ∧ cmpA (atV r col) (atV r' col) ≤ 1 at hrg
      generalize cmpA (atV r col) (atV r' col) = o at HS hrg ⊢
      obtain ⟨ho1, ho2⟩ := hrg
      clear hb1 hb2 hb3 hB1 hB2 hB c0
      by_cases hz : o = 0
      · have hz' : (o == 0) = true := by simpa using hz
        have HE := Lib.hid (show byV r r' cols down = byV r r' (cols.drop (j + 1)) (down.drop (j + 1)) by rw [HC.out, HS.out, if_pos hz])
        clear hz hD3
        go_wp2_with fail
        go_roundw
        case rel => exact ⟨j + 1, by omega, by go_num, hB3, HE⟩
        case measure => simp [intOf]; omega
      · have hz' : (o == 0) = false := by simpa using hz
        by_cases hd : j < down.length
        · have hdc : (j : Int) < (down.length : Int) := by omega
          obtain ⟨b', off', rfl, hb', d0⟩ := hD3.at (mapb_at down j hd)
          have e0 : down.getD j false = down[j] := by rw [List.getD_eq_getElem?_getD, List.getElem?_eq_getElem hd]; rfl
          cases hdj : down[j]
          · rw [hdj] at d0 e0
            have HE := Lib.hid (show byV r r' cols down = o by rw [HC.out, HS.out, if_neg hz, e0]; rfl)
            clear hz hD3 hdj e0
            go_wp2_with fail
            go_ret
            exact ⟨ret_int HE.out.symm, hB3⟩
          · rw [hdj] at d0 e0
            have HE := Lib.hid (show byV r r' cols down = -o by rw [HC.out, HS.out, if_neg hz, e0]; rfl)
            clear hz hD3 hdj e0
            go_wp2_with fail
            go_ret
            exact ⟨ret_int HE.out.symm, hB3⟩
        · have hdc : (down.length : Int) ≤ (j : Int) := by omega
          have hdd : decide ((j : Int) < (down.length : Int)) = false := by simp; omega
          have e0 : down.getD j false = false := by rw [List.getD_eq_getElem?_getD, List.getElem?_eq_none (by omega)]; rfl
          have HE := Lib.hid (show byV r r' cols down = o by rw [HC.out, HS.out, if_neg hz, e0]; rfl)
          clear hz hD3 e0
          go_wp2_with fail
          go_ret
          exact ⟨ret_int HE.out.symm, hB3⟩
    · have HE := Lib.hid (show byV r r' cols down = 0 by rw [HC.out]; exact byV_end r r' cols down j (by omega))
      go_wp2_with fail
      go_ret
      exact ⟨ret_int HE.out.symm, hB⟩


end Go.Proofs.Ytlobgdfmgbedgaa
