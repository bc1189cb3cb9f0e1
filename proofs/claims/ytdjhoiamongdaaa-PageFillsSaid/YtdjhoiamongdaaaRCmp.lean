/-
  Contracts of row.Compare and row.Same, of the library's CompareFunc, and of the document's own Compare and Same.
-/
import Derived.Test.YtdjhoiamongdaaaRMem
import Derived.Test.YtdjhoiamongdaaaCmp
import Derived.Shelf.Abstract
import Derived.Deep.RegionHeld3
namespace Go.Proofs.Ytdjhoiamongdaaa
open Go.RowKit Go.Shelf

theorem cell_kept {w w' : World} (hb : Below w.heap.size w w') {p : Addr} {v : Value} (h : w.cell? p = some v) : w'.cell? p = some v := by
  have hl : p.block < w.heap.size := by
    rcases Nat.lt_or_ge p.block w.heap.size with hl | hg
    · exact hl
    · rw [World.cell?, Array.getElem?_eq_none hg] at h; cases h
  exact (hb.cell hl).trans h
theorem refCompareA (a b : Va) (w : World) :
    Calls Try.prog 94 #[VV a.k a.n a.s, VV b.k b.n b.s] w fun e w' => e = .returned (.int .i64 (cmpA a b)) ∧ Below w.heap.size w w' := refCompare_any _ _ _ _ _ _ _

set_option maxRecDepth 100000 in
set_option maxHeartbeats 2000000 in
theorem refRowCompare_any (A A' : Option Addr) (c c' : Nat) (r r' : List Va) (w : World) (h : RowAt w A r) (h' : RowAt w A' r') (hl : r.length ≤ 9223372036854775807) (_hl' : r'.length ≤ 9223372036854775807) :
    Calls Try.prog 70 #[.slice A r.length c, .slice A' r'.length c'] w fun e w' => e = .returned (.int .i64 (cmpR r r')) ∧ Below w.heap.size w w' := by
  go_enter Try.func70, Try.ntmps70
  go_wp2_with fail
  go_loopw [5] (fun i wr => ∃ j : Nat, j ≤ r.length ∧ j ≤ r'.length ∧ i = .int .i64 j ∧ Below w.heap.size w wr ∧ Hid (cmpR r r' = cmpR (r.drop j) (r'.drop j))) (fun i _ => r.length - (intOf i).toNat)
  case atStart => exact ⟨0, Nat.zero_le _, Nat.zero_le _, rfl, Below.refl _ _, Lib.hid (by simp)⟩
  case round =>
    obtain ⟨j, hj, hj', rfl, hB, HC⟩ := hrel
    have hr := h.kept hB
    have hr' := h'.kept hB
    have HR := Lib.hid h
    have HR' := Lib.hid h'
    clear h h'
    by_cases hlt : j < r.length
    · by_cases hlt' : j < r'.length
      · obtain ⟨b, off, rfl, hb, c0, c1, c2⟩ := hr.at hlt
        obtain ⟨b', off', rfl, hb', d0, d1, d2⟩ := hr'.at hlt'
        clear hr hr'
        have HS := Lib.hid (cmpR_step r r' j hlt hlt')
        generalize r[j] = v at c0 c1 c2 HS
        generalize r'[j] = v' at d0 d1 d2 HS
        have hi0 : (0 : Int) ≤ (j : Int) := Int.natCast_nonneg _
        have hi1 : (j : Int) < (r.length : Int) := by omega
        have hi2 : (j : Int) < (r'.length : Int) := by omega
        have hB1 := Below.drew hB
        go_wp2_with fail
        go_region_held3 (fun w' => Below w.heap.size w w' ∧ w'.cell? ⟨b, off + j * 3, none⟩ = some (.int .i64 v.k) ∧ w'.cell? ⟨b, off + j * 3 + 1, none⟩ = some (.int .i64 v.n) ∧ w'.cell? ⟨b, off + j * 3 + 2, none⟩ = some (.string v.s) ∧
            w'.cell? ⟨b', off' + j * 3, none⟩ = some (.int .i64 v'.k) ∧ w'.cell? ⟨b', off' + j * 3 + 1, none⟩ = some (.int .i64 v'.n) ∧ w'.cell? ⟨b', off' + j * 3 + 2, none⟩ = some (.string v'.s))
          (first
            | exact ⟨hB1, c0, c1, c2, d0, d1, d2⟩
            | ((try go_split_ands)
               refine ⟨?_, ?_, ?_, ?_, ?_, ?_, ?_⟩
               all_goals first | assumption | (exact Below.drew (by assumption)) | (exact bt (by assumption) hbx) | (exact cell_kept hbx (by assumption)) | go_keep))
          (first
            | (go_at_call 94; refine (refCompareA v v' _).mono ?_; rintro e w' ⟨rfl, hbx⟩))
        rename_i hold
        have hB2 := hold.1
        clear hold hB1 hB c0 c1 c2 d0 d1 d2
        by_cases hz : cmpA v v' = 0
        · have hz' : (cmpA v v' != 0) = false := by simpa using hz
          have HE := Lib.hid (show cmpR r r' = cmpR (r.drop (j + 1)) (r'.drop (j + 1)) by rw [HC.out, HS.out, if_pos hz])
          clear hz
          go_wp2_with fail
          go_roundw
          case rel => exact ⟨j + 1, by omega, by omega, by go_num, hB2, HE⟩
          case measure => simp [intOf]; omega
        · have hz' : (cmpA v v' != 0) = true := by simpa using hz
          have HE := Lib.hid (show cmpR r r' = cmpA v v' by rw [HC.out, HS.out, if_neg hz])
          clear hz
          go_wp2_with fail
          go_ret
          exact ⟨ret_int HE.out.symm, hB2⟩
      · have HE := Lib.hid (show cmpR r r' = 1 by rw [HC.out]; exact cmpR_short r r' j hlt (by omega))
        go_wp2_with fail
        go_ret
        exact ⟨ret_int HE.out.symm, hB⟩
    · by_cases hlt' : j < r'.length
      · have HE := Lib.hid (show cmpR r r' = -1 by rw [HC.out]; exact cmpR_long r r' j (by omega) hlt')
        go_wp2_with fail
        go_ret
        exact ⟨ret_int HE.out.symm, hB⟩
      · have HE := Lib.hid (show cmpR r r' = 0 by rw [HC.out]; exact cmpR_both r r' j (by omega) (by omega))
        go_wp2_with fail
        go_ret
        exact ⟨ret_int HE.out.symm, hB⟩

set_option maxHeartbeats 400000 in
theorem refRowSame_any (A A' : Option Addr) (c c' : Nat) (r r' : List Va) (w : World) (h : RowAt w A r) (h' : RowAt w A' r') (hl : r.length ≤ 9223372036854775807) (hl' : r'.length ≤ 9223372036854775807) :
    Calls Try.prog 29 #[.slice A r.length c, .slice A' r'.length c'] w fun e w' => e = .returned (.bool (cmpR r r' == 0)) ∧ Below w.heap.size w w' := by
  go_enter Try.func29, Try.ntmps29
  go_wp2_with fail
  refine (refRowCompare_any A A' c c' r r' _ h h' hl hl').mono ?_
  rintro e w1 ⟨rfl, hb1⟩
  go_wp2_with fail
  go_ret
  exact ⟨rfl, hb1⟩

end Go.Proofs.Ytdjhoiamongdaaa
