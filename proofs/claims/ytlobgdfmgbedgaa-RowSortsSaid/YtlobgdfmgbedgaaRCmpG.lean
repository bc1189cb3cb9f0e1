/-
  Contracts of value.Compare and row.Compare that tell the world behind them: new blocks, and nothing else.
-/
import Derived.Test.YtlobgdfmgbedgaaRCmp
import Derived.Sort.Grow
namespace Go.Proofs.Ytlobgdfmgbedgaa
open Go.RowKit Go.Shelf

/-- New blocks behind the heap, and nothing else. -/
def Gr (w w' : World) : Prop := Below w.heap.size w w' ∧ w'.drawn = w.drawn
theorem Gr.refl (w : World) : Gr w w := ⟨Below.refl _ _, rfl⟩
theorem Gr.alloc (w : World) (o : Obj) : Gr w (w.alloc o) := ⟨ba w o, rfl⟩
theorem Gr.trans {a b c : World} (h : Gr a b) (k : Gr b c) : Gr a c := ⟨bt h.1 k.1, k.2.trans h.2⟩
theorem Gr.grow {w w' : World} (h : Gr w w') : ∃ os, w' = Sort.grow w os := by
  refine ⟨w'.heap.extract w.heap.size w'.heap.size, ?_⟩
  have hh : w'.heap = w.heap ++ w'.heap.extract w.heap.size w'.heap.size := by
    apply Array.ext_getElem?
    intro k
    rcases Nat.lt_or_ge k w.heap.size with hk | hk
    · rw [h.1.block k hk, Array.getElem?_append_left hk]
    · rw [Array.getElem?_append_right hk, Array.getElem?_extract]
      split
      · congr 1; omega
      · rw [Array.getElem?_eq_none (by omega)]
  obtain ⟨heap, tape, drawn, os, output⟩ := w
  obtain ⟨heap', tape', drawn', os', output'⟩ := w'
  obtain ⟨⟨h1, h2, h3, _, _⟩, h4⟩ := h
  simp only at h1 h2 h3 h4 hh
  subst h1 h2 h3 h4
  unfold Sort.grow
  simp only
  rw [← hh]

set_option maxHeartbeats 400000 in
theorem compare_g (k n : Int) (s : ByteArray) (k' n' : Int) (s' : ByteArray) (w : World) :
    Calls Try.prog 90 #[VV k n s, VV k' n' s'] w fun e w' => e = .returned (.int .i64 (cmpV k n s k' n' s')) ∧ Gr w w' := by
  have hB : ∀ o1 o2, Gr w ((w.alloc o1).alloc o2) := fun o1 o2 => (Gr.alloc _ _).trans (Gr.alloc _ _)
  by_cases hk : k = k'
  · subst hk
    by_cases hn : n = n'
    · subst hn
      go_enter Try.func90, Try.ntmps90
      go_wp2_with (go_at_call 108; refine (cmpStr_any _ _ _).mono ?_; rintro e w' ⟨rfl, rfl⟩)
      go_ret
      exact ⟨ret_int (by simp [cmpV]), hB _ _⟩
    · have hn' : (n != n') = true := by simpa using hn
      go_enter Try.func90, Try.ntmps90
      go_wp2_with (go_at_call 107; refine (cmpInt_any _ _ _).mono ?_; rintro e w' ⟨rfl, rfl⟩)
      go_ret
      exact ⟨ret_int (by simp [cmpV, hn]), hB _ _⟩
  · have hk' : (k != k') = true := by simpa using hk
    go_enter Try.func90, Try.ntmps90
    go_wp2_with (go_at_call 107; refine (cmpInt_any _ _ _).mono ?_; rintro e w' ⟨rfl, rfl⟩)
    go_ret
    exact ⟨ret_int (by simp [cmpV, hk]), hB _ _⟩

theorem compareA_g (a b : Va) (w : World) :
    Calls Try.prog 90 #[VV a.k a.n a.s, VV b.k b.n b.s] w fun e w' => e = .returned (.int .i64 (cmpA a b)) ∧ Gr w w' := compare_g _ _ _ _ _ _ _

set_option maxHeartbeats 1000000 in
theorem compareFunc_g (A A' : Option Addr) (c c' : Nat) (r r' : List Va) (w : World) (h : RowAt w A r) (h' : RowAt w A' r') (hl : r.length ≤ 9223372036854775807) (_hl' : r'.length ≤ 9223372036854775807) :
    Calls Try.prog 96 #[.slice A r.length c, .slice A' r'.length c', .func (.func 90) #[] #[]] w fun e w' => e = .returned (.int .i64 (cmpR r r')) ∧ Gr w w' := by
  have eg := enters_of Try.func90 (by kernel_rfl) rfl
  unfold Enters at eg
  go_enter Try.func96, Try.ntmps96
  go_wp2_with fail
  go_loopw [13] (fun i wr => ∃ j : Nat, j ≤ r.length ∧ j ≤ r'.length ∧ i = .int .i64 j ∧ Gr w wr ∧ Hid (cmpR r r' = cmpR (r.drop j) (r'.drop j))) (fun i _ => r.length - (intOf i).toNat)
  case atStart => exact ⟨0, Nat.zero_le _, Nat.zero_le _, rfl, Gr.refl _, Lib.hid (by simp)⟩
  case round =>
    obtain ⟨j, hj, hj', rfl, hG, HC⟩ := hrel
    have hB := hG.1
    have hr := h.kept hB
    have hr' := h'.kept hB
    have HR := Lib.hid h
    have HR' := Lib.hid h'
    clear h h'
    by_cases hlt : j < r.length
    · obtain ⟨b, off, rfl, hb, c0, c1, c2⟩ := hr.at hlt
      clear hr
      by_cases hlt' : j < r'.length
      · obtain ⟨b', off', rfl, hb', d0, d1, d2⟩ := hr'.at hlt'
        clear hr'
        have HS := Lib.hid (cmpR_step r r' j hlt hlt')
        generalize r[j] = v at c0 c1 c2 HS
        generalize r'[j] = v' at d0 d1 d2 HS
        by_cases hz : cmpA v v' = 0
        · have hz' : (cmpA v v' != 0) = false := by simpa using hz
          have HE := Lib.hid (show cmpR r r' = cmpR (r.drop (j + 1)) (r'.drop (j + 1)) by rw [HC.out, HS.out, if_pos hz])
          clear hz
          go_wp2_with fail
          refine (compareA_g v v' _).mono ?_
          rintro e w1 ⟨rfl, hb1⟩
          have hB1 := hG.trans (((Gr.alloc _ _).trans (Gr.alloc _ _)).trans hb1)
          clear hb1
          go_wp2_with fail
          go_roundw
          case rel => exact ⟨j + 1, by omega, by omega, by go_num, hB1, HE⟩
          case measure => simp [intOf]; omega
        · have hz' : (cmpA v v' != 0) = true := by simpa using hz
          have HE := Lib.hid (show cmpR r r' = cmpA v v' by rw [HC.out, HS.out, if_neg hz])
          clear hz
          go_wp2_with fail
          refine (compareA_g v v' _).mono ?_
          rintro e w1 ⟨rfl, hb1⟩
          have hB1 := hG.trans (((Gr.alloc _ _).trans (Gr.alloc _ _)).trans hb1)
          clear hb1
          go_wp2_with fail
          go_ret
          exact ⟨ret_int HE.out.symm, hB1⟩
      · have HE := Lib.hid (show cmpR r r' = 1 by rw [HC.out]; exact cmpR_short r r' j hlt (by omega))
        go_wp2_with fail
        go_ret
        exact ⟨ret_int HE.out.symm, hG.trans (Gr.alloc _ _)⟩
    · by_cases hlt' : j < r'.length
      · have HE := Lib.hid (show cmpR r r' = -1 by rw [HC.out]; exact cmpR_long r r' j (by omega) hlt')
        go_wp2_with fail
        go_ret
        exact ⟨ret_int HE.out.symm, hG⟩
      · have HE := Lib.hid (show cmpR r r' = 0 by rw [HC.out]; exact cmpR_both r r' j (by omega) (by omega))
        go_wp2_with fail
        go_ret
        exact ⟨ret_int HE.out.symm, hG⟩

set_option maxHeartbeats 400000 in
theorem rowCompare_g (A A' : Option Addr) (c c' : Nat) (r r' : List Va) (w : World) (h : RowAt w A r) (h' : RowAt w A' r') (hl : r.length ≤ 9223372036854775807) (hl' : r'.length ≤ 9223372036854775807) :
    Calls Try.prog 71 #[.slice A r.length c, .slice A' r'.length c'] w fun e w' => e = .returned (.int .i64 (cmpR r r')) ∧ Gr w w' := by
  go_enter Try.func71, Try.ntmps71
  go_wp2_with fail
  refine (compareFunc_g A A' c c' r r' _ h h' hl hl').mono ?_
  rintro e w1 ⟨rfl, hb1⟩
  go_wp2_with fail
  go_ret
  exact ⟨rfl, hb1⟩

end Go.Proofs.Ytlobgdfmgbedgaa
