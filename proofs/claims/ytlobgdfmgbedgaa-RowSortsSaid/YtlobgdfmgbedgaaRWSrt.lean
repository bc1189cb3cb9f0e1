/-
  The walk of RowSorts.
-/
import Derived.Test.YtlobgdfmgbedgaaRLiv
import Derived.Test.YtlobgdfmgbedgaaRLarge
import Derived.Test.YtlobgdfmgbedgaaRfS
namespace Go.Proofs.Ytlobgdfmgbedgaa
open Go.RowKit Go.Shelf

theorem list_rows {w : World} {B : Option Addr} {rs : List (List Va)} (h : RowsAt w B rs) : ListAt w B rs := h
theorem rows_list {w : World} {B : Option Addr} {rs : List (List Va)} (h : ListAt w B rs) : RowsAt w B rs := h
theorem anyr_take_succ (p : List Va → Bool) (l : List (List Va)) (i : Nat) (hi : i < l.length) : (l.take (i + 1)).any p = ((l.take i).any p || p l[i]) := by
  rw [List.take_succ_eq_append_getElem hi, List.any_append]
  simp

set_option maxRecDepth 100000 in
set_option maxHeartbeats 1000000 in
theorem sorts_many (A : Option Addr) (c : Nat) (rs : List (List Va)) (w : World) (hbig : (200 : Int) < rs.length) :
    Calls Try.prog 5 #[.slice A rs.length c] w fun e w' => e = .returned (.bool true) ∧ Below w.heap.size w w' := by
  go_enter Try.func5, Try.ntmps5
  go_wp2_with fail
  refine (lives_yes _).mono ?_
  rintro e w3 ⟨rfl, hb3⟩
  go_wp2_with fail
  go_ret
  exact ⟨rfl, hb3⟩

set_option maxRecDepth 100000 in
set_option maxHeartbeats 4000000 in
theorem sorts_few (A : Option Addr) (c : Nat) (rs : List (List Va)) (w : World) (h : RowsAt w A rs) (hf : ∀ r ∈ rs, Fine r) (hk : ∀ r ∈ rs, r.length ≤ 9223372036854775807) (hA : A = none → c = 0) (hc : rs.length ≤ c) (hsm : ¬ (200 : Int) < rs.length) :
    Calls Try.prog 5 #[.slice A rs.length c] w fun e w' => e = .returned (.bool true) ∧ Below w.heap.size w w' := by
  have HR := Lib.hid h
  have HF := Lib.hid hf
  have HK := Lib.hid hk
  clear h hf hk
  go_enter Try.func5, Try.ntmps5
  go_wp2_with fail
  go_loopw [3] (fun i wr => ∃ j : Nat, j ≤ rs.length ∧ i = .int .i64 j ∧ Hid (Below w.heap.size w wr) ∧ Hid ((rs.take j).any largeV = false)) (fun i _ => rs.length - (intOf i).toNat)
  case atStart => exact ⟨0, Nat.zero_le _, rfl, Lib.hid (Below.refl _ _), Lib.hid (by simp)⟩
  case round =>
    obtain ⟨j, hj, rfl, HB, HN⟩ := hrel
    by_cases hlt : j < rs.length
    · obtain ⟨b, off, rfl, A', c', c0, r0⟩ := (HR.out.kept HB.out).cellAt hlt
      have hz := HK.out rs[j] (List.getElem_mem hlt)
      have HFj := Lib.hid (HF.out rs[j] (List.getElem_mem hlt))
      have HS := Lib.hid (anyr_take_succ largeV rs j hlt)
      generalize rs[j] = r at c0 r0 hz HFj HS
      have HRj := Lib.hid r0
      clear r0
      go_wp2_with fail
      refine (large_B A' c' r _ HRj.out HFj.out hz).mono ?_
      rintro e w1 ⟨rfl, hb1⟩
      have HB := Lib.hid (bt HB.out hb1)
      clear hb1 c0
      cases hla : largeV r
      · have HN2 := Lib.hid (show (rs.take (j + 1)).any largeV = false by rw [HS.out, HN.out, hla]; rfl)
        go_wp2_with fail
        go_roundw
        case rel => exact ⟨j + 1, by omega, by go_num, HB, HN2⟩
        case measure => simp [intOf]; omega
      · go_wp2_with fail
        refine (lives_yes _).mono ?_
        rintro e w3 ⟨rfl, hb3⟩
        go_wp2_with fail
        go_ret
        exact ⟨rfl, bt HB.out hb3⟩
    · have HL := Lib.hid (show ∀ r ∈ rs, r.length ≤ 100 by
        intro r hr
        have h1 := HN.out
        rw [List.take_of_length_le (by omega), List.any_eq_false] at h1
        have h2 : largeV r = false := by simpa using h1 r hr
        exact (large_len h2).1)
      have HL2 := Lib.hid (show ∀ r ∈ rs, r.length ≤ 65536 from fun r hr => by have := HL.out r hr; omega)
      have HL3 := Lib.hid (show ∀ r ∈ rs, r.length ≤ 9223372036854775807 from fun r hr => by have := HL.out r hr; omega)
      have HI := Lib.hid (((HR.out.kept HB.out).inB (Nat.le_refl _)).kept (Nat.le_refl _) (ba wr (.cells #[] 22)))
      have HO := Lib.hid (owns_emptyL wr _ _ rfl (Nat.le_refl _))
      obtain rfl : j = rs.length := by omega
      go_wp2_with (at_builtin; refine wpList_appL rfl (.tmp 22) (.tmp 23) rfl (.slice (some ⟨wr.heap.size, 0, none⟩) 0 0) [] A c rs.length rs _ wr.heap.size rfl rfl rfl HO.out HI.out hA ?c1 ?c2 ?_)
      case c1 => simp
      case c2 => simp; omega
      intro v' w1 hl hG
      have hl : ListOwn w1 wr.heap.size v' rs := by simpa using hl
      obtain ⟨A9, c9, rfl, hr9, hA9, hc9⟩ := own_end hl
      have HW := Lib.hid hr9
      have HB := Lib.hid (bt HB.out ((ba wr _).trans hG.1))
      clear hl hG hr9 hA9 HO HI
      go_wp2_with fail
      refine (sort_any A9 c9 rs w1 (list_rows HW.out) (by omega) HL2.out).mono ?_
      rintro e w2 ⟨g, rs1, rfl, hs1, hp1, ho1, hb2⟩
      have HS1 := Lib.hid (rows_list hs1)
      have HW := Lib.hid (HW.out.kept hb2)
      have HB := Lib.hid (bt HB.out hb2)
      have HP1 := Lib.hid hp1
      have HO1 := Lib.hid (show InOrder rs1 from ho1.imp (fun hab => by simp [leR]; exact hab))
      clear hs1 hp1 ho1 hb2
      go_wp2_with fail
      refine (lives_yes _).mono ?_
      rintro e w3 ⟨rfl, hb3⟩
      have HS1 := Lib.hid (HS1.out.kept hb3)
      have HW := Lib.hid (HW.out.kept hb3)
      have HB := Lib.hid (bt HB.out hb3)
      clear hb3
      go_wp2_with fail
      refine (refSort_any rs.length A rs.length c rs w3 rfl (Nat.le_refl _) hc (by omega) (HR.out.kept HB.out) hA HL2.out).mono ?_
      rintro e w4 ⟨hb4, A4, c4, rs2, rfl, hr4, hp4, ho4, _, _⟩
      have e12 : rs2 = rs1 := ho4.eq HO1.out (hp4.trans HP1.out.symm)
      subst e12
      have HS1 := Lib.hid (HS1.out.kept hb4)
      have HW := Lib.hid (HW.out.kept hb4)
      have HB := Lib.hid (bt HB.out hb4)
      have HR4 := Lib.hid hr4
      have HLn := Lib.hid (show rs2.length = rs.length from HP1.out.length_eq)
      have HL4 := Lib.hid (show ∀ r ∈ rs2, r.length ≤ 9223372036854775807 from fun r hr => HL3.out r (HP1.out.mem_iff.1 hr))
      clear hb4 hr4 hp4 ho4
      go_wp2_with fail
      refine (sameList_L (some ⟨g, 0, none⟩) A4 rs.length rs.length c4 rs2 _ HLn.out HS1.out HR4.out (by omega) HL4.out).mono ?_
      rintro e w5 ⟨rfl, hb5⟩
      have HW := Lib.hid (HW.out.kept hb5)
      have HB := Lib.hid (bt HB.out hb5)
      clear hb5
      go_wp2_with fail
      refine (sameList_self A9 A c9 c rs _ HW.out (HR.out.kept HB.out) (by omega) HL3.out).mono ?_
      rintro e w6 ⟨rfl, hb6⟩
      have HB := Lib.hid (bt HB.out hb6)
      clear hb6
      go_wp2_with fail
      go_ret
      exact ⟨by simp, HB.out⟩

theorem rowSorts_walk (A : Option Addr) (c : Nat) (rs : List (List Va)) (w : World) (h : RowsAt w A rs) (hf : ∀ r ∈ rs, Fine r) (hk : ∀ r ∈ rs, r.length ≤ 9223372036854775807) (hA : A = none → c = 0) (hc : rs.length ≤ c) :
    Calls Try.prog 5 #[.slice A rs.length c] w fun e w' => e = .returned (.bool true) ∧ Below w.heap.size w w' := by
  by_cases h1 : (200 : Int) < rs.length
  · exact sorts_many A c rs w h1
  · exact sorts_few A c rs w h hf hk hA hc h1
end Go.Proofs.Ytlobgdfmgbedgaa
