/-
  The walk of PageReads.
-/
import Derived.Test.YtdjhoiamongdaaaPgW1
import Derived.Test.YtdjhoiamongdaaaPgV
namespace Go.Proofs.Ytdjhoiamongdaaa
open Go.RowKit Go.Shelf

set_option maxRecDepth 100000 in
set_option maxHeartbeats 1000000 in
theorem pageReads_large (A : Option Addr) (c L : Nat) (i : Int) (w : World) (hL : (2000 : Int) < L) :
    Calls Try.prog 4 #[.slice A L c, .int .i64 i] w fun e w' => e = .returned (.bool true) ∧ Below w.heap.size w w' := by
  go_enter Try.func4, Try.ntmps4
  go_wp2_with fail
  refine (livesP_yes _).mono ?_
  rintro e w2 ⟨rfl, hb⟩
  go_wp2_with fail
  go_ret
  exact ⟨rfl, hb⟩

set_option maxRecDepth 100000 in
set_option maxHeartbeats 2000000 in
theorem pageReads_none (A : Option Addr) (c L : Nat) (p : List Int) (i : Int) (w : World) (h : BytesAt w A p) (hL : p.length = L) (hc : L ≤ c) (hs : ¬ (2000 : Int) < L) (ho : openP p = none) :
    Calls Try.prog 4 #[.slice A L c, .int .i64 i] w fun e w' => e = .returned (.bool true) ∧ Below w.heap.size w w' := by
  have HR := Lib.hid (refP_eq h.2)
  have HO := Lib.hid ho
  have HH := Lib.hid h
  have HL := Lib.hid hL
  rw [HO.out] at HR
  clear h hL ho
  go_enter Try.func4, Try.ntmps4
  go_wp2_with fail
  refine (pageRows_any A L c p w HH.out HL.out hc).mono ?_
  rw [HO.out]
  rintro e w1 ⟨hb, rfl⟩
  have HB := Lib.hid hb
  have HH := Lib.hid (HH.out.kept hb)
  clear hb
  go_wp2_with fail
  refine (pageGet_any A L c p i w1 HH.out HL.out hc).mono ?_
  rw [HO.out]
  rintro e w2 ⟨hb, rfl⟩
  have HB := Lib.hid (bt HB.out hb)
  have HH := Lib.hid (HH.out.kept hb)
  clear hb
  go_wp2_with fail
  refine (refRows_any A L c p w2 HH.out HL.out hc).mono ?_
  rw [HR.out]
  rintro e w3 ⟨hb, rfl⟩
  have HB := Lib.hid (bt HB.out hb)
  have HH := Lib.hid (HH.out.kept hb)
  clear hb
  go_wp2_with fail
  refine (livesP_yes _).mono ?_
  rintro e w4 ⟨rfl, hb⟩
  have HB := Lib.hid (bt HB.out hb)
  have HH := Lib.hid (HH.out.kept hb)
  clear hb
  go_wp2_with fail
  refine (pageCheck_any A L c p w4 HH.out HL.out hc).mono ?_
  rw [HO.out]
  rintro e w5 ⟨rfl, hb⟩
  have HB := Lib.hid (bt HB.out hb)
  have HH := Lib.hid (HH.out.kept hb)
  clear hb
  go_wp2_with fail
  refine (pageCount_any A L c p w5 HH.out HL.out hc).mono ?_
  rw [HO.out]
  rintro e w6 ⟨rfl, hb⟩
  have HB := Lib.hid (bt HB.out hb)
  have HH := Lib.hid (HH.out.kept hb)
  clear hb
  go_wp2_with fail
  refine (pageRoom_any A L c p w6 HH.out HL.out hc).mono ?_
  rw [HO.out]
  rintro e w7 ⟨rfl, hb⟩
  have HB := Lib.hid (bt HB.out hb)
  clear hb
  go_wp2_with fail
  go_ret
  exact ⟨rfl, HB.out⟩

set_option maxRecDepth 100000 in
set_option maxHeartbeats 4000000 in
theorem pageReads_some (A : Option Addr) (c L : Nat) (p : List Int) (i : Int) (w : World) (h : BytesAt w A p) (hL : p.length = L) (hc : L ≤ c) (hs : ¬ (2000 : Int) < L) (rs : List (List Va)) (n : Nat) (ho : openP p = some (rs, n)) :
    Calls Try.prog 4 #[.slice A L c, .int .i64 i] w fun e w' => e = .returned (.bool true) ∧ Below w.heap.size w w' := by
  obtain ⟨hok, hfit, _, _⟩ := openP_make h.2 ho
  obtain ⟨hn1, _, _⟩ := fitsP_parts hfit
  have HW := Lib.hid (show ∀ r ∈ rs, r.length ≤ 9223372036854775807 from fun r hr => by have := (okR_parts (hok r hr)).1; omega)
  have HR := Lib.hid (refP_eq h.2)
  have HO := Lib.hid ho
  have HH := Lib.hid h
  have HL := Lib.hid hL
  rw [HO.out] at HR
  clear h hL ho hok hfit
  go_enter Try.func4, Try.ntmps4
  go_wp2_with fail
  refine (pageRows_any A L c p w HH.out HL.out hc).mono ?_
  rw [HO.out]
  rintro e w1 ⟨hb, A1, c1, rfl, hr1, _, _⟩
  have HB := Lib.hid hb
  have HH := Lib.hid (HH.out.kept hb)
  have HR1 := Lib.hid hr1
  clear hb hr1
  go_wp2_with fail
  refine (pageGet_any A L c p i w1 HH.out HL.out hc).mono ?_
  rw [HO.out]
  rintro e w2 ⟨hb, he⟩
  have HB := Lib.hid (bt HB.out hb)
  have HH := Lib.hid (HH.out.kept hb)
  have HR1 := Lib.hid (HR1.out.kept hb)
  clear hb
  simp only at he
  by_cases hin : 0 ≤ i ∧ i < rs.length
  · rw [if_pos hin] at he
    obtain ⟨A2, c2, rfl, hr2⟩ := he
    obtain ⟨j, rfl⟩ := Int.eq_ofNat_of_zero_le hin.1
    have hj : j < rs.length := by omega
    have HN := Lib.hid (show rs.getD ((j : Int)).toNat [] = rs[j] by simp [List.getD, hj])
    rw [HN.out] at hr2
    have HR2 := Lib.hid hr2
    have hrl := HW.out rs[j] (List.getElem_mem hj)
    rw [HN.out]
    clear hr2 hin HN
    have hji0 : (0 : Int) ≤ (j : Int) := Int.natCast_nonneg _
    have hji1 : (j : Int) < (rs.length : Int) := by omega
    generalize hrj : rs[j] = r at HR2 hrl
    have HRj := Lib.hid hrj
    clear hrj
    go_wp2_with fail
    refine (refRows_any A L c p w2 HH.out HL.out hc).mono ?_
    rw [HR.out]
    rintro e w3 ⟨hb, A3, c3, rfl, hr3, _, _, _⟩
    have HB := Lib.hid (bt HB.out hb)
    have HH := Lib.hid (HH.out.kept hb)
    have HR1 := Lib.hid (HR1.out.kept hb)
    have HR2 := Lib.hid (HR2.out.kept hb)
    have HR3 := Lib.hid hr3
    clear hb hr3
    go_wp2_with fail
    refine (livesP_yes _).mono ?_
    rintro e w4 ⟨rfl, hb⟩
    have HB := Lib.hid (bt HB.out hb)
    have HH := Lib.hid (HH.out.kept hb)
    have HR1 := Lib.hid (HR1.out.kept hb)
    have HR2 := Lib.hid (HR2.out.kept hb)
    have HR3 := Lib.hid (HR3.out.kept hb)
    clear hb
    go_wp2_with fail
    refine (sameList_self A1 A3 c1 c3 rs w4 HR1.out HR3.out (by omega) HW.out).mono ?_
    rintro e w5 ⟨rfl, hb⟩
    have HB := Lib.hid (bt HB.out hb)
    have HH := Lib.hid (HH.out.kept hb)
    have HR2 := Lib.hid (HR2.out.kept hb)
    have HR3 := Lib.hid (HR3.out.kept hb)
    clear hb
    go_wp2_with fail
    refine (pageCheck_any A L c p w5 HH.out HL.out hc).mono ?_
    rw [HO.out]
    rintro e w6 ⟨rfl, hb⟩
    have HB := Lib.hid (bt HB.out hb)
    have HH := Lib.hid (HH.out.kept hb)
    have HR2 := Lib.hid (HR2.out.kept hb)
    have HR3 := Lib.hid (HR3.out.kept hb)
    clear hb
    go_wp2_with fail
    refine (pageCount_any A L c p w6 HH.out HL.out hc).mono ?_
    rw [HO.out]
    rintro e w7 ⟨rfl, hb⟩
    have HB := Lib.hid (bt HB.out hb)
    have HR2 := Lib.hid (HR2.out.kept hb)
    have HR3 := Lib.hid (HR3.out.kept hb)
    clear hb
    obtain ⟨b, off, rfl, A4, c4, d0, s0⟩ := HR3.out.cellAt hj
    rw [HRj.out] at d0 s0
    have HS := Lib.hid s0
    clear s0
    go_wp2_with fail
    refine (refSame_self A2 A4 c2 c4 r w7 HR2.out HS.out hrl).mono ?_
    rintro e w8 ⟨rfl, hb⟩
    have HB := Lib.hid (bt HB.out hb)
    clear hb
    go_wp2_with fail
    go_ret
    exact ⟨rfl, HB.out⟩
  · rw [if_neg hin] at he
    subst he
    have hx : i < 0 ∨ (rs.length : Int) ≤ i := by omega
    clear hin
    go_wp2_with fail
    refine (refRows_any A L c p w2 HH.out HL.out hc).mono ?_
    rw [HR.out]
    rintro e w3 ⟨hb, A3, c3, rfl, hr3, _, _, _⟩
    have HB := Lib.hid (bt HB.out hb)
    have HH := Lib.hid (HH.out.kept hb)
    have HR1 := Lib.hid (HR1.out.kept hb)
    have HR3 := Lib.hid hr3
    clear hb hr3
    go_wp2_with fail
    refine (livesP_yes _).mono ?_
    rintro e w4 ⟨rfl, hb⟩
    have HB := Lib.hid (bt HB.out hb)
    have HH := Lib.hid (HH.out.kept hb)
    have HR1 := Lib.hid (HR1.out.kept hb)
    have HR3 := Lib.hid (HR3.out.kept hb)
    clear hb
    go_wp2_with fail
    refine (sameList_self A1 A3 c1 c3 rs w4 HR1.out HR3.out (by omega) HW.out).mono ?_
    rintro e w5 ⟨rfl, hb⟩
    have HB := Lib.hid (bt HB.out hb)
    have HH := Lib.hid (HH.out.kept hb)
    clear hb
    go_wp2_with fail
    refine (pageCheck_any A L c p w5 HH.out HL.out hc).mono ?_
    rw [HO.out]
    rintro e w6 ⟨rfl, hb⟩
    have HB := Lib.hid (bt HB.out hb)
    have HH := Lib.hid (HH.out.kept hb)
    clear hb
    go_wp2_with fail
    refine (pageCount_any A L c p w6 HH.out HL.out hc).mono ?_
    rw [HO.out]
    rintro e w7 ⟨rfl, hb⟩
    have HB := Lib.hid (bt HB.out hb)
    clear hb
    rcases hx with hx | hx
    all_goals
      go_wp2_with fail
      go_ret
      exact ⟨rfl, HB.out⟩

theorem pageReads_walk (A : Option Addr) (c : Nat) (p : List Int) (i : Int) (w : World) (h : BytesAt w A p) (hc : p.length ≤ c) :
    Calls Try.prog 4 #[.slice A p.length c, .int .i64 i] w fun e w' => e = .returned (.bool true) ∧ Below w.heap.size w w' := by
  by_cases h1 : (2000 : Int) < p.length
  · exact pageReads_large A c _ i w h1
  · cases ho : openP p with
    | none => exact pageReads_none A c _ p i w h rfl hc h1 ho
    | some q => exact pageReads_some A c _ p i w h rfl hc h1 q.1 q.2 ho
end Go.Proofs.Ytdjhoiamongdaaa
