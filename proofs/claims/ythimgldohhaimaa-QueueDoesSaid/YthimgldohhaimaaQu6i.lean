/-
  Package queue, of one type: Move from one queue into another.
-/
import Derived.Test.YthimgldohhaimaaQu5i
namespace Go.Proofs.Ythimgldohhaimaa
open Go.RowKit Go.Conc

section
variable {B : Nat} {w : World} {q c p d cf ct : Nat}
/-- What Move leaves. -/
def MoveEndI (B : Nat) (w : World) (q c p d cf ct : Nat) (xs ys : List Int) (clf clt : Bool) (most : Int) (e : Ending) (w' : World) : Prop :=
  ∃ k : Nat, k = mvK xs.length (roomN ⟨ct, ys.map (Value.int .i64), clt⟩) most ∧ e = .returned (.int .i64 k) ∧ QatI B w' q c ⟨cf, (xs.drop k).map (Value.int .i64), clf⟩ ∧ QatI B w' p d ⟨ct, (ys ++ xs.take k).map (Value.int .i64), clt⟩ ∧ O4 q c p d w w'
set_option maxRecDepth 100000 in
set_option maxHeartbeats 4000000 in
theorem moveI_any (xs ys : List Int) (clf clt : Bool) (most : Int) (hf : QatI B w q c ⟨cf, xs.map (Value.int .i64), clf⟩) (ht : QatI B w p d ⟨ct, ys.map (Value.int .i64), clt⟩) (hqp : q ≠ p) (hcd : c ≠ d) :
    Calls Try.prog 29 #[.pointer (some ⟨q, 0, none⟩), .pointer (some ⟨p, 0, none⟩), .int .i64 most] w (MoveEndI B w q c p d cf ct xs ys clf clt most) := by
  obtain ⟨j0, hj0, hs0⟩ := sizeI_q
  have qe := run_eql_ptr_other (P := Try.prog) w (tp := 23) (a := ⟨q, 0, none⟩) (b := ⟨p, 0, none⟩) Try.underlying23 hj0 (by omega) (fun e => hqp (by injection e)) hf.box ht.box
  have hlen : xs.length ≤ 1024 := by have := hf.room; have := hf.most.2; simp at *; omega
  have HF := Lib.hid (show QatI B w q c ⟨cf, (xs.drop 0).map (Value.int .i64), clf⟩ from hf)
  have HT := Lib.hid (show QatI B w p d ⟨ct, (ys ++ xs.take 0).map (Value.int .i64), clt⟩ by simpa using ht)
  have HO := Lib.hid (O4.refl q c p d w)
  have HNE := Lib.hid (And.intro hqp hcd)
  clear hf ht hqp hcd hj0 hs0
  go_enter Try.func29, Try.ntmps29
  go_wp2_with fail
  clear qe
  go_loopw [7] (fun v wr => ∃ j : Nat, v = .int .i64 j ∧ j ≤ xs.length ∧ Hid (j ≤ most.toNat) ∧ Hid (j ≤ roomN ⟨ct, ys.map (Value.int .i64), clt⟩) ∧ Hid (QatI B wr q c ⟨cf, (xs.drop j).map (Value.int .i64), clf⟩) ∧ Hid (QatI B wr p d ⟨ct, (ys ++ xs.take j).map (Value.int .i64), clt⟩) ∧ Hid (O4 q c p d w wr)) (fun v _ => xs.length - (intOf v).toNat)
  case atStart => exact ⟨0, rfl, Nat.zero_le _, Lib.hid (Nat.zero_le _), Lib.hid (Nat.zero_le _), HF, HT, HO⟩
  case round =>
    obtain ⟨j, rfl, hj, HM, HR, HF1, HT1, HO1⟩ := hrel
    clear HF HT HO
    have hlt1 : (ys ++ xs.take j).length = ys.length + j := by simp; omega
    by_cases hm : (j : Int) < most
    · go_wp2_with fail
      refine (roomI_any HT1.out).mono ?_
      rintro e w1 ⟨rfl, hb1⟩
      have HF2 := Lib.hid (HF1.out.kept hb1)
      have HT2 := Lib.hid (HT1.out.kept hb1)
      have HO2 := Lib.hid (HO1.out.trans (O4.of_below hb1 HF1.out.clt HT1.out.clt))
      obtain ⟨rm, hrm⟩ : ∃ rm, rm = roomOf ⟨ct, (ys ++ xs.take j).map (Value.int .i64), clt⟩ := ⟨_, rfl⟩
      rw [← hrm]
      have HRM := Lib.hid hrm
      clear hrm hb1 HF1 HT1 HO1
      by_cases h0 : 0 < rm
      · have hopen : clt = false ∧ ys.length + j < ct := by
          have h1 := HRM.out
          unfold roomOf at h1
          cases clt with
          | true => simp at h1; omega
          | false => simp at h1; exact ⟨rfl, by omega⟩
        obtain ⟨rfl, hroom⟩ := hopen
        by_cases hjx : j < xs.length
        · go_wp2_with fail
          refine (takeI_any HF2.out (xs.drop j) rfl).mono ?_
          rintro e w3 ⟨rfl, hq3, ho3, hu3, ha3⟩
          rw [show decide (0 < (xs.drop j).length) = true from decide_eq_true (by simp; omega)]
          obtain ⟨x, hx⟩ : ∃ x, x = hdI (xs.drop j) := ⟨_, rfl⟩
          rw [← hx]
          have HX := Lib.hid hx
          have HF3 := Lib.hid hq3
          have HT3 := Lib.hid (HT2.out.other HF2.out ho3 (Ne.symm HNE.out.1) (Ne.symm HNE.out.2))
          have HO3 := Lib.hid (HO2.out.trans (O4.fst ho3 hu3 ha3 HT2.out.clt (HF2.out.cross HT2.out).2 (Ne.symm HNE.out.2)))
          clear hx hq3 ho3 hu3 ha3 HF2 HT2 HO2
          go_wp2_with fail
          refine (putI_room x HT3.out (by rw [List.length_map, hlt1]; exact hroom)).mono ?_
          rintro e w4 ⟨rfl, hq4, ho4, ha4⟩
          have HT4 := Lib.hid hq4
          have HF4 := Lib.hid (HF3.out.other HT3.out ho4 HNE.out.1 HNE.out.2)
          have HO4 := Lib.hid (HO3.out.trans (O4.snd ho4 ha4 HF3.out.clt (HF3.out.cross HT3.out).1 HNE.out.2))
          clear hq4 ho4 ha4 HF3 HT3 HO3
          go_wp2_with fail
          go_roundw
          case rel =>
            have hrn : roomN ⟨ct, ys.map (Value.int .i64), false⟩ = ct - ys.length := by simp [roomN]
            refine ⟨j + 1, by go_num, hjx, Lib.hid (by omega), Lib.hid (by omega), Lib.hid (by simpa using HF4.out), ?_, HO4⟩
            have := HT4.out
            rw [dropI xs j hjx, ← HX.out, ← List.append_assoc, List.map_append (l₂ := [x])]
            exact Lib.hid this
          case measure => simp [intOf]; omega
        · have hjx : j = xs.length := by omega
          subst hjx
          go_wp2_with fail
          refine (takeI_any HF2.out (xs.drop xs.length) rfl).mono ?_
          rintro e w3 ⟨rfl, hq3, ho3, hu3, ha3⟩
          rw [show decide (0 < (xs.drop xs.length).length) = false from decide_eq_false (by simp)]
          have HF3 := Lib.hid hq3
          have HT3 := Lib.hid (HT2.out.other HF2.out ho3 (Ne.symm HNE.out.1) (Ne.symm HNE.out.2))
          have HO3 := Lib.hid (HO2.out.trans (O4.fst ho3 hu3 ha3 HT2.out.clt (HF2.out.cross HT2.out).2 (Ne.symm HNE.out.2)))
          clear hq3 ho3 hu3 ha3 HF2 HT2 HO2
          go_wp2_with fail
          go_ret
          refine ⟨xs.length, ?_, rfl, by simpa using HF3.out, HT3.out, HO3.out⟩
          have := HM.out
          have := HR.out
          simp only [mvK]
          omega
      · go_wp2_with fail
        go_ret
        refine ⟨j, ?_, rfl, HF2.out, HT2.out, HO2.out⟩
        have h1 := HM.out
        have h2 := HR.out
        have h3 := HRM.out
        simp only [mvK]
        unfold roomOf at h3
        unfold roomN at h2 ⊢
        cases clt with
        | true => simp at h2 h3 ⊢; omega
        | false => simp at h2 h3 ⊢; omega
    · go_wp2_with fail
      go_ret
      refine ⟨j, ?_, rfl, HF1.out, HT1.out, HO1.out⟩
      have h1 := HM.out
      have h2 := HR.out
      simp only [mvK]
      omega
end
end Go.Proofs.Ythimgldohhaimaa
