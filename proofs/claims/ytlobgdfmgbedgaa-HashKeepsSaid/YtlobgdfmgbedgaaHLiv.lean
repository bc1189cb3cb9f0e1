/-
  Contract of 'lives' of package hash's laws.
-/
import Derived.Test.YtlobgdfmgbedgaaHSpl
namespace Go.Proofs.Ytlobgdfmgbedgaa
open Go.RowKit Go.Shelf

def rowI : List Va := [⟨2, 5, ⟨#[]⟩⟩]
theorem rowI_ok : okR rowI = true := by decide +kernel
theorem rowI_fine : Fine rowI := by
  intro v hv
  simp [rowI] at hv
  subst hv
  decide
theorem rowI_new (w : World) (n : Nat) (hn : w.heap.size = n) : RowAt (w.alloc (.cells #[.int .i64 2, .int .i64 5, .string ⟨#[]⟩] 83)) (some ⟨n, 0, none⟩) rowI := by
  subst hn; exact (Own.new w 83 rowI).row
theorem rows_new (w : World) (g n : Nat) (hn : w.heap.size = n) (hr : RowAt w (some ⟨g, 0, none⟩) rowI) :
    RowsAt (w.alloc (.cells #[.slice (some ⟨g, 0, none⟩) 1 1, .slice none 0 0] 22)) (some ⟨n, 0, none⟩) [rowI, []] := by
  subst hn
  refine .inr ⟨_, 0, rfl, by simp, fun i r hr' => ?_⟩
  match i, hr' with
  | 0, hr' => cases hr'; exact ⟨_, 1, by simp; rfl, hr.kept (ba _ _), fun hh => by cases hh⟩
  | 1, hr' => cases hr'; exact ⟨none, 0, by simp, .inl rfl, fun _ => rfl⟩
theorem split_live : splitH 7 0 1 [] [rowI, []] = [[rowI, []]] ∧ firstE [] [rowI, []] = 0 := by
  have e : ∀ k : List Va, partH 7 0 1 k = 0 := fun k => Int.emod_one _
  refine ⟨by simp [splitH, addH, e], ?_⟩
  decide +kernel
theorem num_live : numH 0 [] = 14695981038468906945 := by decide +kernel
theorem may_live : mayH 1 64 = true ∧ mayH 0 1 = true ∧ mayH 9 1 = false := by decide +kernel

set_option maxRecDepth 100000 in
set_option maxHeartbeats 4000000 in
theorem livesH_yes (w : World) :
    Calls Try.prog 30 #[] w fun e w' => e = .returned (.bool true) ∧ Below w.heap.size w w' := by
  go_enter Try.func30, Try.ntmps30
  go_wp2_with fail
  refine (refInt_any 5 w).mono ?_
  rintro e w1 ⟨rfl, hb1⟩
  go_wp2_with fail
  have hr := rowI_new w1 _ rfl
  have hB1 := bt hb1 (ba w1 (.cells #[.int .i64 2, .int .i64 5, .string ⟨#[]⟩] 83))
  generalize w1.alloc (.cells #[.int .i64 2, .int .i64 5, .string ⟨#[]⟩] 83) = W1 at hr hB1 ⊢
  generalize w1.heap.size = g1 at hr ⊢
  have HR := Lib.hid hr
  have HB := Lib.hid hB1
  clear hb1 hr hB1
  refine (hashRow_ok (some ⟨g1, 0, none⟩) 1 7 rowI W1 HR.out rowI_fine rowI_ok).mono ?_
  rintro e w2 ⟨rfl, hb⟩
  have HR := Lib.hid (HR.out.kept hb)
  have HB := Lib.hid (bt HB.out hb)
  clear hb
  generalize hN : numH 7 (putR rowI) = n
  have HN := Lib.hid hN
  clear hN
  go_wp2_with fail
  refine (part_ok (some ⟨g1, 0, none⟩) 1 7 1 64 rowI w2 may_live.1 HR.out rowI_fine rowI_ok).mono ?_
  rintro e w3 ⟨rfl, hb⟩
  have HR := Lib.hid (HR.out.kept hb)
  have HB := Lib.hid (bt HB.out hb)
  clear hb
  generalize hM : partH 7 1 64 rowI = m
  have HM := Lib.hid hM
  clear hM
  go_wp2_with fail
  refine (split_any (some ⟨w3.heap.size, 0, none⟩) none 2 0 7 0 1 [rowI, []] [] _ may_live.2.1 (rows_new w3 g1 _ rfl HR.out) (.inl rfl) (by simp) (by simp [rowI]) (by intro r hr; simp at hr; rcases hr with rfl | rfl; exact rowI_fine; intro v hv; cases hv) (by simp)).mono ?_
  rintro e w4 ⟨hb, hx⟩
  rw [split_live.1, split_live.2] at hx
  rcases hx with ⟨h0, _⟩ | ⟨_, g, vs, rfl, hP⟩
  · exact absurd rfl h0
  have hb4 := bt (ba w3 _) hb
  have HR := Lib.hid (HR.out.kept hb4)
  have HB := Lib.hid (bt HB.out hb4)
  have HP := Lib.hid hP
  clear hb hb4 hP
  go_wp2_with fail
  refine (part_may (some ⟨g1, 0, none⟩) 1 7 9 1 rowI w4 may_live.2.2).mono ?_
  rintro e w5 ⟨rfl, rfl⟩
  go_wp2_with fail
  refine (refPut_any (some ⟨g1, 0, none⟩) 1 rowI _ HR.out rowI_ok).mono ?_
  rintro e w5 ⟨g2, cap2, rfl, hbuf, hb⟩
  have HR := Lib.hid (HR.out.kept hb)
  have HB := Lib.hid (bt HB.out hb)
  have HP := Lib.hid (HP.out.kept hb)
  have HF := Lib.hid (hbuf.bytes (putR_byte rowI rowI_ok))
  clear hb hbuf
  rw [← putR_length rowI]
  go_wp2_with fail
  refine (refBytes_any _ _ 7 (putR rowI) _ HF.out (by decide +kernel)).mono ?_
  rw [HN.out]
  rintro e w6 ⟨rfl, rfl⟩
  go_wp2_with fail
  refine (hashBytes_any none 0 0 [] _ ⟨.inl rfl, by simp⟩ (by simp)).mono ?_
  rw [num_live]
  rintro e w6 ⟨rfl, hb⟩
  have HR := Lib.hid (HR.out.kept hb)
  have HB := Lib.hid (bt HB.out hb)
  have HP := Lib.hid (HP.out.kept hb)
  clear hb HF
  go_wp2_with fail
  refine (refPart_ok (some ⟨g1, 0, none⟩) 1 7 1 64 rowI w6 may_live.1 HR.out rowI_ok).mono ?_
  rw [HM.out]
  rintro e w7 ⟨rfl, hb⟩
  have HB := Lib.hid (bt HB.out hb)
  have hP := HP.out.kept hb
  obtain ⟨v, hv, xs, ho, _⟩ := hP.lists (i := 0) (by simp)
  obtain ⟨g', cap', rfl, _⟩ := ho.form (by simp)
  have c0 := (hP.cell 0).trans hv
  clear hb HP hP ho HR
  go_wp2_with fail
  go_ret
  exact ⟨by simp, HB.out⟩
end Go.Proofs.Ytlobgdfmgbedgaa
