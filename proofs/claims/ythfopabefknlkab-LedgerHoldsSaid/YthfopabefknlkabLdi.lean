/-
  Package ledger: the laws' lives.
-/
import Derived.Test.YthfopabefknlkabLdh
namespace Go.Proofs.Ythfopabefknlkab
open Go.RowKit Go.Maps Go.Sort

theorem new_five (w : World) :
    Calls Try.prog 8 #[.int .i64 5] w fun e w' => (∃ l m b, e = .returned (.tuple #[.pointer (some ⟨l, 0, none⟩), .int .i64 0]) ∧ Led w.heap.size w' l m [⟨0, b, -1, 5, 0, 0⟩] 0 0) ∧ Below w.heap.size w w' := by
  refine (new_any 5 w).mono ?_
  rintro e w' ⟨hb, h⟩
  rw [if_pos (by omega)] at h
  exact ⟨h, hb⟩
theorem new_less (w : World) :
    Calls Try.prog 8 #[.int .i64 (-1)] w fun e w' => e = .returned (.tuple #[.pointer none, .int .i64 1]) ∧ Below w.heap.size w w' := by
  refine (new_any (-1) w).mono ?_
  rintro e w' ⟨hb, h⟩
  rw [if_neg (by omega)] at h
  exact ⟨h, hb⟩
set_option maxRecDepth 100000 in
set_option maxHeartbeats 4000000 in
theorem lives6_yes (w : World) :
    Calls Try.prog 9 #[] w fun e w' => e = .returned (.bool true) ∧ Below w.heap.size w w' := by
  go_enter Try.func9, Try.ntmps9
  go_wp2_with fail
  refine (new_five w).mono ?_
  rintro e w1 ⟨⟨l, m, b, rfl, h1⟩, hb1⟩
  have HL1 := Lib.hid h1
  have HB1 := Lib.hid hb1
  clear h1 hb1
  go_wp2_with fail
  refine (lv_open HL1.out).mono ?_
  rintro e w2 ⟨rfl, ⟨b', h2⟩, hb2⟩
  have HL2 := Lib.hid h2
  have HB2 := Lib.hid (HB1.out.trans hb2)
  clear h2 hb2
  go_wp2_with fail
  refine (lv_left HL2.out).mono ?_
  rintro e w3 ⟨rfl, h3, hb3⟩
  have HL3 := Lib.hid h3
  have HB3 := Lib.hid (HB2.out.trans hb3)
  clear h3 hb3
  go_wp2_with fail
  refine (lv_take1 HL3.out).mono ?_
  rintro e w4 ⟨rfl, h4, hb4⟩
  have HL4 := Lib.hid h4
  have HB4 := Lib.hid (HB3.out.trans hb4)
  clear h4 hb4
  go_wp2_with fail
  refine (lv_take2 HL4.out).mono ?_
  rintro e w5 ⟨rfl, h5, hb5⟩
  have HL5 := Lib.hid h5
  have HB5 := Lib.hid (HB4.out.trans hb5)
  clear h5 hb5
  go_wp2_with fail
  refine (lv_take3 HL5.out).mono ?_
  rintro e w6 ⟨rfl, h6, hb6⟩
  have HL6 := Lib.hid h6
  have HB6 := Lib.hid (HB5.out.trans hb6)
  clear h6 hb6
  go_wp2_with fail
  refine (lv_close1 HL6.out).mono ?_
  rintro e w7 ⟨rfl, h7, hb7⟩
  have HL7 := Lib.hid h7
  have HB7 := Lib.hid (HB6.out.trans hb7)
  clear h7 hb7
  go_wp2_with fail
  refine (lv_give HL7.out).mono ?_
  rintro e w8 ⟨rfl, h8, hb8⟩
  have HL8 := Lib.hid h8
  have HB8 := Lib.hid (HB7.out.trans hb8)
  clear h8 hb8
  go_wp2_with fail
  refine (lv_close2 HL8.out).mono ?_
  rintro e w9 ⟨rfl, h9, hb9⟩
  have HL9 := Lib.hid h9
  have HB9 := Lib.hid (HB8.out.trans hb9)
  clear h9 hb9
  go_wp2_with fail
  refine (new_less w9).mono ?_
  rintro e wa ⟨rfl, hba⟩
  have HLa := Lib.hid (HL9.out.kept hba)
  have HBa := Lib.hid (bt HB9.out hba)
  clear hba
  go_wp2_with fail
  refine (total_any l m _ 1 5 wa HLa.out.at_ HLa.out.sane).mono ?_
  rintro e wb ⟨rfl, hbb⟩
  have HLb := Lib.hid (HLa.out.kept hbb)
  have HBb := Lib.hid (bt HBa.out hbb)
  rw [show heldN [⟨0, b, -1, 5, 2, 2⟩] = 2 from rfl]
  clear hbb
  go_wp2_with fail
  refine (most_any l m _ 1 5 wb HLb.out.at_).mono ?_
  rintro e wc ⟨rfl, rfl⟩
  go_wp2_with fail
  refine (peak_any l m _ 1 5 0 wb HLb.out.at_ (by decide)).mono ?_
  rintro e wd ⟨rfl, hbd⟩
  have HLd := Lib.hid (HLb.out.kept hbd)
  have HBd := Lib.hid (bt HBb.out hbd)
  rw [show fieldOf Ac.p (acOf [⟨0, b, -1, 5, 2, 2⟩] 0) = 2 from rfl]
  clear hbd
  go_wp2_with fail
  refine (held_any l m _ 1 5 0 wd HLd.out.at_ (by decide)).mono ?_
  rintro e we ⟨rfl, hbe⟩
  have HLe := Lib.hid (HLd.out.kept hbe)
  have HBe := Lib.hid (bt HBd.out hbe)
  rw [show fieldOf Ac.h (acOf [⟨0, b, -1, 5, 2, 2⟩] 0) = 2 from rfl]
  clear hbe
  go_wp2_with fail
  refine (grant_any l m _ 1 5 0 we HLe.out.at_ (by decide)).mono ?_
  rintro e wf ⟨rfl, hbf⟩
  have HLf := Lib.hid (HLe.out.kept hbf)
  have HBf := Lib.hid (bt HBe.out hbf)
  rw [show fieldOf Ac.g (acOf [⟨0, b, -1, 5, 2, 2⟩] 0) = 5 from rfl]
  clear hbf
  go_wp2_with fail
  refine (left_any l m _ 1 5 0 wf HLf.out.at_ HLf.out.sane (by decide)).mono ?_
  rintro e wg ⟨rfl, hbg⟩
  have HLg := Lib.hid (HLf.out.kept hbg)
  have HBg := Lib.hid (bt HBf.out hbg)
  rw [show leftOf [⟨0, b, -1, 5, 2, 2⟩] 0 = 3 from rfl]
  clear hbg
  go_wp2_with fail
  refine (accounts_any l m _ 1 5 wg HLg.out.at_ HLg.out.sane).mono ?_
  rintro e wh ⟨⟨v, ys, rfl, hp, _, ho⟩, hbh⟩
  have HBh := Lib.hid (bt HBg.out hbh)
  obtain ⟨p, cap, hv⟩ : ∃ p cap, v = .slice p 1 cap := by
    rcases ho.2 with ⟨_, h0⟩ | ⟨g, cap, cur, hv, _⟩
    · cases h0
    · exact ⟨_, cap, hv⟩
  subst hv
  clear hp ho hbh
  go_wp2_with fail
  go_ret
  exact ⟨rfl, HBh.out⟩
end Go.Proofs.Ythfopabefknlkab
