/-
  page.Add of a page that was made; 'lives' of package page's laws.
-/
import Derived.Test.YtdjhoiamongdaaaPgI
namespace Go.Proofs.Ytdjhoiamongdaaa
open Go.RowKit Go.Shelf

/-- The ends of page.Add of a page of rows. -/
def AddMade (w : World) (rs : List (List Va)) (r : List Va) (e : Ending) (w' : World) : Prop :=
  Below w.heap.size w w' ∧ if mayI r = 0 then
    (if fitsP (rs ++ [r]) = true then ∃ g, e = .returned (.tuple #[.slice (some ⟨g, 0, none⟩) 256 256, .int .i64 0]) ∧ w.heap.size ≤ g ∧ OwnB w' g (makeP (rs ++ [r])) else e = .returned (.tuple #[.slice none 0 0, .int .i64 2]))
  else e = .returned (.tuple #[.slice none 0 0, .int .i64 (mayI r)])
theorem add_made (A : Option Addr) (c : Nat) (rs : List (List Va)) (R : Option Addr) (cr : Nat) (r : List Va) (w : World) (h : BytesAt w A (makeP rs)) (hok : allOk rs) (hfit : fitsP rs = true) (hc : 256 ≤ c) (hr : RowAt w R r) (hf : Fine r) (hl : r.length ≤ 9223372036854775807) :
    Calls Try.prog 18 #[.slice A 256 c, .slice R r.length cr] w (AddMade w rs r) := by
  refine (pageAdd_any A 256 c (makeP rs) R cr r w h (makeP_len hfit) hc hr hf hl).mono fun e w' he => ?_
  obtain ⟨hb, he⟩ := he
  refine ⟨hb, ?_⟩
  rw [make_openP hok hfit] at he
  simp only at he
  have hfs := fits_snoc (r := r) hfit
  unfold mayI
  by_cases hk : okR r = true
  · by_cases hw : 253 < 1 + sumV r
    · simp only [if_pos hk, if_pos hw] at he ⊢
      rw [if_neg (by decide)]
      exact he
    · simp only [if_pos hk, if_neg hw] at he ⊢
      rw [if_pos trivial]
      by_cases hroom : ((1 + sumV r : Nat) : Int) ≤ roomI rs.length ((1 + lenP rs : Nat) : Int)
      · rw [if_pos hroom] at he
        have hfn : fitsP (rs ++ [r]) = true := hfs.trans (decide_eq_true hroom)
        rw [if_pos hfn]
        obtain ⟨g, h1, h2, h3⟩ := he
        rw [put_make hfn] at h3
        exact ⟨g, h1, h2, h3⟩
      · rw [if_neg hroom] at he
        have hfn : fitsP (rs ++ [r]) = false := hfs.trans (decide_eq_false hroom)
        rw [if_neg (by rw [hfn]; decide)]
        exact he
  · simp only [if_neg hk] at he ⊢
    rw [if_neg (by decide)]
    exact he

def rowP : List Va := [⟨2, 5, ⟨#[]⟩⟩]
theorem rowP_ok : okR rowP = true := by decide +kernel
theorem rowP_len : rowP.length ≤ 9223372036854775807 := by simp [rowP]
theorem rowP_may : mayI rowP = 0 ∧ mayI [] = 0 := by decide +kernel
theorem rowP_fine : Fine rowP := by
  intro v hv
  simp [rowP] at hv
  subst hv
  decide
theorem rowP_new (w : World) (n : Nat) (hn : w.heap.size = n) : RowAt (w.alloc (.cells #[.int .i64 2, .int .i64 5, .string ⟨#[]⟩] 94)) (some ⟨n, 0, none⟩) rowP := by
  subst hn; exact (Own.new w 94 rowP).row
theorem rowsP_new (w : World) (g n : Nat) (hn : w.heap.size = n) (hr : RowAt w (some ⟨g, 0, none⟩) rowP) :
    RowsAt (w.alloc (.cells #[.slice (some ⟨g, 0, none⟩) 1 1, .slice (some ⟨g, 0, none⟩) 1 1] 30)) (some ⟨n, 0, none⟩) [rowP, rowP] := by
  subst hn
  refine .inr ⟨_, 0, rfl, by simp, fun i r hr' => ?_⟩
  match i, hr' with
  | 0, hr' => cases hr'; exact ⟨_, 1, by simp; rfl, hr.kept (ba _ _), fun hh => by cases hh⟩
  | 1, hr' => cases hr'; exact ⟨_, 1, by simp; rfl, hr.kept (ba _ _), fun hh => by cases hh⟩
theorem fits_live : fitsP [rowP] = true ∧ fitsP [rowP, []] = true ∧ fillP [rowP, rowP] = [[rowP, rowP]] ∧ badP [rowP, rowP] = 0 :=
  ⟨by decide +kernel, by decide +kernel, (show addG ([] ++ [[rowP]]) rowP = [] ++ [[rowP] ++ [rowP]] from addG_in (by decide +kernel)), by decide +kernel⟩
theorem page_live : (makeP [rowP, []]).getD 0 0 = 2 ∧ (makeP [rowP, []]).getD 255 0 = 1 ∧ (makeP [rowP, []]).getD 253 0 = 10 ∧ 1 + lenP [rowP, []] = 11 := by decide +kernel
theorem ok_live : allOk [] ∧ allOk [rowP] ∧ allOk [rowP, []] ∧ GoodG [[rowP, rowP]] := by
  have h : okR [] = true := by decide +kernel
  refine ⟨fun r hr => (by cases hr), fun r hr => ?_, fun r hr => ?_, fun p hp => ?_⟩
  · simp at hr; subst hr; exact rowP_ok
  · simp at hr; rcases hr with rfl | rfl
    · exact rowP_ok
    · exact h
  · simp at hp
    subst hp
    refine ⟨by decide +kernel, fun r hr => ?_, by simp⟩
    simp at hr; subst hr; exact rowP_ok
theorem zero_make : zeroP = makeP [] := make_nil.symm
theorem OwnB.zero {w : World} {g : Nat} (h : OwnB w g zeroP) : BytesAt w (some ⟨g, 0, none⟩) (makeP []) := by
  rw [← zero_make]
  exact h.bytes (by intro x hx; obtain ⟨_, rfl⟩ := List.mem_replicate.1 hx; omega)
theorem open_nil : openP [] = none := by decide

set_option maxRecDepth 100000 in
set_option maxHeartbeats 4000000 in
theorem livesP_yes (w : World) :
    Calls Try.prog 16 #[] w fun e w' => e = .returned (.bool true) ∧ Below w.heap.size w w' := by
  go_enter Try.func16, Try.ntmps16
  go_wp2_with fail
  refine (refInt_any 5 w).mono ?_
  rintro e w1 ⟨rfl, hb1⟩
  go_wp2_with fail
  have hr := rowP_new w1 _ rfl
  have hB1 := bt hb1 (ba w1 (.cells #[.int .i64 2, .int .i64 5, .string ⟨#[]⟩] 94))
  generalize w1.alloc (.cells #[.int .i64 2, .int .i64 5, .string ⟨#[]⟩] 94) = W1 at hr hB1 ⊢
  generalize w1.heap.size = g1 at hr ⊢
  have HR := Lib.hid hr
  have HB := Lib.hid hB1
  clear hb1 hr hB1
  refine (pageNew_any _).mono ?_
  rintro e w2 ⟨g, rfl, hg, hz, hb⟩
  clear hg
  have HR := Lib.hid (HR.out.kept hb)
  have HB := Lib.hid (bt HB.out hb)
  have HZ := Lib.hid (show BytesAt w2 (some ⟨g, 0, none⟩) (makeP []) from hz.zero)
  clear hb hz
  go_wp2_with fail
  refine (add_made (some ⟨g, 0, none⟩) 256 [] (some ⟨g1, 0, none⟩) 1 rowP w2 HZ.out ok_live.1 fits_nil (Nat.le_refl _) HR.out rowP_fine rowP_len).mono ?_
  rintro e w3 ⟨hb, he⟩
  rw [if_pos rowP_may.1, if_pos (show fitsP ([] ++ [rowP]) = true from fits_live.1)] at he
  obtain ⟨ga, rfl, _, ho⟩ := he
  have HR := Lib.hid (HR.out.kept hb)
  have HB := Lib.hid (bt HB.out hb)
  have HZ := Lib.hid (show BytesAt w3 (some ⟨ga, 0, none⟩) (makeP [rowP]) from ho.bytes (makeP_byte ok_live.2.1 fits_live.1))
  clear hb ho
  go_wp2_with fail
  refine (add_made (some ⟨ga, 0, none⟩) 256 [rowP] none 0 [] w3 HZ.out ok_live.2.1 fits_live.1 (Nat.le_refl _) (.inl rfl) (fun v hv => by cases hv) (Nat.zero_le _)).mono ?_
  rintro e w4 ⟨hb, he⟩
  rw [if_pos rowP_may.2, if_pos (show fitsP ([rowP] ++ [[]]) = true from fits_live.2.1)] at he
  obtain ⟨gb, rfl, _, ho⟩ := he
  have HR := Lib.hid (HR.out.kept hb)
  have HB := Lib.hid (bt HB.out hb)
  have HQ := Lib.hid (show OwnB w4 gb (makeP [rowP, []]) from ho)
  have HZ := Lib.hid (show BytesAt w4 (some ⟨gb, 0, none⟩) (makeP [rowP, []]) from ho.bytes (makeP_byte ok_live.2.2.1 fits_live.2.1))
  have HLn := Lib.hid (makeP_len fits_live.2.1)
  have HOp := Lib.hid (make_openP ok_live.2.2.1 fits_live.2.1)
  clear hb ho
  go_wp2_with fail
  refine (pageRows_any (some ⟨gb, 0, none⟩) 256 256 (makeP [rowP, []]) w4 HZ.out HLn.out (Nat.le_refl _)).mono ?_
  rw [HOp.out]
  rintro e w5 ⟨hb, A5, c5, rfl, _, _, _⟩
  have HR := Lib.hid (HR.out.kept hb)
  have HB := Lib.hid (bt HB.out hb)
  have HQ := Lib.hid (HQ.out.kept hb)
  have HZ := Lib.hid (HZ.out.kept hb)
  clear hb
  go_wp2_with fail
  refine (pageGet_any (some ⟨gb, 0, none⟩) 256 256 (makeP [rowP, []]) 0 w5 HZ.out HLn.out (Nat.le_refl _)).mono ?_
  rw [HOp.out]
  rintro e w6 ⟨hb, he⟩
  simp only at he
  rw [if_pos (by simp)] at he
  obtain ⟨A6, c6, rfl, hx⟩ := he
  have HX := Lib.hid (show RowAt w6 A6 rowP from hx)
  have HR := Lib.hid (HR.out.kept hb)
  have HB := Lib.hid (bt HB.out hb)
  have HQ := Lib.hid (HQ.out.kept hb)
  have HZ := Lib.hid (HZ.out.kept hb)
  clear hb hx
  go_wp2_with fail
  refine (pageGet_any (some ⟨gb, 0, none⟩) 256 256 (makeP [rowP, []]) 2 w6 HZ.out HLn.out (Nat.le_refl _)).mono ?_
  rw [HOp.out]
  rintro e w7 ⟨hb, he⟩
  simp only at he
  rw [if_neg (by simp)] at he
  subst he
  have HX := Lib.hid (HX.out.kept hb)
  have HR := Lib.hid (HR.out.kept hb)
  have HB := Lib.hid (bt HB.out hb)
  have HQ := Lib.hid (HQ.out.kept hb)
  have HZ := Lib.hid (HZ.out.kept hb)
  clear hb
  go_wp2_with fail
  refine (fill_any (some ⟨w7.heap.size, 0, none⟩) 2 2 [rowP, rowP] _ (rowsP_new w7 g1 _ rfl HR.out) rfl (by decide) (by intro r hr; simp at hr; subst hr; exact rowP_fine) (by intro r hr; simp at hr; subst hr; exact rowP_len)).mono ?_
  rintro e w8 ⟨hb, he⟩
  rw [if_pos fits_live.2.2.2, fits_live.2.2.1] at he
  obtain ⟨A8, c8, rfl, hp8, _⟩ := he
  have hb8 := bt (ba w7 _) hb
  have HX := Lib.hid (HX.out.kept hb8)
  have HR := Lib.hid (HR.out.kept hb8)
  have HB := Lib.hid (bt HB.out hb8)
  have HQ := Lib.hid (HQ.out.kept hb8)
  have HZ := Lib.hid (HZ.out.kept hb8)
  have HP8 := Lib.hid hp8
  clear hb hb8 hp8
  go_wp2_with fail
  refine (pages_any A8 c8 1 ([[rowP, rowP]].map makeP) w8 HP8.out rfl (by decide)).mono ?_
  rw [pagesP_make ok_live.2.2.2]
  rintro e w9 ⟨hb, A9, c9, rfl, _, _, _⟩
  have HX := Lib.hid (HX.out.kept hb)
  have HR := Lib.hid (HR.out.kept hb)
  have HB := Lib.hid (bt HB.out hb)
  have HQ := Lib.hid (HQ.out.kept hb)
  have HZ := Lib.hid (HZ.out.kept hb)
  clear hb
  go_wp2_with fail
  refine (pageNew_any _).mono ?_
  rintro e w10 ⟨gn, rfl, hg, _, hb⟩
  clear hg
  have HX := Lib.hid (HX.out.kept hb)
  have HR := Lib.hid (HR.out.kept hb)
  have HB := Lib.hid (bt HB.out hb)
  have HQ := Lib.hid (HQ.out.kept hb)
  have HZ := Lib.hid (HZ.out.kept hb)
  clear hb
  go_wp2_with fail
  refine (pageNew_any _).mono ?_
  rintro e w11 ⟨gm, rfl, hg, hz, hb⟩
  clear hg
  have HX := Lib.hid (HX.out.kept hb)
  have HR := Lib.hid (HR.out.kept hb)
  have HB := Lib.hid (bt HB.out hb)
  have HQ := Lib.hid (HQ.out.kept hb)
  have HZ := Lib.hid (HZ.out.kept hb)
  have HN := Lib.hid (show BytesAt w11 (some ⟨gm, 0, none⟩) (makeP []) from hz.zero)
  clear hb hz
  go_wp2_with fail
  refine (pageRoom_any (some ⟨gm, 0, none⟩) 256 256 (makeP []) w11 HN.out (makeP_len fits_nil) (Nat.le_refl _)).mono ?_
  rw [make_openP ok_live.1 fits_nil]
  rintro e w12 ⟨rfl, hb⟩
  have HX := Lib.hid (HX.out.kept hb)
  have HR := Lib.hid (HR.out.kept hb)
  have HB := Lib.hid (bt HB.out hb)
  have HQ := Lib.hid (HQ.out.kept hb)
  have HZ := Lib.hid (HZ.out.kept hb)
  clear hb
  have c0 := HQ.out.at (o := 0) (by rw [HLn.out]; decide)
  have c1 := HQ.out.at (o := 255) (by rw [HLn.out]; decide)
  have c2 := HQ.out.at (o := 253) (by rw [HLn.out]; decide)
  rw [page_live.1] at c0
  rw [page_live.2.1] at c1
  rw [page_live.2.2.1] at c2
  simp only [show roomI (([] : List (List Va)).length : Int) ((1 + lenP [] : Nat) : Int) = 253 by decide]
  go_wp2_with fail
  refine (refSame_self A6 (some ⟨g1, 0, none⟩) c6 1 rowP w12 HX.out HR.out rowP_len).mono ?_
  rintro e w13 ⟨rfl, hb⟩
  have HB := Lib.hid (bt HB.out hb)
  have HZ := Lib.hid (HZ.out.kept hb)
  clear hb c0 c1 c2
  go_wp2_with fail
  refine (pageCheck_any none 0 0 [] w13 ⟨.inl rfl, by simp⟩ rfl (Nat.le_refl _)).mono ?_
  rw [open_nil]
  rintro e w14 ⟨rfl, hb⟩
  have HB := Lib.hid (bt HB.out hb)
  have HZ := Lib.hid (HZ.out.kept hb)
  clear hb
  go_wp2_with fail
  refine (pageCount_any (some ⟨gb, 0, none⟩) 256 256 (makeP [rowP, []]) w14 HZ.out HLn.out (Nat.le_refl _)).mono ?_
  rw [HOp.out]
  rintro e w15 ⟨rfl, hb⟩
  have HB := Lib.hid (bt HB.out hb)
  have HZ := Lib.hid (HZ.out.kept hb)
  clear hb
  go_wp2_with fail
  refine (pageRoom_any (some ⟨gb, 0, none⟩) 256 256 (makeP [rowP, []]) w15 HZ.out HLn.out (Nat.le_refl _)).mono ?_
  rw [HOp.out, page_live.2.2.2]
  rintro e w16 ⟨rfl, hb⟩
  have HB := Lib.hid (bt HB.out hb)
  clear hb
  simp only [show roomI (([rowP, []] : List (List Va)).length : Int) ((11 : Nat) : Int) = 239 by decide]
  go_wp2_with fail
  go_ret
  exact ⟨by simp, HB.out⟩
end Go.Proofs.Ytdjhoiamongdaaa
