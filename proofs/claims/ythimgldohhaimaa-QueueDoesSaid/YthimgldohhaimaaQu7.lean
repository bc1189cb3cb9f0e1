/-
  Package queue: the laws' lives.
-/
import Derived.Test.YthimgldohhaimaaQu6i
import Derived.Test.YthimgldohhaimaaQu6s
namespace Go.Proofs.Ythimgldohhaimaa
open Go.RowKit Go.Conc

theorem own_cell {w : World} {base n : Nat} {e : TypeId} {v : Value} {xs : List Value} (h : w.ownsRow base e 1 v n xs) (hn : 0 < n) : ∃ g cap, v = .slice (some ⟨g, 0, none⟩) n cap ∧ base ≤ g ∧ ∀ (i : Nat) (u : Value), xs[i]? = some u → w.cell? ⟨g, i, none⟩ = some u := by
  have hl := h.1
  rw [Nat.mul_one] at hl
  rcases h.2 with ⟨hv, h0⟩ | ⟨g, cap, cur, hv, hb, hg, _, _, _, ht⟩
  · omega
  · refine ⟨g, cap, hv, hb, fun i u hu => ?_⟩
    have hil : i < xs.length := (List.getElem?_eq_some_iff.1 hu).1
    rw [← ht, List.getElem?_take_of_lt (by omega), Array.getElem?_toList] at hu
    simp [World.cell?, hg, hu]
def sX : ByteArray := { data := #[120] }
def sY : ByteArray := { data := #[121] }
def sZ : ByteArray := { data := #[122] }
def sW : ByteArray := { data := #[119] }
section
variable {B : Nat} {w : World} {q c : Nat}
theorem bq {TQ TE : TypeId} {w0 w1 : World} {Q : Qs} (hb : Below w.heap.size w w0) (h : QAt TQ TE w.heap.size w0 q c Q) (ho : Only q c w0 w1) : Below w.heap.size w w1 := hb.trans (ho.below h.lo.1 h.lo.2 h.lt)
theorem lv_new (w : World) : Calls Try.prog 22 #[.int .i64 2] w fun e w' => (∃ q c, e = .returned (.tuple #[.pointer (some ⟨q, 0, none⟩), .int .i64 0]) ∧ QatS w.heap.size w' q c ⟨2, [], false⟩) ∧ Below w.heap.size w w' := by
  refine (newS_any 2 w).mono ?_
  rintro e w' ⟨hb, h⟩
  rw [if_pos (by decide)] at h
  exact ⟨h, hb⟩
theorem lv_no (w : World) : Calls Try.prog 12 #[.int .i64 0] w fun e w' => e = .returned (.tuple #[.pointer none, .int .i64 1]) ∧ Below w.heap.size w w' := by
  refine (newI_any 0 w).mono ?_
  rintro e w' ⟨hb, h⟩
  rw [if_neg (by decide)] at h
  exact ⟨h, hb⟩
theorem lv_put1 (h : QatS B w q c ⟨2, [], false⟩) : Calls Try.prog 23 #[.pointer (some ⟨q, 0, none⟩), .string { data := #[120] }] w fun e w' => e = .returned (.bool true) ∧ QatS B w' q c ⟨2, [.string sX], false⟩ ∧ Only q c w w' := (putS_room sX h (by decide)).mono fun _ _ hh => ⟨hh.1, hh.2.1, hh.2.2.1⟩
theorem lv_put2 (h : QatS B w q c ⟨2, [.string sX], false⟩) : Calls Try.prog 23 #[.pointer (some ⟨q, 0, none⟩), .string { data := #[121] }] w fun e w' => e = .returned (.bool true) ∧ QatS B w' q c ⟨2, [.string sX, .string sY], false⟩ ∧ Only q c w w' := (putS_room sY h (by decide)).mono fun _ _ hh => ⟨hh.1, hh.2.1, hh.2.2.1⟩
theorem lv_put3 (h : QatS B w q c ⟨2, [.string sX, .string sY], false⟩) : Calls Try.prog 23 #[.pointer (some ⟨q, 0, none⟩), .string { data := #[122] }] w fun e w' => e = .returned (.bool false) ∧ Below w.heap.size w w' := putS_full sZ h (by decide)
theorem lv_put4 (h : QatS B w q c ⟨2, [.string sY], true⟩) : Calls Try.prog 23 #[.pointer (some ⟨q, 0, none⟩), .string { data := #[119] }] w fun e w' => e = .returned (.bool false) ∧ Below w.heap.size w w' := putS_shut sW h
theorem lv_take (h : QatS B w q c ⟨2, [.string sX, .string sY], false⟩) : Calls Try.prog 47 #[.pointer (some ⟨q, 0, none⟩)] w fun e w' => e = .returned (.tuple #[.string { data := #[120] }, .bool true]) ∧ QatS B w' q c ⟨2, [.string sY], false⟩ ∧ Only q c w w' :=
  (takeS_some sX _ h).mono fun _ _ hh => ⟨hh.1, hh.2.1, hh.2.2.1⟩
theorem lv_len (h : QatS B w q c ⟨2, [.string sY], false⟩) : Calls Try.prog 48 #[.pointer (some ⟨q, 0, none⟩)] w fun e w' => e = .returned (.int .i64 1) ∧ w = w' := lenS_any h
theorem lv_room (h : QatS B w q c ⟨2, [.string sY], false⟩) : Calls Try.prog 49 #[.pointer (some ⟨q, 0, none⟩)] w fun e w' => e = .returned (.int .i64 1) ∧ Below w.heap.size w w' := roomS_any h
theorem lv_all (h : QatS B w q c ⟨2, [.string sY], true⟩) : Calls Try.prog 25 #[.pointer (some ⟨q, 0, none⟩)] w fun e w' => (∃ g cap, e = .returned (.slice (some ⟨g, 0, none⟩) 1 cap) ∧ g < w'.heap.size ∧ w'.cell? ⟨g, 0, none⟩ = some (.string { data := #[121] })) ∧ QatS B w' q c ⟨2, [], true⟩ ∧ Only q c w w' := by
  refine (allS_any [sY] h).mono ?_
  rintro e w' ⟨v, rfl, ho, hq, hon, _⟩
  obtain ⟨g, cap, rfl, hb, hc⟩ := own_cell ho (by decide)
  exact ⟨⟨g, cap, rfl, (ho.lt g rfl).2, hc 0 _ rfl⟩, hq, hon⟩
end
set_option maxRecDepth 100000 in
set_option maxHeartbeats 8000000 in
theorem lives7_yes (w : World) :
    Calls Try.prog 14 #[] w fun e w' => e = .returned (.bool true) ∧ Below w.heap.size w w' := by
  go_enter Try.func14, Try.ntmps14
  go_wp2_with fail
  refine (lv_new w).mono ?_
  rintro e w1 ⟨⟨q, c, rfl, h⟩, hb⟩
  have HQ1 := Lib.hid h
  have HB1 := Lib.hid hb
  clear h hb
  go_wp2_with fail
  refine (lv_put1 HQ1.out).mono ?_
  rintro e w2 ⟨rfl, h, ho⟩
  have HB2 := Lib.hid (bq HB1.out HQ1.out ho)
  have HQ2 := Lib.hid h
  clear h ho HQ1 HB1
  go_wp2_with fail
  refine (lv_put2 HQ2.out).mono ?_
  rintro e w3 ⟨rfl, h, ho⟩
  have HB3 := Lib.hid (bq HB2.out HQ2.out ho)
  have HQ3 := Lib.hid h
  clear h ho HQ2 HB2
  go_wp2_with fail
  refine (lv_put3 HQ3.out).mono ?_
  rintro e w4 ⟨rfl, hb⟩
  have HB4 := Lib.hid (bt HB3.out hb)
  have HQ4 := Lib.hid (HQ3.out.kept hb)
  clear hb HQ3 HB3
  go_wp2_with fail
  refine (lv_take HQ4.out).mono ?_
  rintro e w5 ⟨rfl, h, ho⟩
  have HB5 := Lib.hid (bq HB4.out HQ4.out ho)
  have HQ5 := Lib.hid h
  clear h ho HQ4 HB4
  go_wp2_with fail
  refine (lv_len HQ5.out).mono ?_
  rintro e wx ⟨rfl, rfl⟩
  go_wp2_with fail
  refine (lv_room HQ5.out).mono ?_
  rintro e w6 ⟨rfl, hb⟩
  have HB6 := Lib.hid (bt HB5.out hb)
  have HQ6 := Lib.hid (HQ5.out.kept hb)
  clear hb HQ5 HB5
  go_wp2_with fail
  refine (closeS_open HQ6.out).mono ?_
  rintro e w7 ⟨rfl, h, ho, _⟩
  have HB7 := Lib.hid (bq HB6.out HQ6.out ho)
  have HQ7 := Lib.hid h
  clear h ho HQ6 HB6
  go_wp2_with fail
  refine (closeS_shut HQ7.out).mono ?_
  rintro e wx ⟨rfl, rfl⟩
  go_wp2_with fail
  refine (lv_put4 HQ7.out).mono ?_
  rintro e w8 ⟨rfl, hb⟩
  have HB8 := Lib.hid (bt HB7.out hb)
  have HQ8 := Lib.hid (HQ7.out.kept hb)
  clear hb HQ7 HB7
  go_wp2_with fail
  refine (lv_all HQ8.out).mono ?_
  rintro e w9 ⟨⟨g, cap, rfl, hg, hcell⟩, h, ho⟩
  have HB9 := Lib.hid (bq HB8.out HQ8.out ho)
  have HQ9 := Lib.hid h
  have HG := Lib.hid (And.intro hg hcell)
  clear h ho HQ8 HB8 hg hcell
  go_wp2_with fail
  refine (takeS_shut HQ9.out).mono ?_
  rintro e wx ⟨rfl, rfl⟩
  unfold zS
  go_wp2_with fail
  refine (lv_no w9).mono ?_
  rintro e w10 ⟨rfl, hb⟩
  have HB10 := Lib.hid (bt HB9.out hb)
  have HQ10 := Lib.hid (HQ9.out.kept hb)
  have hcell : w10.cell? ⟨g, 0, none⟩ = some (.string { data := #[121] }) := (hb.cell (p := ⟨g, 0, none⟩) HG.out.1).trans HG.out.2
  clear hb HQ9 HB9 HG
  go_wp2_with fail
  refine (closedS_any HQ10.out).mono ?_
  rintro e wx ⟨rfl, rfl⟩
  go_wp2_with fail
  go_ret
  exact ⟨rfl, HB10.out⟩
end Go.Proofs.Ythimgldohhaimaa
