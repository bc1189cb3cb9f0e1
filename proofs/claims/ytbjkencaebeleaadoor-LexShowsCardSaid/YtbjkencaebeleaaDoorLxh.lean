/-
  What must come of every program: the document's lives.
-/
import Derived.Test.YtbjkencaebeleaaDoorLxg
import Derived.KernelRfl
namespace Go.Proofs.YtbjkencaebeleaaDoor
open Go.RowKit Go.Shelf

abbrev txt1 : ByteArray := ⟨#[83, 69, 76, 69, 67, 84, 32, 97, 60, 61, 49, 50, 32, 45, 45, 32, 98, 10, 39, 105, 116, 39, 39, 115, 39]⟩
abbrev L6 : List TkA := [(⟨2, [83, 69, 76, 69, 67, 84], 0⟩, 0), (⟨1, [97], 0⟩, 7), (⟨5, [60, 61], 0⟩, 8), (⟨3, [49, 50], 12⟩, 10), (⟨4, [105, 116, 39, 115], 0⟩, 18), (⟨6, [], 0⟩, 25)]
theorem lx1 : Lx.lx (txt1.size + 1) (bs txt1) 0 0 = .ok L6 25 := by kernel_rfl
theorem lx2 : Lx.lx ((⟨#[97, 32, 63]⟩ : ByteArray).size + 1) (bs ⟨#[97, 32, 63]⟩) 0 0 = .bad 2 90 := by kernel_rfl
theorem shw6 : Lx.shw (L6.map (·.1)) = [83, 69, 76, 69, 67, 84, 32, 97, 32, 60, 61, 32, 49, 50, 32, 39, 105, 116, 39, 39, 115, 39, 32] := by kernel_rfl
theorem k1 : Lx.key (bs ⟨#[66, 89]⟩) = true := by kernel_rfl
theorem k2 : Lx.key (bs ⟨#[98, 121]⟩) = false := by kernel_rfl
theorem n1 : isName ⟨#[98, 121]⟩ = true := by kernel_rfl
theorem n2 : isName ⟨#[66, 89]⟩ = false := by kernel_rfl

theorem Told.reads {base : Nat} {W : World} {v : Value} {l : List TkA} (h : W.ownsRow base 32 4 v l.length (tks l)) (hl : l ≠ []) : ∃ g cap, v = .slice (some ⟨g, 0, none⟩) l.length cap ∧ TkAt W (some ⟨g, 0, none⟩) l := by
  rcases h.2 with ⟨_, h0⟩ | ⟨g, cap, cur, hv, hb, hg, hc, hm, hsz, ht⟩
  · exact absurd (List.eq_nil_of_length_eq_zero h0) hl
  · refine ⟨g, cap, hv, .inr ⟨g, 0, rfl, fun j u hj => ?_⟩⟩
    have hlt : j < l.length * 4 := by rw [← tks_len]; exact (List.getElem?_eq_some_iff.1 hj).1
    have e : cur.toList[j]? = (tks l)[j]? := by rw [← ht, List.getElem?_take_of_lt hlt]
    have e3 : W.cell? ⟨g, j, none⟩ = cur[j]? := by simp [World.cell?, hg]
    rw [Nat.zero_add, e3, ← Array.getElem?_toList, e, hj]
theorem TkAt.at0 {w : World} {g : Nat} {l : List TkA} (h : TkAt w (some ⟨g, 0, none⟩) l) {i : Nat} {x : TkA} (hx : l[i]? = some x) : TC w g (i * 4) x := by
  obtain ⟨g', off, e, hX⟩ := h.at hx
  simp only [Option.some.injEq, Addr.mk.injEq] at e
  obtain ⟨rfl, rfl, _⟩ := e
  rwa [Nat.zero_add] at hX
set_option maxRecDepth 100000 in
set_option maxHeartbeats 4000000 in
theorem lives_yes (w : World) (hT : Tabs w) : Calls Tryd.prog 5 #[] w fun e w' => e = .returned (.bool true) ∧ Below w.heap.size w w' := by
  have HT := Lib.hid hT
  clear hT
  go_enter Tryd.func5, Tryd.ntmps5
  go_wp2_with fail
  refine (all_any txt1 _ (by decide) HT.out).mono ?_
  rintro e w1 ⟨v, rfl, hv, hb⟩
  rw [lx1] at hv
  obtain ⟨l, rfl, hown⟩ := hv
  obtain ⟨g, cap, rfl, hat⟩ := Told.reads hown (by simp)
  have HB := Lib.hid hb
  have HA := Lib.hid hat
  have HT1 := Lib.hid (HT.out.kept hb)
  clear hown hb hat
  go_wp2_with fail
  refine (all_any ⟨#[97, 32, 63]⟩ _ (by decide) HT1.out).mono ?_
  rintro e w2 ⟨v, rfl, hv, hb⟩
  rw [lx2] at hv
  obtain rfl := hv
  have HB2 := Lib.hid (bt HB.out hb)
  have HA2 := Lib.hid (HA.out.kept hb)
  clear hb HT1 HA HB
  have z0 : w2.cell? ⟨g, 0, none⟩ = some (.int .i64 2) := (HA2.out.at0 (i := 0) rfl).c0
  have z1 : w2.cell? ⟨g, 1, none⟩ = some (.string ⟨#[83, 69, 76, 69, 67, 84]⟩) := (HA2.out.at0 (i := 0) rfl).c1
  have z2 : w2.cell? ⟨g, 2, none⟩ = some (.int .i64 0) := (HA2.out.at0 (i := 0) rfl).c2
  have z3 : w2.cell? ⟨g, 3, none⟩ = some (.int .i64 0) := (HA2.out.at0 (i := 0) rfl).c3
  have z4 : w2.cell? ⟨g, 4, none⟩ = some (.int .i64 1) := (HA2.out.at0 (i := 1) rfl).c0
  have z5 : w2.cell? ⟨g, 5, none⟩ = some (.string ⟨#[97]⟩) := (HA2.out.at0 (i := 1) rfl).c1
  have z6 : w2.cell? ⟨g, 6, none⟩ = some (.int .i64 0) := (HA2.out.at0 (i := 1) rfl).c2
  have z7 : w2.cell? ⟨g, 7, none⟩ = some (.int .i64 7) := (HA2.out.at0 (i := 1) rfl).c3
  have z9 : w2.cell? ⟨g, 9, none⟩ = some (.string ⟨#[60, 61]⟩) := (HA2.out.at0 (i := 2) rfl).c1
  have z14 : w2.cell? ⟨g, 14, none⟩ = some (.int .i64 12) := (HA2.out.at0 (i := 3) rfl).c2
  have z16 : w2.cell? ⟨g, 16, none⟩ = some (.int .i64 4) := (HA2.out.at0 (i := 4) rfl).c0
  have z17 : w2.cell? ⟨g, 17, none⟩ = some (.string ⟨#[105, 116, 39, 115]⟩) := (HA2.out.at0 (i := 4) rfl).c1
  have z18 : w2.cell? ⟨g, 18, none⟩ = some (.int .i64 0) := (HA2.out.at0 (i := 4) rfl).c2
  have z19 : w2.cell? ⟨g, 19, none⟩ = some (.int .i64 18) := (HA2.out.at0 (i := 4) rfl).c3
  have z20 : w2.cell? ⟨g, 20, none⟩ = some (.int .i64 6) := (HA2.out.at0 (i := 5) rfl).c0
  have HTx := Lib.hid (HT.out.kept HB2.out)
  go_wp2_with fail
  refine (key_any _ _ HTx.out).mono ?_
  rintro e w2 ⟨rfl, rfl⟩
  rw [k1]
  go_wp2_with fail
  refine (key_any _ _ HTx.out).mono ?_
  rintro e w2 ⟨rfl, rfl⟩
  rw [k2]
  go_wp2_with fail
  refine (name_any _ _ (by decide) HTx.out).mono ?_
  rintro e w3 ⟨rfl, hb3⟩
  rw [n1]
  have HT3 := Lib.hid (HTx.out.kept hb3)
  have HB3 := Lib.hid (bt HB2.out hb3)
  have HA3 := Lib.hid (HA2.out.kept hb3)
  clear hb3 HTx HB2 HA2
  go_wp2_with fail
  refine (name_any _ _ (by decide) HT3.out).mono ?_
  rintro e w4 ⟨rfl, hb3⟩
  rw [n2]
  have HT4 := Lib.hid (HT3.out.kept hb3)
  have HB4 := Lib.hid (bt HB3.out hb3)
  have HA4 := Lib.hid (HA3.out.kept hb3)
  clear hb3 HT3 HB3 HA3
  go_wp2_with fail
  refine (keys_any _ HT4.out).mono ?_
  rintro e w5 ⟨⟨A, cp, rfl⟩, hb3⟩
  have HT5 := Lib.hid (HT4.out.kept hb3)
  have HB5 := Lib.hid (bt HB4.out hb3)
  have HA5 := Lib.hid (HA4.out.kept hb3)
  clear hb3 HT4 HB4 HA4
  go_wp2_with fail
  refine (shows_any _ cap L6 _ HA5.out HT5.out (by decide) (by decide) (by rw [shw6]; decide)).mono ?_
  rintro e w6 ⟨rfl, hb3⟩
  rw [shw6]
  have HB6 := Lib.hid (bt HB5.out hb3)
  clear hb3
  go_wp2_with fail
  go_ret
  exact ⟨rfl, HB6.out⟩
end Go.Proofs.YtbjkencaebeleaaDoor
