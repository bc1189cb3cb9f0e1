/-
  Names.
-/
import Derived.Test.YtbjkencaebeleaaDoorLxf
namespace Go.Proofs.YtbjkencaebeleaaDoor
open Go.RowKit Go.Shelf

def isName (s : ByteArray) : Bool := match Lx.cut (bs s) with
  | some (t, z) => decide (t.k = 1) && decide (z = s.size)
  | none => false
set_option maxHeartbeats 1000000 in
theorem name_any (s : ByteArray) (w : World) (hs : s.size ≤ 16384) (hT : Tabs w) :
    Calls Tryd.prog 11 #[.string s] w fun e w' => e = .returned (.bool (isName s)) ∧ Below w.heap.size w w' := by
  have HT := Lib.hid hT
  clear hT
  go_enter Tryd.func11, Tryd.ntmps11
  go_wp2_with fail
  refine (cut_any s _ hs HT.out).mono ?_
  rintro e w2 ⟨v, rfl, hv, hb⟩
  have HB := Lib.hid hb
  clear hb
  cases hc : Lx.cut (bs s) with
  | none =>
    rw [hc] at hv
    obtain rfl : v = noTok := hv
    have HN := Lib.hid (show isName s = false by rw [isName, hc])
    go_wp2_with fail
    go_ret
    rw [HN.out]
    exact ⟨rfl, bt HB.out (ba w2 _)⟩
  | some x =>
    obtain ⟨t, z⟩ := x
    rw [hc] at hv
    obtain ⟨hz, b, hbs, rfl⟩ := hv
    have HN := Lib.hid (show isName s = (decide (t.k = 1) && decide (z = s.size)) by rw [isName, hc])
    clear hbs hc
    by_cases h1 : t.k = 1
    · have H1 := Lib.hid h1
      have h1' : (t.k : Int) = 1 := by omega
      clear h1
      by_cases h2 : z = s.size
      · subst h2
        go_wp2_with fail
        go_ret
        rw [HN.out, H1.out]
        exact ⟨ret_b (by simp), bt HB.out (ba w2 _)⟩
      · have h2' : ¬ (z : Int) = s.size := by omega
        go_wp2_with fail
        go_ret
        rw [HN.out, H1.out]
        exact ⟨ret_b (by simp [h2]; exact h2'), bt HB.out (ba w2 _)⟩
    · have h1' : ¬ (t.k : Int) = 1 := by omega
      go_wp2_with fail
      go_ret
      rw [HN.out]
      exact ⟨ret_b (by simp [h1]), bt HB.out (ba w2 _)⟩
set_option maxHeartbeats 1000000 in
theorem keys_any (w : World) (hT : Tabs w) :
    Calls Tryd.prog 12 #[] w fun e w' => (∃ A cap, e = .returned (.slice A 28 cap)) ∧ Below w.heap.size w w' := by
  obtain ⟨i0, hi, hz0, hz1, hz2⟩ := infoX_parts info_str
  have HT := Lib.hid hT
  clear hT
  go_enter Tryd.func12, Tryd.ntmps12
  go_wp2_with fail
  go_loopw [3, 1] (fun i v W => ∃ (k : Nat) (xs : List Value), k ≤ 28 ∧ i = .int .i64 k ∧ Hid (W.ownsRow w.heap.size 9 1 v k xs) ∧ Hid (Below w.heap.size w W)) (fun i _ _ => 28 - (intOf i).toNat)
  case atStart => exact ⟨0, [], Nat.zero_le _, rfl, Lib.hid (World.ownsRow_nil _ _ _ _), Lib.hid (Below.refl _ _)⟩
  case round =>
    obtain ⟨k, xs, hk, rfl, HO, HW⟩ := hrel
    obtain ⟨A, cap, hv⟩ : ∃ A cap, u1 = .slice A k cap := by
      rcases HO.out.2 with ⟨h, h0⟩ | ⟨g, cap, cur, hv, _⟩
      · rw [h, h0]; exact ⟨none, 0, rfl⟩
      · exact ⟨_, cap, hv⟩
    subst hv
    by_cases hkl : k < 28
    · obtain ⟨b, hb⟩ : ∃ b, Lx.keys[k]? = some b := ⟨_, List.getElem?_eq_getElem (by rw [keys_len]; exact hkl)⟩
      have hc := (HT.out.kept HW.out).ks k b hb
      clear hb
      have hsz := HW.out.size
      have HSz := Lib.hid hsz
      clear hsz
      go_wp2_with (at_builtin; refine wpList_append_own _ rfl _ _ 33 rfl w.heap.size 9 i0 (.string ⟨#[]⟩) 1 16 Tryd.underlying33 hi hz0 hz1 hz2 rfl (by decide) _ _ _ rfl (HO.out.alloc _) ⟨wr.heap.size, 0, none⟩ 1 1 [.string ⟨b.toArray⟩] rfl rfl ?c1 ?c2 ?c3 ?c4 ?c5 ?_)
      case c1 =>
        intro j u hj
        match j, hj with
        | 0, hj => simp at hj; subst hj; simp [Addr.add]
      case c2 => intro u hu; simp at hu; subst hu; rfl
      case c3 => unfold maxLen; omega
      case c4 => omega
      case c5 => have := HSz.out; simp; omega
      intro v' w1 hown' hg _
      have HG := Lib.hid (show Below w.heap.size w w1 from (HW.out.alloc HSz.out _).grown hg (by have := HSz.out; rw [World.size_alloc]; omega) (fun k hk => (HO.out.lt k hk).1))
      have HO2 := Lib.hid hown'
      clear hown' hg
      go_wp2_with fail
      go_roundw
      case rel => exact ⟨k + 1, _, by omega, by go_num, HO2, HG⟩
      case measure => simp [intOf]; omega
    · obtain rfl : k = 28 := by omega
      go_wp2_with fail
      go_ret
      exact ⟨⟨A, cap, rfl⟩, HW.out⟩
end Go.Proofs.YtbjkencaebeleaaDoor
