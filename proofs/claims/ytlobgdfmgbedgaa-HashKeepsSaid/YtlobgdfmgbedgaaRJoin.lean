/-
  Contracts of the library's Grow and Concat over values, and of row.Join.
-/
import Derived.Test.YtlobgdfmgbedgaaRNul
import Derived.Test.YtlobgdfmgbedgaaGrow
import Derived.Laws.AppendOwnNone
namespace Go.Proofs.Ytlobgdfmgbedgaa
open Go.RowKit Go.Shelf

/-- What Grow makes of nothing. -/
theorem grow_nil (n : Nat) (w : World) (hn : n ≤ 65536) :
    Calls Try.prog 106 #[.slice none 0 0, .int .i64 n] w fun e w' => ∃ v, e = .returned v ∧ w'.ownsRow w.heap.size 83 3 v 0 [] ∧ Below w.heap.size w w' := by
  rcases Nat.eq_zero_or_pos n with h0 | h0
  · subst h0
    have h := Any8.slices_Grow_room Try.grow none 0 0 0 w (by omega) (by omega) (by omega) (by omega)
    refine Calls.mono h ?_
    rintro e w' ⟨rfl, rfl⟩
    exact ⟨_, rfl, World.ownsRow_nil _ _ _ _, Below.refl _ _⟩
  · obtain ⟨i0, hi, hz0, hz1, hz2⟩ := info_parts info_val
    have h := Any8.slices_Grow_grow Try.grow i0 _ hi hz0 (by rw [hz1]; decide) none 0 0 n [] w (by omega) (by omega) (by rw [hz2]; omega) (by omega) (by simp) (fun _ => rfl) (fun a ha => by cases ha)
    refine Calls.mono h ?_
    rintro e w' ⟨rfl, rfl⟩
    have hge := grownCap_ge w (0 + n) 0 (Try.grow_ren.t 25)
    have hle := grownCap_le_maxLen w (0 + n) 0 (Try.grow_ren.t 25) (by unfold maxLen; omega)
    refine ⟨_, rfl, ?_, ?_⟩
    · refine World.ownsRow_made w.drew _ _ (Nat.le_refl _) hle ?_
      rw [Nat.zero_add] at hge ⊢
      simp [size_zeroCells, Value.cells]
      omega
    · exact ((Below.refl _ w).drew).alloc (Nat.le_refl _) _

/-- A row that is told, in new memory. -/
def RowBack (w : World) (r : List Va) (e : Ending) (w' : World) : Prop :=
  ∃ (A : Option Addr) (c : Nat), e = .returned (.slice A r.length c) ∧ RowAt w' A r ∧ Below w.heap.size w w'

/-- What lies at a slice's address, as append's laws ask it. -/
theorem news_of_row {w : World} {ad : Addr} {r : List Va} (h : RowAt w (some ad) r) : ∀ j u, (rowList r)[j]? = some u → w.cell? (ad.add j) = some u := by
  intro j u hu
  rcases h with h | ⟨b, off, hA, _, hc⟩
  · subst h; simp [rowList] at hu
  · have hA' : ad = ⟨b, off, none⟩ := by injection hA
    subst hA'
    have hj : j < r.length * 3 := by rw [← rowList_length]; exact (List.getElem?_eq_some_iff.1 hu).1
    have hi : j / 3 < r.length := by omega
    have hq := List.getElem?_eq_getElem hi
    obtain ⟨c0, c1, c2⟩ := hc _ _ hq
    obtain ⟨a0, a1, a2⟩ := rowList_at r _ _ hq
    have hadd : (⟨b, off, none⟩ : Addr).add j = ⟨b, off + j, none⟩ := by
      unfold Addr.add
      split
      · rename_i h0; subst h0; rfl
      · rfl
    rw [hadd]
    have hm : j % 3 = 0 ∨ j % 3 = 1 ∨ j % 3 = 2 := by omega
    rcases hm with hm | hm | hm
    · rw [show j = j / 3 * 3 by omega] at hu ⊢; rw [a0] at hu; rw [c0]; exact hu
    · rw [show j = j / 3 * 3 + 1 by omega] at hu ⊢; rw [a1] at hu; rw [← Nat.add_assoc, c1]; exact hu
    · rw [show j = j / 3 * 3 + 2 by omega] at hu ⊢; rw [a2] at hu; rw [← Nat.add_assoc, c2]; exact hu

def sumTo (n n' j : Nat) : Nat := if j = 0 then 0 else if j = 1 then n else n + n'
def catTo (r r' : List Va) (j : Nat) : List Va := if j = 0 then [] else if j = 1 then r else r ++ r'

set_option maxRecDepth 100000 in
set_option maxHeartbeats 4000000 in
theorem concat_any (g : Nat) (A A' : Option Addr) (c c' : Nat) (r r' : List Va) (w : World) (hg0 : w.cell? ⟨g, 0, none⟩ = some (.slice A r.length c)) (hg1 : w.cell? ⟨g, 1, none⟩ = some (.slice A' r'.length c'))
    (h : RowAt w A r) (h' : RowAt w A' r') (hA : A = none → c = 0) (hA' : A' = none → c' = 0) (hl : r.length + r'.length ≤ 32) :
    Calls Try.prog 88 #[.slice (some ⟨g, 0, none⟩) 2 2] w (RowBack w (r ++ r')) := by
  obtain ⟨i0, hi, hz0, hz1, hz2⟩ := info_parts info_val
  go_enter Try.func88, Try.ntmps88
  go_wp2_with fail
  go_loop [3, 11] (fun s i => ∃ j S : Nat, j ≤ 2 ∧ i = .int .i64 j ∧ s = .int .i64 S ∧ Hid (S = sumTo r.length r'.length j) ∧ S ≤ 32) (fun _ i => 2 - (intOf i).toNat)
  case atStart => exact ⟨0, 0, by omega, rfl, rfl, Lib.hid rfl, by omega⟩
  case round =>
    obtain ⟨j, S, hj, rfl, rfl, HS, hS⟩ := hrel
    have hj3 : j = 0 ∨ j = 1 ∨ j = 2 := by omega
    rcases hj3 with rfl | rfl | rfl
    · obtain rfl : S = 0 := HS.out
      go_wp2_with fail
      go_round
      case rel => exact ⟨1, 0 + r.length, by omega, by go_num, by go_num, Lib.hid (by simp [sumTo]), by omega⟩
      case measure => simp [intOf]
    · obtain rfl : S = r.length := HS.out
      go_wp2_with fail
      go_round
      case rel => exact ⟨2, r.length + r'.length, by omega, by go_num, by go_num, Lib.hid (by simp [sumTo]), by omega⟩
      case measure => simp [intOf]
    · clear HS
      go_wp2_with fail
      refine (grow_nil S _ (by omega)).mono ?_
      rintro e w1 ⟨v, rfl, hown0, hB0⟩
      have HG0 := Lib.hid hg0
      have HG1 := Lib.hid hg1
      have HR := Lib.hid h
      have HR' := Lib.hid h'
      have HA := Lib.hid hA
      have HA' := Lib.hid hA'
      clear hg0 hg1 h h' hA hA'
      go_wp2_with fail
      go_loopw [6, 27] (fun v i wr => ∃ j : Nat, j ≤ 2 ∧ i = .int .i64 j ∧ wr.ownsRow w.heap.size 83 3 v (catTo r r' j).length (rowList (catTo r r' j)) ∧ Below w.heap.size w wr) (fun _ i _ => 2 - (intOf i).toNat)
      case atStart => exact ⟨0, by omega, rfl, hown0, hB0⟩
      case round =>
        clear hown0 hB0
        obtain ⟨j, hj, rfl, hown, hB⟩ := hrel
        have k0 := cell_kept hB HG0.out
        have k1 := cell_kept hB HG1.out
        have hw := HR.out.kept hB
        have hw' := HR'.out.kept hB
        have hj3 : j = 0 ∨ j = 1 ∨ j = 2 := by omega
        rcases hj3 with rfl | rfl | rfl
        · cases A with
          | none =>
            obtain rfl := HA.out rfl
            have hr0 : r = [] := by
              rcases hw with hh | ⟨_, _, hh, _⟩
              · exact hh
              · cases hh
            subst hr0
            go_wp2_with (at_builtin; refine wpList_append_own_none rfl _ _ 22 rfl w.heap.size 83 i0 3 Try.underlying22 hi _ _ _ rfl hown rfl ?_)
            go_roundw
            case rel => exact ⟨1, by omega, by go_num, by simpa [catTo] using hown, hB⟩
            case measure => simp [intOf]
          | some ad =>
            have hnews := Lib.hid (news_of_row hw)
            have HB := Lib.hid hB
            clear hB hw hw'
            go_wp2_with (at_builtin; refine wpList_append_own _ rfl _ _ 22 rfl w.heap.size 83 i0 _ 3 32 Try.underlying22 hi hz0 hz1 hz2 rfl (by decide) _ _ _ rfl hown ad r.length c (rowList r) rfl (rowList_length _) hnews.out (oneCell_row _) ?c3 ?c4 ?c5 ?_)
            case c3 => simp [catTo, maxLen]; omega
            case c4 => simp [catTo]; omega
            case c5 => exact HB.out.size
            intro v' w2 hown1 hgrow _
            have hB1 := HB.out.grown hgrow HB.out.size (fun k hk => (hown.lt k hk).1)
            have HO := Lib.hid hown1
            clear hown1 hgrow hown
            go_wp2_with fail
            go_roundw
            case rel => exact ⟨1, by omega, by go_num, by have := HO.out; rw [← rowList_append] at this; simpa [catTo] using this, hB1⟩
            case measure => simp [intOf]
        · cases A' with
          | none =>
            obtain rfl := HA'.out rfl
            have hr0 : r' = [] := by
              rcases hw' with hh | ⟨_, _, hh, _⟩
              · exact hh
              · cases hh
            subst hr0
            go_wp2_with (at_builtin; refine wpList_append_own_none rfl _ _ 22 rfl w.heap.size 83 i0 3 Try.underlying22 hi _ _ _ rfl hown rfl ?_)
            go_roundw
            case rel => exact ⟨2, by omega, by go_num, by simpa [catTo] using hown, hB⟩
            case measure => simp [intOf]
          | some ad =>
            have hnews := Lib.hid (news_of_row hw')
            have HB := Lib.hid hB
            clear hB hw hw'
            go_wp2_with (at_builtin; refine wpList_append_own _ rfl _ _ 22 rfl w.heap.size 83 i0 _ 3 32 Try.underlying22 hi hz0 hz1 hz2 rfl (by decide) _ _ _ rfl hown ad r'.length c' (rowList r') rfl (rowList_length _) hnews.out (oneCell_row _) ?c3 ?c4 ?c5 ?_)
            case c3 => simp [catTo, maxLen]; omega
            case c4 => simp [catTo]; omega
            case c5 => exact HB.out.size
            intro v' w2 hown1 hgrow _
            have hB1 := HB.out.grown hgrow HB.out.size (fun k hk => (hown.lt k hk).1)
            have HO := Lib.hid hown1
            clear hown1 hgrow hown
            go_wp2_with fail
            go_roundw
            case rel => exact ⟨2, by omega, by go_num, by have := HO.out; rw [← rowList_append] at this; simpa [catTo] using this, hB1⟩
            case measure => simp [intOf]
        · have hown' : wr.ownsRow w.heap.size 83 3 u6 (r ++ r').length (rowList (r ++ r')) := hown
          obtain ⟨A'', c'', hv, hrow⟩ := owns_form hown'
          subst hv
          have HO := Lib.hid hrow
          clear hown hown' hrow hw hw'
          go_wp2_with fail
          go_ret
          exact ⟨A'', c'', rfl, HO.out, hB⟩

set_option maxHeartbeats 1000000 in
theorem join_ok (A A' : Option Addr) (c c' : Nat) (r r' : List Va) (w : World) (h : RowAt w A r) (h' : RowAt w A' r') (hA : A = none → c = 0) (hA' : A' = none → c' = 0) (hl : r.length + r'.length ≤ 32) :
    Calls Try.prog 61 #[.slice A r.length c, .slice A' r'.length c'] w (RowEnd w (r ++ r') 0) := by
  have HC := Lib.hid (fun W hg0 hg1 hr hr' => concat_any w.heap.size A A' c c' r r' W hg0 hg1 hr hr' hA hA' hl)
  have HR := Lib.hid h
  have HR' := Lib.hid h'
  clear h h' hA hA'
  go_enter Try.func61, Try.ntmps61
  go_wp2_with fail
  refine (HC.out _ (by simp) (by simp) (HR.out.kept (ba _ _)) (HR'.out.kept (ba _ _))).mono ?_
  rintro e w1 ⟨A'', c'', rfl, hrow, hb1⟩
  have HO := Lib.hid hrow
  clear hrow
  go_wp2_with fail
  go_ret2
  exact ⟨A'', c'', by simp, HO.out, bt (ba _ _) hb1⟩
set_option maxHeartbeats 400000 in
theorem join_no (A A' : Option Addr) (c c' : Nat) (r r' : List Va) (w : World) (hl : 32 < r.length + r'.length) (h1 : r.length ≤ 65536) (h2 : r'.length ≤ 65536) :
    Calls Try.prog 61 #[.slice A r.length c, .slice A' r'.length c'] w fun e w' => e = .returned (.tuple #[.slice none 0 0, .int .i64 3]) ∧ w = w' := by
  go_enter Try.func61, Try.ntmps61
  go_wp2_with fail
  go_ret2
  exact ⟨rfl, rfl⟩

end Go.Proofs.Ytlobgdfmgbedgaa
