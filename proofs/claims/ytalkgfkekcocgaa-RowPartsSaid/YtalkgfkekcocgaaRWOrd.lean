/-
  The walk of RowOrders.
-/
import Derived.Test.YtalkgfkekcocgaaRLiv
import Derived.Test.YtalkgfkekcocgaaRLarge
namespace Go.Proofs.Ytalkgfkekcocgaa
open Go.RowKit Go.Shelf

theorem large_len {r : List Va} (h : largeV r = false) : r.length ≤ 100 ∧ ∀ v ∈ r, v.s.size ≤ 200 := by
  simp [largeV, longV] at h
  exact ⟨h.1, fun v hv => h.2 v hv⟩

theorem large_B (A : Option Addr) (c : Nat) (r : List Va) (w : World) (h : RowAt w A r) (hf : Fine r) (hl : r.length ≤ 9223372036854775807) :
    Calls Try.prog 8 #[.slice A r.length c] w fun e w' => e = .returned (.bool (largeV r)) ∧ Below w.heap.size w w' :=
  (large_any A c r w h hf hl).mono fun _ _ ⟨he, hw⟩ => ⟨he, hw ▸ Below.refl _ _⟩

set_option maxRecDepth 100000 in
set_option maxHeartbeats 4000000 in
theorem rowOrders_walk (A A' C D : Option Addr) (c c' cc cd : Nat) (r r' : List Va) (cols : List Int) (down : List Bool) (w : World) (h : RowAt w A r) (h' : RowAt w A' r') (hC : IntsAt w C cols) (hD : BoolsAt w D down)
    (hf : Fine r) (hf' : Fine r') (hl : r.length ≤ 9223372036854775807) (hl' : r'.length ≤ 9223372036854775807) (hlc : cols.length ≤ 9223372036854775807) (hld : down.length ≤ 9223372036854775807) :
    Calls Try.prog 5 #[.slice A r.length c, .slice A' r'.length c', .slice C cols.length cc, .slice D down.length cd] w fun e w' => e = .returned (.bool true) ∧ Below w.heap.size w w' := by
  have HR := Lib.hid h
  have HR' := Lib.hid h'
  have HC := Lib.hid hC
  have HD := Lib.hid hD
  clear h h' hC hD
  go_enter Try.func5, Try.ntmps5
  go_wp2_with fail
  refine (large_B A c r w HR.out hf hl).mono ?_
  rintro e w1 ⟨rfl, hb1⟩
  have HB := Lib.hid hb1
  clear hb1
  cases hla : largeV r
  · go_wp2_with fail
    refine (large_B A' c' r' w1 (HR'.out.kept HB.out) hf' hl').mono ?_
    rintro e w2 ⟨rfl, hb2⟩
    have HB := Lib.hid (bt HB.out hb2)
    clear hb2
    cases hlb : largeV r'
    · by_cases hc1 : (100 : Int) < cols.length
      · go_wp2_with fail
        refine (lives_yes _).mono ?_
        rintro e w3 ⟨rfl, hb3⟩
        go_wp2_with fail
        go_ret
        exact ⟨rfl, bt HB.out hb3⟩
      · by_cases hd1 : (200 : Int) < down.length
        · go_wp2_with fail
          refine (lives_yes _).mono ?_
          rintro e w3 ⟨rfl, hb3⟩
          go_wp2_with fail
          go_ret
          exact ⟨rfl, bt HB.out hb3⟩
        · go_wp2_with fail
          refine (rowCompare_any A A' c c' r r' _ (HR.out.kept HB.out) (HR'.out.kept HB.out) hl hl').mono ?_
          rintro e w3 ⟨rfl, hb3⟩
          have HB := Lib.hid (bt HB.out hb3)
          clear hb3
          have hrg := cmpR_range r r'
          have HN := Lib.hid (cmpR_anti r r')
          generalize hn : cmpR r r' = n at hrg HN ⊢
          have HE := Lib.hid hn
          clear hn
          obtain ⟨hn1, hn2⟩ := hrg
          go_wp2_with fail
          refine (lives_yes _).mono ?_
          rintro e w4 ⟨rfl, hb4⟩
          have HB := Lib.hid (bt HB.out hb4)
          clear hb4
          go_wp2_with fail
          refine (refRowCompare_any A A' c c' r r' _ (HR.out.kept HB.out) (HR'.out.kept HB.out) hl hl').mono ?_
          rw [HE.out]
          rintro e w5 ⟨rfl, hb5⟩
          have HB := Lib.hid (bt HB.out hb5)
          clear hb5
          go_wp2_with fail
          refine (rowCompare_any A' A c' c r' r _ (HR'.out.kept HB.out) (HR.out.kept HB.out) hl' hl).mono ?_
          rw [HN.out]
          rintro e w6 ⟨rfl, hb6⟩
          have HB := Lib.hid (bt HB.out hb6)
          clear hb6
          go_wp2_with fail
          refine (rowSame_any A A' c c' r r' _ (HR.out.kept HB.out) (HR'.out.kept HB.out) hl hl').mono ?_
          rw [HE.out]
          rintro e w7 ⟨rfl, hb7⟩
          have HB := Lib.hid (bt HB.out hb7)
          clear hb7
          go_wp2_with fail
          refine (by_any A A' C D c c' cc cd r r' cols down _ (HR.out.kept HB.out) (HR'.out.kept HB.out) (HC.out.kept HB.out) (HD.out.kept HB.out) hlc).mono ?_
          rintro e w8 ⟨rfl, hb8⟩
          have HB := Lib.hid (bt HB.out hb8)
          clear hb8
          go_wp2_with fail
          refine (refBy_any A A' C D c c' cc cd r r' cols down _ (HR.out.kept HB.out) (HR'.out.kept HB.out) (HC.out.kept HB.out) (HD.out.kept HB.out) hlc).mono ?_
          rintro e w9 ⟨rfl, hb9⟩
          have HB := Lib.hid (bt HB.out hb9)
          clear hb9
          generalize byV r r' cols down = y
          go_wp2_with fail
          go_ret
          exact ⟨by simp, HB.out⟩
    · go_wp2_with fail
      refine (lives_yes _).mono ?_
      rintro e w3 ⟨rfl, hb3⟩
      go_wp2_with fail
      go_ret
      exact ⟨rfl, bt HB.out hb3⟩
  · go_wp2_with fail
    refine (lives_yes _).mono ?_
    rintro e w3 ⟨rfl, hb3⟩
    go_wp2_with fail
    go_ret
    exact ⟨rfl, bt HB.out hb3⟩

end Go.Proofs.Ytalkgfkekcocgaa
