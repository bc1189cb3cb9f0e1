/-
  The walk of TreeMerges.
-/
import Derived.Test.YtjcinhlghlcknaaTrh
import Derived.Test.YtjcinhlghlcknaaTrf
namespace Go.Proofs.Ytjcinhlghlcknaa
open Go.RowKit

theorem prC_get (l : List Pr) : ∀ (i : Nat) (p : Pr), l[i]? = some p → (prC l)[i * 2]? = some (.int .i64 p.k) ∧ (prC l)[i * 2 + 1]? = some (.int .i64 p.t) := by
  induction l with
  | nil => intro i p hp; simp at hp
  | cons q l ih =>
    intro i p hp
    cases i with
    | zero => cases hp; exact ⟨rfl, rfl⟩
    | succ i =>
      have := ih i p (by simpa using hp)
      rw [show (i + 1) * 2 = i * 2 + 1 + 1 by omega]
      exact this
/-- A list of pairs of the call's own, read. -/
theorem own_pv {w : World} {base : Nat} {v : Value} {l : List Pr} (h : w.ownsRow base 28 2 v l.length (prC l)) : PV w.heap.size w v l := by
  rcases h.2 with ⟨hv, hn⟩ | ⟨g, cap, cur, rfl, _, hg, h1, h2, _⟩
  · exact ⟨none, 0, by rw [hv, hn], by omega, by omega, .inl (List.eq_nil_of_length_eq_zero hn)⟩
  · refine ⟨_, cap, rfl, h1, by simp only [maxLen] at h2; omega, .inr ⟨g, 0, rfl, block_ltT hg, Nat.le_refl _, fun i p hp => ?_⟩⟩
    obtain ⟨c0, c1⟩ := prC_get l i p hp
    have e : ∀ j u, (prC l)[j]? = some u → w.cell? ⟨g, 0 + j, none⟩ = some u := fun j u hu => by
      have := h.cells (g := g) rfl j u hu
      by_cases h0 : j = 0
      · subst h0; simpa [Addr.add] using this
      · simpa [Addr.add, h0] using this
    exact ⟨e _ _ c0, by rw [Nat.add_assoc]; exact e _ _ c1⟩
theorem PV.mono {U V : Nat} {w : World} {v : Value} {r : List Pr} (h : PV U w v r) (hUV : U ≤ V) (hV : V ≤ w.heap.size) : PV V w v r := by
  obtain ⟨A, c, h1, h2, h3, h4⟩ := h
  exact ⟨A, c, h1, h2, h3, h4.mono hUV hV⟩
theorem PAt.at {U : Nat} {w : World} {A : Option Addr} {r : List Pr} (h : PAt U w A r) {i : Nat} (hi : i < r.length) : ∃ b off : Nat, A = some ⟨b, off, none⟩ ∧ w.cell? ⟨b, off + i * 2, none⟩ = some (.int .i64 r[i].k) ∧ w.cell? ⟨b, off + i * 2 + 1, none⟩ = some (.int .i64 r[i].t) := by
  rcases h with h | ⟨b, off, hA, _, _, hc⟩
  · subst h; simp at hi
  · obtain ⟨c0, c1⟩ := hc i r[i] (List.getElem?_eq_getElem hi)
    exact ⟨b, off, hA, c0, c1⟩
section
variable {w : World}
set_option maxRecDepth 100000 in
set_option maxHeartbeats 2000000 in
theorem same8_any {u v : Value} {l : List Pr} (hu : PV w.heap.size w u l) (hv : PV w.heap.size w v l) (hl : l.length ≤ 1000000) :
    Calls Try.prog 16 #[u, v] w fun e w' => e = .returned (.bool true) ∧ Below w.heap.size w w' := by
  obtain ⟨A, c, rfl, _, _, hA⟩ := hu
  obtain ⟨A', c', rfl, _, _, hA'⟩ := hv
  have HA := Lib.hid hA
  have HA' := Lib.hid hA'
  obtain ⟨N, hN⟩ : ∃ N, N = l.length := ⟨_, rfl⟩
  rw [← hN] at hl ⊢
  have HN := Lib.hid hN
  have hne : ((N : Int) != (N : Int)) = false := by simp
  clear hA hA' hN
  go_enter Try.func16, Try.ntmps16
  go_wp2_with fail
  go_loopw [5] (fun ii wr => ∃ i : Nat, ii = .int .i64 i ∧ i ≤ N ∧ Hid (Below w.heap.size w wr)) (fun ii _ => N - (intOf ii).toNat)
  case atStart => exact ⟨0, rfl, Nat.zero_le _, Lib.hid (Below.refl _ _)⟩
  case round =>
    obtain ⟨i, rfl, hi, HB⟩ := hrel
    by_cases hlt : i < N
    · have hil : i < l.length := by have := HN.out; omega
      obtain ⟨b, off, rfl, c0, c1⟩ := (HA.out.kept HB.out).at hil
      obtain ⟨b', off', rfl, d0, d1⟩ := (HA'.out.kept HB.out).at hil
      generalize l[i] = p at c0 c1 d0 d1
      clear hil
      go_wp2_with fail
      go_quiet (fail)
      go_wp2_with fail
      go_roundw
      case rel => exact ⟨i + 1, by go_num, hlt, Lib.hid (bt HB.out (drNT _ _))⟩
      case measure => simp [intOf]; omega
    · go_wp2_with fail
      go_ret
      exact ⟨rfl, HB.out⟩
theorem LsAt.mono {U V : Nat} {A : Option Addr} {ls : List (List Pr)} (h : LsAt U w A ls) (hUV : U ≤ V) (hV : V ≤ w.heap.size) : LsAt V w A ls := by
  rcases h with h | ⟨b, off, vs, hA, hlt, hu, hv, hc⟩
  · exact .inl h
  · exact .inr ⟨b, off, vs, hA, by omega, hV, ⟨hv.1, fun j v r h1 h2 => (hv.2 j v r h1 h2).mono hUV hV⟩, hc⟩
set_option maxRecDepth 100000 in
set_option maxHeartbeats 4000000 in
theorem treeMerges_walk (A : Option Addr) (c : Nat) (ls : List (List Pr)) (w : World) (h : LsAt w.heap.size w A ls) (hz : ∀ r ∈ ls, r.length * 16 ≤ reachBytes) (hl : ls.length ≤ 9223372036854775807) :
    Calls Try.prog 4 #[.slice A ls.length c] w fun e w' => e = .returned (.bool true) ∧ Below w.heap.size w w' := by
  have HLg := Lib.hid (large8_any (c := c) h hz hl)
  cases hlg : lrg ls with
  | true =>
    rw [hlg] at HLg
    clear h hz hlg
    go_enter Try.func4, Try.ntmps4
    go_wp2_with fail
    refine HLg.out.mono ?_
    rintro e wx ⟨rfl, rfl⟩
    go_wp2_with fail
    refine (lives8_yes w).mono ?_
    rintro e w1 ⟨rfl, hb⟩
    have HB := Lib.hid hb
    clear hb
    go_wp2_with fail
    go_ret
    exact ⟨rfl, HB.out⟩
  | false =>
    rw [hlg] at HLg
    simp only [lrg, Bool.or_eq_false_iff, decide_eq_false_iff_not] at hlg
    obtain ⟨h100, ht⟩ := hlg
    by_cases hin : 1 ≤ ls.length ∧ ls.length ≤ 64
    · have HM := Lib.hid (merge_in (c := c) h hin.1 hin.2 (by omega))
      have HR := Lib.hid (fun (w2 : World) (h2 : LsAt w2.heap.size w2 A ls) => rmerge_any (c := c) h2 hin.1 hin.2 (by omega))
      have HLs := Lib.hid h
      have HT := Lib.hid ht
      obtain ⟨N, hN⟩ : ∃ N, N = ls.length := ⟨_, rfl⟩
      rw [← hN] at HLg HM HR hin ⊢
      obtain ⟨n1, n2⟩ := hin
      have n3 : ¬ (N : Int) < 1 := by omega
      have n4 : ¬ (64 : Int) < (N : Int) := by omega
      clear h hz hN ht h100 hl
      go_enter Try.func4, Try.ntmps4
      go_wp2_with fail
      refine HLg.out.mono ?_
      rintro e wx ⟨rfl, rfl⟩
      go_wp2_with fail
      refine HM.out.mono ?_
      rintro e w1 ⟨v, out, rfl, hm, ho, hb⟩
      have HMg := Lib.hid hm
      have HO := Lib.hid ho
      have HB1 := Lib.hid hb
      clear hm ho hb HM HLg
      go_wp2_with fail
      refine (merge_nil (w := w1)).mono ?_
      rintro e wx ⟨rfl, rfl⟩
      go_wp2_with fail
      refine (lives8_yes w1).mono ?_
      rintro e w2 ⟨rfl, hb⟩
      have HO2 := Lib.hid (own_sameT HO.out (fun k hk => hb.block k (HO.out.lt k hk).2))
      have HB2 := Lib.hid (bt HB1.out hb)
      clear hb HB1 HO
      go_wp2_with fail
      refine (HR.out w2 ((HLs.out.kept HB2.out).mono HB2.out.size (Nat.le_refl _))).mono ?_
      rintro e w3 ⟨v3, out3, rfl, hm3, ho3, hb3⟩
      obtain rfl : out3 = out := hm3.one HMg.out
      have HP1 := Lib.hid (own_pv (own_sameT HO2.out (fun k hk => hb3.block k (HO2.out.lt k hk).2)))
      have HP2 := Lib.hid (own_pv ho3)
      have HB3 := Lib.hid (bt HB2.out hb3)
      have HLen := Lib.hid (show out3.length ≤ 1000000 by have := hm3.len; have := HT.out; omega)
      clear hm3 ho3 hb3 HO2 HB2
      go_wp2_with fail
      refine (same8_any HP1.out HP2.out HLen.out).mono ?_
      rintro e w4 ⟨rfl, hb4⟩
      have HB4 := Lib.hid (bt HB3.out hb4)
      clear hb4
      go_wp2_with fail
      go_ret
      exact ⟨rfl, HB4.out⟩
    · have HM := Lib.hid (fun w : World => merge_out (w := w) (A := A) (c := c) (n := ls.length) (by omega))
      obtain ⟨N, hN⟩ : ∃ N, N = ls.length := ⟨_, rfl⟩
      rw [← hN] at HLg HM hin h100 ⊢
      clear h hz hN ht hl
      by_cases h0 : N < 1
      · have n3 : (N : Int) < 1 := by omega
        clear hin
        go_enter Try.func4, Try.ntmps4
        go_wp2_with fail
        refine HLg.out.mono ?_
        rintro e wx ⟨rfl, rfl⟩
        go_wp2_with fail
        refine (HM.out w).mono ?_
        rintro e wx ⟨rfl, rfl⟩
        go_wp2_with fail
        refine (merge_nil (w := w)).mono ?_
        rintro e wx ⟨rfl, rfl⟩
        go_wp2_with fail
        refine (lives8_yes w).mono ?_
        rintro e w2 ⟨rfl, hb⟩
        have HB2 := Lib.hid hb
        clear hb
        go_wp2_with fail
        go_ret
        exact ⟨rfl, HB2.out⟩
      · have n3 : ¬ (N : Int) < 1 := by omega
        have n4 : (64 : Int) < (N : Int) := by omega
        clear hin
        go_enter Try.func4, Try.ntmps4
        go_wp2_with fail
        refine HLg.out.mono ?_
        rintro e wx ⟨rfl, rfl⟩
        go_wp2_with fail
        refine (HM.out w).mono ?_
        rintro e wx ⟨rfl, rfl⟩
        go_wp2_with fail
        refine (merge_nil (w := w)).mono ?_
        rintro e wx ⟨rfl, rfl⟩
        go_wp2_with fail
        refine (lives8_yes w).mono ?_
        rintro e w2 ⟨rfl, hb⟩
        have HB2 := Lib.hid hb
        clear hb
        go_wp2_with fail
        go_ret
        exact ⟨rfl, HB2.out⟩
end
end Go.Proofs.Ytjcinhlghlcknaa
