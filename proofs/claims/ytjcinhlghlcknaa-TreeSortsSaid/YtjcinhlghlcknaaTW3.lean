/-
  The walk of TreeSorts.
-/
import Derived.Test.YtjcinhlghlcknaaTW2
import Derived.Test.YtjcinhlghlcknaaTrm
import Derived.IntWalk
namespace Go.Proofs.Ytjcinhlghlcknaa
open Go.RowKit

/-- The law's own lists in memory, so far. -/
structure SoS (U : Nat) (w0 w : World) (ls : List (List Pr)) (i : Nat) (vo : Value) (vs : List Value) : Prop where
  own : w.ownsRow U 42 1 vo i vs
  rows : ∀ j, j < i → ∃ v, vs[j]? = some v ∧ w.ownsRow U 28 2 v (rowI j (ls.getD j []) (ls.getD j []).length).length (prC (rowI j (ls.getD j []) (ls.getD j []).length))
  below : Below U w0 w
  lo : U ≤ w.heap.size
section
variable {U : Nat} {w0 w w' : World} {ls : List (List Pr)} {i : Nat} {vo : Value} {vs : List Value}
theorem SoS.kept (h : SoS U w0 w ls i vo vs) (hb : Below w.heap.size w w') : SoS U w0 w' ls i vo vs :=
  ⟨own_sameT h.own (fun k hk => hb.block k (h.own.lt k hk).2), fun j hj => by
    obtain ⟨v, h1, h2⟩ := h.rows j hj
    exact ⟨v, h1, own_sameT h2 (fun k hk => hb.block k (h2.lt k hk).2)⟩, h.below.trans (hb.mono h.lo), Nat.le_trans h.lo hb.size⟩
theorem own_typT {w : World} {base n sz : Nat} {e : TypeId} {v : Value} {xs : List Value} (h : w.ownsRow base e sz v n xs) {k : Nat} (hk : v.ownBlock = some k) : ∃ cs, w.heap[k]? = some (.cells cs e (0, 0)) := by
  rcases h.2 with ⟨hv, _⟩ | ⟨g, cap, cur, hv, _, hg, _⟩
  · rw [hv] at hk; cases hk
  · rw [hv] at hk
    simp only [Value.ownBlock, Option.some.injEq] at hk
    exact ⟨cur, by rw [← hk]; exact hg⟩
theorem own_sliceT {w : World} {base n sz : Nat} {e : TypeId} {v : Value} {xs : List Value} (h : w.ownsRow base e sz v n xs) : ∃ A c, v = .slice A n c := by
  rcases h.2 with ⟨hv, hn⟩ | ⟨g, cap, cur, hv, _⟩
  · exact ⟨none, 0, by rw [hv, hn]⟩
  · exact ⟨_, cap, hv⟩
/-- A list is put behind the others. -/
theorem SoS.next (h : SoS U w0 w ls i vo vs) {V : Nat} {w1 w2 w3 : World} {v vo' : Value} (hb : Below w.heap.size w w1) (hr : w1.ownsRow w.heap.size 28 2 v (rowI i (ls.getD i []) (ls.getD i []).length).length (prC (rowI i (ls.getD i []) (ls.getD i []).length)))
    (hb2 : Below w1.heap.size w1 w2) (ho : w3.ownsRow V 42 1 vo' (i + 1) (vs ++ [v])) (hV : V = U) (hg : w2.grownBy w3 vo.ownBlock) : SoS U w0 w3 ls (i + 1) vo' (vs ++ [v]) := by
  subst hV
  have h1 := h.kept hb
  have h2 := h1.kept hb2
  have hl : vs.length = i := by have := h.own.1; simpa using this
  have hkeep : ∀ {v' : Value} {n : Nat} {xs : List Value}, w2.ownsRow V 28 2 v' n xs → w3.ownsRow V 28 2 v' n xs := fun {v' n xs} hh => own_sameT hh (fun k hk => hg.block k (hh.lt k hk).2 (fun e => by
    obtain ⟨c1, e1⟩ := own_typT hh hk
    obtain ⟨c2, e2⟩ := own_typT h2.own e.symm
    rw [e1] at e2; simp at e2))
  refine ⟨ho, fun j hj => ?_, h2.below.trans (below_grownT h2.own h2.lo hg), Nat.le_trans h2.lo hg.size⟩
  rcases Nat.lt_or_ge j i with hlt | hge
  · obtain ⟨u, e1, e2⟩ := h2.rows j hlt
    exact ⟨u, by rw [List.getElem?_append_left (by omega)]; exact e1, hkeep e2⟩
  · obtain rfl : j = i := by omega
    refine ⟨v, by rw [← hl]; simp, hkeep ?_⟩
    exact own_mono (own_sameT hr (fun k hk => hb2.block k (hr.lt k hk).2)) h.lo
/-- They read as lists of pairs. -/
theorem SoS.lists (h : SoS U w0 w ls i vo vs) (h1 : 1 ≤ i) : ∃ g cap, vo = .slice (some ⟨g, 0, none⟩) i cap ∧ LsAt w.heap.size w (some ⟨g, 0, none⟩) (ownI ls i) := by
  have hl : vs.length = i := by have := h.own.1; simpa using this
  rcases h.own.2 with ⟨_, h0⟩ | ⟨g, cap, cur, hv, _, hg, _⟩
  · omega
  · subst hv
    refine ⟨g, cap, rfl, .inr ⟨g, 0, vs, rfl, block_ltT hg, Nat.le_refl _, ⟨by rw [hl, ownI_len], fun j v r hvj hrj => ?_⟩, fun j v hvj => ?_⟩⟩
    · have hj : j < i := by rw [← hl]; exact (List.getElem?_eq_some_iff.1 hvj).1
      obtain ⟨u, e1, e2⟩ := h.rows j hj
      rw [hvj] at e1
      cases e1
      have e3 := ownI_get ls hj
      rw [List.getD_eq_getElem?_getD, hrj] at e3
      simp only [Option.getD_some] at e3
      rw [e3]
      exact own_pv e2
    · rw [Nat.zero_add]; exact (own_cell1 h.own hvj).1
end
set_option maxRecDepth 100000 in
set_option maxHeartbeats 4000000 in
theorem treeSorts_out (A : Option Addr) (c : Nat) (ls : List (List Pr)) (w : World) (h : LsAt w.heap.size w A ls) (hz : ∀ r ∈ ls, r.length * 16 ≤ reachBytes) (hl : ls.length ≤ 9223372036854775807) (ho : lrg ls = true ∨ ls.length < 1 ∨ 64 < ls.length) :
    Calls Try.prog 5 #[.slice A ls.length c] w fun e w' => e = .returned (.bool true) ∧ Below w.heap.size w w' := by
  have HLg := Lib.hid (large8_any (c := c) h hz hl)
  obtain ⟨N, hN⟩ : ∃ N, N = ls.length := ⟨_, rfl⟩
  rw [← hN] at HLg ho hl ⊢
  clear h hz hN
  cases hlg : lrg ls with
  | true =>
    rw [hlg] at HLg
    clear hlg ho
    go_enter Try.func5, Try.ntmps5
    go_wp2_with fail
    refine HLg.out.mono ?_
    rintro e wx ⟨rfl, rfl⟩
    go_wp2_with fail
    refine (lives8_yes w).mono ?_
    rintro e w1 ⟨rfl, hb⟩
    have HB := Lib.hid hb
    clear hb
    go_wp2_with fail
    go_ret
    exact ⟨rfl, HB.out⟩
  | false =>
    rw [hlg] at HLg ho
    have ho2 : N < 1 ∨ 64 < N := by rcases ho with ho | ho; cases ho; exact ho
    clear hlg ho
    rcases ho2 with ho2 | ho2
    · have n1 : (N : Int) < 1 := by omega
      go_enter Try.func5, Try.ntmps5
      go_wp2_with fail
      refine HLg.out.mono ?_
      rintro e wx ⟨rfl, rfl⟩
      go_wp2_with fail
      refine (lives8_yes w).mono ?_
      rintro e w1 ⟨rfl, hb⟩
      have HB := Lib.hid hb
      clear hb
      go_wp2_with fail
      go_ret
      exact ⟨rfl, HB.out⟩
    · have n1 : ¬ (N : Int) < 1 := by omega
      have n2 : (64 : Int) < (N : Int) := by omega
      go_enter Try.func5, Try.ntmps5
      go_wp2_with fail
      refine HLg.out.mono ?_
      rintro e wx ⟨rfl, rfl⟩
      go_wp2_with fail
      refine (lives8_yes w).mono ?_
      rintro e w1 ⟨rfl, hb⟩
      have HB := Lib.hid hb
      clear hb
      go_wp2_with fail
      go_ret
      exact ⟨rfl, HB.out⟩
set_option maxRecDepth 100000 in
set_option maxHeartbeats 16000000 in
theorem treeSorts_in (A : Option Addr) (c : Nat) (ls : List (List Pr)) (w : World) (h : LsAt w.heap.size w A ls) (hz : ∀ r ∈ ls, r.length * 16 ≤ reachBytes) (hlg : lrg ls = false) (h1 : 1 ≤ ls.length) (h2 : ls.length ≤ 64) :
    Calls Try.prog 5 #[.slice A ls.length c] w fun e w' => e = .returned (.bool true) ∧ Below w.heap.size w w' := by
  have HLg := Lib.hid (large8_any (c := c) h hz (by omega))
  rw [hlg] at HLg
  have ht : tot ls ≤ 2000 := by
    simp only [lrg, Bool.or_eq_false_iff, decide_eq_false_iff_not] at hlg
    omega
  have HT := Lib.hid ht
  have HLs := Lib.hid h
  have HTk := Lib.hid (show ∀ i, tot (ls.take i) ≤ 2000 from fun i => by
    have : tot ls = tot (ls.take i) + tot (ls.drop i) := by
      have e : ls = ls.take i ++ ls.drop i := (List.take_append_drop i ls).symm
      have e2 : ∀ a b : List (List Pr), tot (a ++ b) = tot a + tot b := fun a b => by simp [tot]
      rw [← e2, ← e]
    omega)
  obtain ⟨N, hN⟩ : ∃ N, N = ls.length := ⟨_, rfl⟩
  rw [← hN] at HLg h1 h2 ⊢
  have HN := Lib.hid hN
  have n1 : ¬ (N : Int) < 1 := by omega
  have n2 : ¬ (64 : Int) < (N : Int) := by omega
  clear h hz hlg hN ht
  go_enter Try.func5, Try.ntmps5
  go_wp2_with fail
  refine HLg.out.mono ?_
  rintro e wx ⟨rfl, rfl⟩
  have HS0 := Lib.hid (show SoS w.heap.size w w ls 0 (.slice none 0 0) [] from ⟨World.ownsRow_nil _ _ _ _, fun j hj => by omega, Below.refl _ _, Nat.le_refl _⟩)
  go_wp2_with fail
  go_loopw [3, 4, 5] (fun oo cc ii wr => ∃ (i q : Nat) (vs : List Value), ii = .int .i64 i ∧ i ≤ N ∧ cc = .int .i64 q ∧ Hid (q = tot (ls.take i)) ∧ Hid (SoS w.heap.size w wr ls i oo vs)) (fun _ _ ii _ => N - (intOf ii).toNat)
  case atStart => exact ⟨0, 0, [], rfl, Nat.zero_le _, rfl, Lib.hid (by simp [tot]), HS0⟩
  case round =>
    clear HS0
    obtain ⟨i, q, vs, rfl, hi, rfl, HQ, HS⟩ := hrel
    obtain ⟨wo, rfl⟩ : ∃ wo : World, wo = wr := ⟨_, rfl⟩
    by_cases hlt : i < N
    · have hil : i < ls.length := by have := HN.out; omega
      have hiN : (i : Int) < (N : Int) := by omega
      obtain ⟨b, off, A', c', rfl, hb, hc, hnc, hpa⟩ := (HLs.out.kept HS.out.below).at hil
      have HPa := Lib.hid hpa
      have HSuc := Lib.hid (tot_take hil)
      have hq2 : q + (ls.getD i []).length ≤ 2000 := by
        have e1 := HTk.out (i + 1)
        have e2 := HSuc.out
        have e3 := HQ.out
        omega
      obtain ⟨xs, hxs⟩ : ∃ xs, xs = ls.getD i [] := ⟨_, rfl⟩
      rw [← hxs] at hc hnc HPa HSuc hq2
      have HXs := Lib.hid hxs
      obtain ⟨K, hK⟩ : ∃ K, K = xs.length := ⟨_, rfl⟩
      rw [← hK] at hc hnc HSuc hq2
      have HK := Lib.hid hK
      have HC := Lib.hid hc
      clear hxs hK hpa hil hc
      go_wp2_with fail
      go_loopw [4, 6, 7] (fun cc rr kk wr => ∃ k z : Nat, kk = .int .i64 k ∧ k ≤ K ∧ cc = .int .i64 z ∧ Hid (z = q + k) ∧ Hid (Below wo.heap.size wo wr) ∧ Hid (wr.ownsRow wo.heap.size 28 2 rr k (prC (rowI i xs k)))) (fun _ _ kk _ => K - (intOf kk).toNat)
      case atStart => exact ⟨0, q, rfl, Nat.zero_le _, rfl, Lib.hid (by omega), Lib.hid (Below.refl _ _), Lib.hid (World.ownsRow_nil _ _ _ _)⟩
      case round =>
        obtain ⟨k, z, rfl, hk, rfl, HZ, HB, HO⟩ := hrel
        have hcc := (HB.out.cell (p := ⟨b, off + i, none⟩) (cell_ltT HC.out)).trans HC.out
        have hws := HB.out.size
        have hwU := HS.out.lo
        have hz3 : z ≤ 2000 := by have := HZ.out; omega
        have hK3 : K ≤ 2000 := by omega
        obtain ⟨i0, hi0, hz0, hz1, hz2⟩ := info_parts info_pairT
        by_cases hltk : k < K
        · have hkl : k < xs.length := by have := HK.out; omega
          have hkK : (k : Int) < (K : Int) := by omega
          obtain ⟨b2, off2, hA2, d0, d1⟩ := (HPa.out.kept ((HB.out.mono hwU))).at hkl
          subst hA2
          have HP := Lib.hid (show xs[k].k = (xs.getD k default).k by rw [List.getD_eq_getElem?_getD, List.getElem?_eq_getElem hkl]; rfl)
          generalize xs[k].k = pk at d0 HP
          clear hkl d1
          rcases Nat.eq_zero_or_pos k with hk0 | hk0
          · have h0 : ¬ (0 : Int) < (k : Int) := by omega
            have HK0 := Lib.hid hk0
            clear hk0
            have HNb := Lib.hid (World.news_of_block (MapKept.heap_alloc wr (.cells #[.int .i64 pk, .int .i64 (100000 * (i : Int) + k)] 28)).1)
            have HKey := Lib.hid (show pk = keyN xs k from by rw [HP.out, HK0.out]; rfl)
            go_wp2_with (at_builtin; refine wpList_append_own _ rfl _ _ 42 rfl wo.heap.size 28 i0 _ 2 16 Try.underlying42 hi0 hz0 hz1 hz2 rfl (by decide) _ k (prC (rowI i xs k)) rfl (HO.out.alloc _) ⟨wr.heap.size, 0, none⟩ 1 1 [.int .i64 pk, .int .i64 (100000 * (i : Int) + k)] rfl rfl HNb.out ?c2 ?c3 ?c4 ?c5 ?_)
            case c2 => first | exact ⟨rfl, rfl⟩ | (intro u hu; simp at hu; rcases hu with rfl | rfl <;> rfl)
            case c3 => simp [maxLen]; omega
            case c4 => omega
            case c5 => first | omega | (simp; omega)
            intro v' w4 hown4 hgrow4 _
            have HB4 := Lib.hid (HB.out.trans (((ba wr _).mono hws).trans (below_grownT (HO.out.alloc _) (by simp; omega) hgrow4)))
            have HO4 := Lib.hid (show w4.ownsRow wo.heap.size 28 2 v' (k + 1) (prC (rowI i xs (k + 1))) from by rw [rowI_succ, prC_snoc, ← HKey.out]; exact hown4)
            clear hown4 hgrow4 HNb HKey HO
            go_wp2_with fail
            go_roundw
            case rel => exact ⟨k + 1, z + 1, by go_num, by omega, by go_num, Lib.hid (by have := HZ.out; omega), HB4, HO4⟩
            case measure => simp [intOf]; omega
          · have h0 : (0 : Int) < (k : Int) := by omega
            obtain ⟨m, hm⟩ : ∃ m, k = m + 1 := ⟨k - 1, by omega⟩
            have HM := Lib.hid hm
            have hm1 : (k : Int) - 1 = (m : Int) := by omega
            have hmk : m < k := by omega
            have hmkI : (m : Int) < (k : Int) := by omega
            clear hm
            have HO' := HO
            obtain ⟨gr, cr, hsh, hgr⟩ : ∃ gr cr, _ = Value.slice (some ⟨gr, 0, none⟩) k cr ∧ wr.cell? ⟨gr, m * 2, none⟩ = some (.int .i64 (keyN xs m)) := by
              rcases HO.out.2 with ⟨_, hn⟩ | ⟨g', cap', cur, hv, _⟩
              · omega
              · refine ⟨g', cap', hv, ?_⟩
                have hgt : (prC (rowI i xs k))[m * 2]? = some (.int .i64 (keyN xs m)) := (prC_get _ m ⟨keyN xs m, 100000 * (i : Int) + m⟩ (by simp [rowI, hmk])).1
                have := HO.out.cells (g := g') (by rw [hv]; rfl) _ _ hgt
                by_cases hz : m * 2 = 0
                · rw [hz] at this ⊢; simpa [Addr.add] using this
                · simpa [Addr.add, hz] using this
            subst hsh
            clear HO'
            by_cases hlk : pk < keyN xs m
            · have HKe := Lib.hid (show keyN xs m = keyN xs k by rw [HM.out, keyN, ← HM.out, ← HP.out, if_pos hlk])
              generalize keyN xs m = lk at hgr hlk HKe
              have HNb := Lib.hid (World.news_of_block (MapKept.heap_alloc wr (.cells #[.int .i64 lk, .int .i64 (100000 * (i : Int) + k)] 28)).1)
              have HKey := Lib.hid (show lk = keyN xs k from HKe.out)
              go_wp2_with (at_builtin; refine wpList_append_own _ rfl _ _ 42 rfl wo.heap.size 28 i0 _ 2 16 Try.underlying42 hi0 hz0 hz1 hz2 rfl (by decide) _ k (prC (rowI i xs k)) rfl (HO.out.alloc _) ⟨wr.heap.size, 0, none⟩ 1 1 [.int .i64 lk, .int .i64 (100000 * (i : Int) + k)] rfl rfl HNb.out ?c2 ?c3 ?c4 ?c5 ?_)
              case c2 => first | exact ⟨rfl, rfl⟩ | (intro u hu; simp at hu; rcases hu with rfl | rfl <;> rfl)
              case c3 => simp [maxLen]; omega
              case c4 => omega
              case c5 => first | omega | (simp; omega)
              intro v' w4 hown4 hgrow4 _
              have HB4 := Lib.hid (HB.out.trans (((ba wr _).mono hws).trans (below_grownT (HO.out.alloc _) (by simp; omega) hgrow4)))
              have HO4 := Lib.hid (show w4.ownsRow wo.heap.size 28 2 v' (k + 1) (prC (rowI i xs (k + 1))) from by rw [rowI_succ, prC_snoc, ← HKey.out]; exact hown4)
              clear hown4 hgrow4 HNb HKey HO
              go_wp2_with fail
              go_roundw
              case rel => exact ⟨k + 1, z + 1, by go_num, by omega, by go_num, Lib.hid (by have := HZ.out; omega), HB4, HO4⟩
              case measure => simp [intOf]; omega
            · have HKe := Lib.hid (show pk = keyN xs k by rw [HM.out, keyN, ← HM.out, ← HP.out, if_neg hlk])
              generalize keyN xs m = lk at hgr hlk
              have HNb := Lib.hid (World.news_of_block (MapKept.heap_alloc wr (.cells #[.int .i64 pk, .int .i64 (100000 * (i : Int) + k)] 28)).1)
              have HKey := Lib.hid (show pk = keyN xs k from HKe.out)
              go_wp2_with (at_builtin; refine wpList_append_own _ rfl _ _ 42 rfl wo.heap.size 28 i0 _ 2 16 Try.underlying42 hi0 hz0 hz1 hz2 rfl (by decide) _ k (prC (rowI i xs k)) rfl (HO.out.alloc _) ⟨wr.heap.size, 0, none⟩ 1 1 [.int .i64 pk, .int .i64 (100000 * (i : Int) + k)] rfl rfl HNb.out ?c2 ?c3 ?c4 ?c5 ?_)
              case c2 => first | exact ⟨rfl, rfl⟩ | (intro u hu; simp at hu; rcases hu with rfl | rfl <;> rfl)
              case c3 => simp [maxLen]; omega
              case c4 => omega
              case c5 => first | omega | (simp; omega)
              intro v' w4 hown4 hgrow4 _
              have HB4 := Lib.hid (HB.out.trans (((ba wr _).mono hws).trans (below_grownT (HO.out.alloc _) (by simp; omega) hgrow4)))
              have HO4 := Lib.hid (show w4.ownsRow wo.heap.size 28 2 v' (k + 1) (prC (rowI i xs (k + 1))) from by rw [rowI_succ, prC_snoc, ← HKey.out]; exact hown4)
              clear hown4 hgrow4 HNb HKey HO
              go_wp2_with fail
              go_roundw
              case rel => exact ⟨k + 1, z + 1, by go_num, by omega, by go_num, Lib.hid (by have := HZ.out; omega), HB4, HO4⟩
              case measure => simp [intOf]; omega
        · obtain rfl : K = k := by omega
          obtain ⟨AR, CR, hsh⟩ := own_sliceT HO.out
          have HSr := Lib.hid (HS.out.kept HB.out)
          have HOr := Lib.hid HO.out
          subst hsh
          have HNb := Lib.hid (World.news_of_block (MapKept.heap_alloc wr (.cells #[.slice AR K CR] 42)).1)
          obtain ⟨i1, hj0, hy0, hy1, hy2⟩ := info_parts info_sl
          have hi64 : i ≤ 64 := by omega
          clear HO
          go_wp2_with (at_builtin; refine wpList_append_own _ rfl _ _ 40 rfl w.heap.size 42 i1 _ 1 24 Try.underlying40 hj0 hy0 hy1 hy2 rfl (by decide) _ i vs rfl (HSr.out.own.alloc _) ⟨wr.heap.size, 0, none⟩ 1 1 [.slice AR K CR] rfl rfl HNb.out ?c2 ?c3 ?c4 ?c5 ?_)
          case c2 => first | rfl | (intro u hu; simp at hu; rcases hu with rfl; rfl)
          case c3 => simp [maxLen]; omega
          case c4 => omega
          case c5 => first | omega | (simp; omega)
          intro vo' w4 hown4 hgrow4 _
          have HS4 := Lib.hid (HS.out.next (v := .slice AR K CR) (vo' := vo') HB.out (by rw [← HXs.out, rowI_len, ← HK.out]; exact HOr.out) (ba wr _) hown4 rfl hgrow4)
          have HQ4 := Lib.hid (show z = tot (ls.take (i + 1)) by rw [HSuc.out, ← HQ.out]; exact HZ.out)
          clear hown4 hgrow4 HNb
          go_wp2_with fail
          go_roundw
          case rel => exact ⟨i + 1, z, _, by go_num, by omega, rfl, HQ4, HS4⟩
          case measure => simp [intOf]; omega
    · obtain rfl : N = i := by omega
      obtain ⟨g, cap, hsh, hls⟩ := HS.out.lists h1
      have htt := ownI_tot ls N (by have := HN.out; omega)
      have htk := HTk.out N
      have HM := Lib.hid (merge_in (c := cap) hls (by rw [ownI_len]; exact h1) (by rw [ownI_len]; exact h2) (by omega))
      rw [ownI_len] at HM
      have HTt := Lib.hid (show tot (ownI ls N) = q by rw [htt]; exact HQ.out.symm)
      have HGd := Lib.hid (ownI_good ls N (fun j => by
        rcases Nat.lt_or_ge j ls.length with hj | hj
        · have := len_le_tot hj; have := HT.out; omega
        · rw [List.getD_eq_getElem?_getD, List.getElem?_eq_none hj]; simp))
      have hq2 : q ≤ 2000 := by rw [HQ.out]; exact htk
      have HBo := Lib.hid HS.out.below
      subst hsh
      clear hls htt htk
      go_wp2_with fail
      refine HM.out.mono ?_
      rintro e w5 ⟨v5, out, rfl, hm5, ho5, hb5⟩
      have hlen := hm5.len
      rw [HTt.out] at hlen
      subst hlen
      have HSo := Lib.hid (hm5.sorted HGd.out)
      obtain ⟨A5, c5, hsh⟩ := own_sliceT ho5
      subst hsh
      have HO5 := Lib.hid ho5
      have HB5 := Lib.hid (HBo.out.trans (hb5.mono HS.out.lo))
      clear hm5 ho5 hb5 HM HTt HGd
      go_wp2_with fail
      refine (lives8_yes w5).mono ?_
      rintro e w6 ⟨rfl, hb6⟩
      have HP6 := Lib.hid (own_pv (own_sameT HO5.out (fun k hk => hb6.block k (HO5.out.lt k hk).2)))
      have HB6 := Lib.hid (bt HB5.out hb6)
      clear hb6 HO5 HB5
      obtain ⟨Q, hQ⟩ : ∃ Q, Q = out.length := ⟨_, rfl⟩
      rw [← hQ] at hq2 ⊢
      have HQQ := Lib.hid hQ
      have hne : ((Q : Int) != (Q : Int)) = false := by simp
      have HPa := Lib.hid (show PAt w6.heap.size w6 A5 out from by
        obtain ⟨A', c', e1, _, _, hpa⟩ := HP6.out
        simp only [Value.slice.injEq] at e1
        rw [e1.1]; exact hpa)
      clear HP6 hQ
      go_wp2_with fail
      go_loopw [11] (fun jj wr => ∃ j : Nat, jj = .int .i64 j ∧ 1 ≤ j ∧ j ≤ Q + 1 ∧ Hid (Below w6.heap.size w6 wr)) (fun jj _ => Q + 1 - (intOf jj).toNat)
      case atStart => exact ⟨1, rfl, Nat.le_refl _, by omega, Lib.hid (Below.refl _ _)⟩
      case round =>
        obtain ⟨j, rfl, hj1, hj2, HB⟩ := hrel
        by_cases hltj : j < Q
        · obtain ⟨m, hm⟩ : ∃ m, j = m + 1 := ⟨j - 1, by omega⟩
          have hml : m + 1 < out.length := by have := HQQ.out; omega
          have hml0 : m < out.length := by omega
          obtain ⟨b7, o7, hA7, d0, d1⟩ := (HPa.out.kept HB.out).at hml0
          subst hA7
          obtain ⟨b8, o8, hA8, f0, f1⟩ := (HPa.out.kept HB.out).at hml
          simp only [Option.some.injEq, Addr.mk.injEq] at hA8
          obtain ⟨e7, e8, _⟩ := hA8
          rw [← e7, ← e8] at f0 f1
          have hlt7 := sorted_at HSo.out hml
          unfold ltP at hlt7
          generalize out[m] = x at d0 d1 hlt7
          generalize out[m + 1] = y at f0 f1 hlt7
          rw [← hm] at f0 f1
          have hjm : (j : Int) - 1 = (m : Int) := by omega
          have HJw := Lib.hid (show IntKind.i64.wrap ((j : Int) - 1) = (m : Int) by rw [hjm]; exact IntWalk.i64_in _ (by omega))
          have HMw := Lib.hid (show IntKind.i64.wrap (m : Int) = (m : Int) from IntWalk.i64_in _ (by omega))
          have hjQ : (j : Int) < (Q : Int) := by omega
          have hmQ : (m : Int) < (Q : Int) := by omega
          have hmQn : m < Q := by omega
          clear hm hml hml0 e7 e8
          obtain ⟨xk, xt⟩ := x
          obtain ⟨yk, yt⟩ := y
          simp only at d0 d1 f0 f1 hlt7
          rcases hlt7 with hlt7 | ⟨heq, hlt7⟩
          · have g1 : decide (yk < xk) = false := by simp; omega
            have g2 : (xk == yk) = false := by simp; omega
            go_wp2_with fail
            have hjw := HJw.out
            have hmw := HMw.out
            go_quiet (fail)
            clear hjw hmw HJw HMw
            go_wp2_with fail
            go_roundw
            case rel => exact ⟨j + 1, by go_num, by omega, by omega, Lib.hid (bt HB.out (drNT _ _))⟩
            case measure => simp [intOf]; omega
          · subst heq
            have g1 : decide (xk < xk) = false := by simp
            have g2 : (xk == xk) = true := by simp
            have g3 : decide (yt ≤ xt) = false := by simp; omega
            go_wp2_with fail
            have hjw := HJw.out
            have hmw := HMw.out
            go_quiet (fail)
            clear hjw hmw HJw HMw
            go_wp2_with fail
            go_roundw
            case rel => exact ⟨j + 1, by go_num, by omega, by omega, Lib.hid (bt HB.out (drNT _ _))⟩
            case measure => simp [intOf]; omega
        · go_wp2_with fail
          go_ret
          exact ⟨rfl, bt HB6.out HB.out⟩
theorem treeSorts_walk (A : Option Addr) (c : Nat) (ls : List (List Pr)) (w : World) (h : LsAt w.heap.size w A ls) (hz : ∀ r ∈ ls, r.length * 16 ≤ reachBytes) (hl : ls.length ≤ 9223372036854775807) :
    Calls Try.prog 5 #[.slice A ls.length c] w fun e w' => e = .returned (.bool true) ∧ Below w.heap.size w w' := by
  by_cases ho : lrg ls = true ∨ ls.length < 1 ∨ 64 < ls.length
  · exact treeSorts_out A c ls w h hz hl ho
  · exact treeSorts_in A c ls w h hz (by cases hb : lrg ls with | true => exact absurd (.inl hb) ho | false => rfl) (by omega) (by omega)
end Go.Proofs.Ytjcinhlghlcknaa
