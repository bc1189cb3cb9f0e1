/-
  Lists of expressions whose parts lie in older memory; the document's Kinds.
-/
import Derived.Test.YteckhaicodmakaaGreatDoorExf
import Derived.Maps.AppendAt
import Derived.Laws.AppendOwnNone
namespace Go.Proofs.YteckhaicodmakaaGreatDoor
open Go.RowKit Go.Shelf

structure Yown (n₀ base : Nat) (W1 W : World) (v : Value) (l : List Ex) : Prop where
  row : ∃ q, XRs (fun k => k < n₀) W l q ∧ W.ownsRow base 26 8 v l.length (xcells q)
  bel : Below base W1 W
  le : base ≤ W.heap.size
  nil : l = [] → v = .slice none 0 0
theorem Yown.slice {n₀ base : Nat} {W1 W : World} {v : Value} {l : List Ex} (h : Yown n₀ base W1 W v l) : ∃ A cap, v = .slice A l.length cap := by
  obtain ⟨q, _, ho⟩ := h.row
  rcases ho.2 with ⟨rfl, h0⟩ | ⟨g, cap, cur, hv, _⟩
  · rw [h0]; exact ⟨none, 0, rfl⟩
  · exact ⟨_, cap, hv⟩
theorem Yown.start (n₀ : Nat) (W : World) : Yown n₀ W.heap.size W W (.slice none 0 0) [] :=
  ⟨⟨[], .nil, World.ownsRow_nil _ _ _ _⟩, Below.refl _ _, Nat.le_refl _, fun _ => rfl⟩
theorem Yown.below {n₀ base : Nat} {W1 W W' : World} {v : Value} {l : List Ex} (h : Yown n₀ base W1 W v l) (hb : Below W.heap.size W W') (hn : n₀ ≤ base) : Yown n₀ base W1 W' v l := by
  obtain ⟨q, hq, ho⟩ := h.row
  have hle := h.le
  refine ⟨⟨q, hq.go (fun k hk => hb.block k (by omega)) (fun _ hk => hk), ho.1, ?_⟩, h.bel.trans (hb.mono h.le), Nat.le_trans h.le hb.size, h.nil⟩
  rcases ho.2 with hn | ⟨g, cap, cur, hv, hb1, hg, hc, hm, hsz, ht⟩
  · exact .inl hn
  · exact .inr ⟨g, cap, cur, hv, hb1, (hb.block g (by
      rcases Nat.lt_or_ge g W.heap.size with h | h
      · exact h
      · rw [Array.getElem?_eq_none h] at hg; cases hg)).trans hg, hc, hm, hsz, ht⟩
theorem Yown.weak {n₀ base base' : Nat} {W0 W1 W : World} {v : Value} {l : List Ex} (h : Yown n₀ base W1 W v l) (hb : Below base' W0 W1) (hle : base' ≤ base) : Yown n₀ base' W0 W v l := by
  obtain ⟨q, hq, ho⟩ := h.row
  have hs := h.le
  refine ⟨⟨q, hq, ho.1, ?_⟩, hb.trans (h.bel.mono hle), by omega, h.nil⟩
  rcases ho.2 with hn | ⟨g, cap, cur, hv, hb1, hg, hc, hm, hsz, ht⟩
  · exact .inl hn
  · exact .inr ⟨g, cap, cur, hv, by omega, hg, hc, hm, hsz, ht⟩
/-- What such a list reads as. -/
theorem Yown.rows {n₀ base : Nat} {W1 W : World} {v : Value} {l : List Ex} (h : Yown n₀ base W1 W v l) :
    (l = [] ∧ v = .slice none 0 0) ∨ ∃ g cap q, v = .slice (some ⟨g, 0, none⟩) l.length cap ∧ l.length ≤ cap ∧ g < W.heap.size ∧ base ≤ g ∧ XRs (fun k => k < n₀) W l q ∧ (∀ j u, (xcells q)[j]? = some u → W.cell? ((⟨g, 0, none⟩ : Addr).add j) = some u) := by
  obtain ⟨q, hq, ho⟩ := h.row
  rcases ho.2 with ⟨rfl, h0⟩ | ⟨g, cap, cur, hv, hb1, hg, hc, hm, hsz, ht⟩
  · exact .inl ⟨List.eq_nil_of_length_eq_zero h0, rfl⟩
  · refine .inr ⟨g, cap, q, hv, by omega, ?_, hb1, hq, World.ownsRow.cells ho (by rw [hv]; rfl)⟩
    rcases Nat.lt_or_ge g W.heap.size with h | h
    · exact h
    · rw [Array.getElem?_eq_none h] at hg; cases hg
theorem addp (g j : Nat) : (⟨g, 0, none⟩ : Addr).add j = ⟨g, j, none⟩ := by simp only [Addr.add]; split <;> simp_all
theorem Yown.xsAt {n₀ base : Nat} {W1 W : World} {v : Value} {l : List Ex} (h : Yown n₀ base W1 W v l) (hn : n₀ ≤ base) : ∃ A cap, v = .slice A l.length cap ∧ l.length ≤ cap ∧ XsAt W.heap.size W l A := by
  have hle := h.le
  rcases h.rows with ⟨rfl, rfl⟩ | ⟨g, cap, q, hv, hl, hg, _, hq, hc⟩
  · exact ⟨none, 0, rfl, Nat.le_refl _, by rw [XsAt, XsB]; trivial⟩
  · refine ⟨_, cap, hv, hl, XRs.xsB (B := fun k => k < W.heap.size) hg (hq.go (B' := fun k => k < W.heap.size) (fun _ _ => rfl) (fun k hk => by omega)) fun j u hj => ?_⟩
    have := hc j u hj
    rwa [addp, ← Nat.zero_add j] at this
/-- A list appended. -/
theorem Yown.grow {n₀ base : Nat} {W1 W : World} {v : Value} {l : List Ex} (h : Yown n₀ base W1 W v l) (hn : n₀ ≤ base) {q : List XQ} (hq : XRs (fun k => k < n₀) W l q ∧ W.ownsRow base 26 8 v l.length (xcells q)) {l' : List Ex} {q' : List XQ} (hq' : XRs (fun k => k < n₀) W l' q') (hne : l' ≠ [])
    {v' : Value} {w' : World} (ho : w'.ownsRow base 26 8 v' (l.length + l'.length) (xcells q ++ xcells q')) (hg : W.grownBy w' v.ownBlock) : Yown n₀ base W1 w' v' (l ++ l') := by
  have hle := h.le
  have hs := hg.size
  have hb : ∀ k, k < n₀ → w'.heap[k]? = W.heap[k]? := fun k hk => hg.block k (by omega) (fun e => by have := (hq.2.lt k e.symm).1; omega)
  refine ⟨⟨q ++ q', (hq.1.go hb (fun _ h => h)).app (hq'.go hb (fun _ h => h)), ?_⟩, h.bel.trans ((Below.refl base W).grown hg hle (fun k hk => (hq.2.lt k hk).1)), by omega, fun e => by simp at e; exact absurd e.2 hne⟩
  rw [xcells_app, List.length_append]
  exact ho
mutual
theorem knd_len (c : Int) : ∀ x : Ex, (kndX c x).length ≤ cnt x
  | .mk h l => by
    have := knds_len c l
    rw [kndX, cnt, List.length_append]
    split <;> simp <;> omega
theorem knds_len (c : Int) : ∀ l : List Ex, (kndXs c l).length ≤ cntL l
  | [] => by simp [kndXs]
  | x :: r => by
    have := knd_len c x
    have := knds_len c r
    rw [kndXs, cntL, List.length_append]; omega
end
set_option maxRecDepth 100000 in
set_option maxHeartbeats 8000000 in
theorem refKinds_n (c : Int) (n₀ : Nat) : ∀ (N : Nat) (h : Hd) (l : List Ex), cnt (.mk h l) ≤ N → N ≤ 1000000 → ∀ (w : World) (A : Option Addr) (cap : Nat), XsAt n₀ w l A → l.length ≤ cap → n₀ ≤ w.heap.size →
    Calls Tryz.prog 33 #[XV h A l.length cap, .int .i64 c] w fun e w' => ∃ v, e = .returned v ∧ Yown n₀ w.heap.size w w' v (kndX c (.mk h l)) := by
  intro N
  induction N with
  | zero => intro h l hc; have := cnt_pos (.mk h l); omega
  | succ N ih =>
    intro h l hc hN w A cap hX hcap hn
    obtain ⟨i0, hi, hz0, hz1, hz2⟩ := infoE_parts info_expr
    rw [cnt_mk] at hc
    have hlen := cntL_len l
    have hba := ba w (xbox h A l.length cap)
    have HX0 := Lib.hid (MapKept.heap_alloc w (xbox h A l.length cap)).1
    obtain ⟨⟨x0, x1, x2, x3, x4, x5, x6, x7⟩, _⟩ := cell8 HX0.out
    have HBa := Lib.hid hba
    have HXl := Lib.hid (show XsAt n₀ (w.alloc (xbox h A l.length cap)) l A from hX.kept (hba.mono hn))
    have HI := Lib.hid (show ∀ (h' : Hd) (l' : List Ex), cnt (.mk h' l') ≤ N → ∀ (w1 : World) (A' : Option Addr) (cap' : Nat), XsAt n₀ w1 l' A' → l'.length ≤ cap' → n₀ ≤ w1.heap.size →
        Calls Tryz.prog 33 #[XV h' A' l'.length cap', .int .i64 c] w1 fun e w' => ∃ v, e = .returned v ∧ Yown n₀ w1.heap.size w1 w' v (kndX c (.mk h' l')) from fun h' l' hc' w1 A' cap' h1 h2 h3 => ih h' l' hc' (by omega) w1 A' cap' h1 h2 h3)
    have hsz0 : (w.alloc (xbox h A l.length cap)).heap.size = w.heap.size + 1 := by simp
    clear hX ih hba
    by_cases hk : h.k = c
    case' pos =>
      have hkb : (h.k == c) = true := by simpa using hk
      have HD := Lib.hid (show kndX c (.mk h l) = [.mk h l] ++ kndXs c l by rw [kndX, if_pos hk])
      obtain ⟨O, hO⟩ : ∃ O, O = [Ex.mk h l] := ⟨_, rfl⟩
      rw [← hO] at HD
      have HOl := Lib.hid (show O.length ≤ 1 by rw [hO]; simp)
      have hY0 : Yown n₀ (w.alloc (xbox h A l.length cap)).heap.size (w.alloc (xbox h A l.length cap)) ((w.alloc (xbox h A l.length cap)).alloc (.cells (xcell (h, A, l.length, cap)).toArray 26)) (.slice none 0 0) [] := (Yown.start n₀ _).below (ba _ _) (by rw [hsz0]; omega)
      have hqe : XRs (fun k => k < n₀) ((w.alloc (xbox h A l.length cap)).alloc (.cells (xcell (h, A, l.length, cap)).toArray 26)) [.mk h l] [(h, A, l.length, cap)] :=
        .cons ⟨rfl, rfl, hcap, XsB.go (fun k hk => (ba (w.alloc (xbox h A l.length cap)) _).block k (by omega)) (fun _ hk => hk) _ _ HXl.out⟩ .nil
      have HG0 := Lib.hid (show ∀ v' w', w'.ownsRow (w.heap.size + 1) 26 8 v' 1 (xcell (h, A, l.length, cap)) → ((w.alloc (xbox h A l.length cap)).alloc (.cells (xcell (h, A, l.length, cap)).toArray 26)).grownBy w' (Value.ownBlock (.slice none 0 0)) → Yown n₀ (w.alloc (xbox h A l.length cap)).heap.size (w.alloc (xbox h A l.length cap)) w' v' O from fun v' w' ho hg => by
        rw [hO]
        exact hY0.grow (by rw [hsz0]; omega) (q := []) ⟨.nil, World.ownsRow_nil _ _ _ _⟩ hqe (by simp) (by rw [hsz0]; simpa [xcells] using ho) hg)
      clear hk hY0 hqe hO
      go_enter Tryz.func33, Tryz.ntmps33
      go_wp2_with (at_builtin; refine wpList_append_own _ rfl _ _ 24 rfl (w.alloc (xbox h A l.length cap)).heap.size 26 i0 _ 8 104 Tryz.underlying24 hi hz0 hz1 hz2 rfl (by decide) _ _ _ rfl (World.ownsRow_nil _ _ _ _) ⟨w.heap.size + 1, 0, none⟩ 1 1 (xcell (h, A, l.length, cap)) rfl rfl (by rw [← hsz0]; exact xnews _ _ _) (xcell_one _) ?c3 ?c4 ?c5 ?_)
      case c3 => unfold maxLen; omega
      case c4 => omega
      case c5 => simp
      intro v' w' hown hgrow _
      have HYO := Lib.hid (HG0.out _ _ hown hgrow)
      clear hown hgrow HG0
    case' neg =>
      have hkb : (h.k == c) = false := by simpa using hk
      have HD := Lib.hid (show kndX c (.mk h l) = [] ++ kndXs c l by rw [kndX, if_neg hk])
      obtain ⟨O, hO⟩ : ∃ O, O = ([] : List Ex) := ⟨_, rfl⟩
      rw [← hO] at HD
      have HOl := Lib.hid (show O.length ≤ 1 by rw [hO]; simp)
      have HYO := Lib.hid (show Yown n₀ (w.alloc (xbox h A l.length cap)).heap.size (w.alloc (xbox h A l.length cap)) (w.alloc (xbox h A l.length cap)) (.slice none 0 0) O by rw [hO]; exact Yown.start n₀ _)
      clear hk hO
      go_enter Tryz.func33, Tryz.ntmps33
      go_upto_region 4 with fail
    all_goals
      clear hkb x0 x1 x2 x3 x4 x5 x6 x7
      have hll : l.length ≤ 1000000 := by omega
      have hcl : cntL l ≤ 1000000 := by omega
      obtain ⟨W0, hW0⟩ : ∃ W0, w.alloc (xbox h A l.length cap) = W0 := ⟨_, rfl⟩
      rw [hW0] at HX0 HBa HXl hsz0 HYO
      try rw [hW0]
      have HS0 := Lib.hid hsz0
      clear hW0 hsz0
      go_wp2_with fail
      go_loopw [6, 5] (fun i v W => ∃ k : Nat, k ≤ l.length ∧ i = .int .i64 k ∧ Hid (Yown n₀ W0.heap.size W0 W v (O ++ kndXs c (l.take k)))) (fun i _ _ => l.length - (intOf i).toNat)
      case atStart => exact ⟨0, Nat.zero_le _, rfl, Lib.hid (by rw [List.take_zero, kndXs, List.append_nil]; exact HYO.out)⟩
      case round =>
        clear HYO
        obtain ⟨k, hk, rfl, HW⟩ := hrel
        have hz1 := (HW.out.bel.block w.heap.size (by have := HS0.out; omega)).trans HX0.out
        obtain ⟨⟨p0, p1, p2, p3, p4, p5, p6, p7⟩, _⟩ := cell8 hz1
        have hbw : Below w.heap.size w wr := HBa.out.trans (HW.out.bel.mono HBa.out.size)
        have hb0 : Below n₀ W0 wr := HW.out.bel.mono (by have := HS0.out; omega)
        clear hz1
        obtain ⟨n, hn1⟩ : ∃ n, (O ++ kndXs c (l.take k)).length = n := ⟨_, rfl⟩
        have hn6 : n ≤ 1000001 := by
          have h1 := HOl.out
          have h2 := knds_len c (l.take k)
          have h3 := cntL_take_le l k
          rw [← hn1, List.length_append]; omega
        obtain ⟨AS, capS, hv⟩ := HW.out.slice
        rw [hn1] at hv
        subst hv
        by_cases hkn : k < l.length
        · obtain ⟨x, hx⟩ : ∃ x, l[k]? = some x := ⟨_, List.getElem?_eq_getElem hkn⟩
          obtain ⟨h', l'⟩ := x
          have HT := Lib.hid (show O ++ kndXs c (l.take (k + 1)) = (O ++ kndXs c (l.take k)) ++ kndX c (.mk h' l') by rw [kndXs_take c hx, List.append_assoc])
          have hc' := cntL_mem hx
          obtain ⟨g, off, A', cap', rfl, hg, hX, hle', hl'⟩ := HXl.out.at hx
          obtain ⟨c0, c1, c2, c3, c4, c5, c6, c7⟩ := hX.of (hb0.block g hg)
          have HC := Lib.hid (HI.out h' l' (by omega) wr A' cap' (XsAt.kept hb0 hl') hle' (by have := hbw.size; omega))
          have hkl := knd_len c (.mk h' l')
          clear hX hl' hx hg hbw hb0
          go_wp2_with fail
          refine HC.out.mono ?_
          rintro e w3 ⟨v3, rfl, hY3⟩
          have hb3 := hY3.bel
          have H3 := HW.out.below hb3 (by have := HS0.out; omega)
          obtain ⟨q, hq⟩ := H3.row
          have hq2 := hq.2
          rw [hn1] at hq2
          rcases hY3.rows with ⟨hnil, rfl⟩ | ⟨g3, cap3, q3, rfl, hle3, hg3, _, hq3, hc3⟩
          · have HG := Lib.hid (show Yown n₀ W0.heap.size W0 w3 (.slice AS n capS) (O ++ kndXs c (l.take (k + 1))) by rw [HT.out, hnil, List.append_nil]; exact H3)
            clear H3 hq hY3 hb3 hnil c0 c1 c2 c3 c4 c5 c6 c7
            go_wp2_with (at_builtin; refine wpList_append_own_none rfl _ _ 24 rfl W0.heap.size 26 i0 8 Tryz.underlying24 hi _ _ _ rfl hq2 rfl ?_)
            go_wp2_with fail
            go_roundw
            case rel => first | exact ⟨k + 1, by omega, by go_num, HG⟩ | ((repeat apply Exists.intro); exact ⟨⟨k + 1, by omega, by go_num, HG⟩, rfl⟩)
            case measure => simp [intOf]; omega
          · obtain ⟨m, hm⟩ : ∃ m, (kndX c (.mk h' l')).length = m := ⟨_, rfl⟩
            have hql := hq3.len
            rw [hm] at hle3 hkl hql ⊢
            have hm0 : kndX c (.mk h' l') ≠ [] ∨ m = 0 := by
              rcases Nat.eq_zero_or_pos m with h | h
              · exact .inr h
              · exact .inl (fun e => by rw [e] at hm; simp at hm; omega)
            have HH3 := Lib.hid (show m ≠ 0 → ∀ v' w', w'.ownsRow W0.heap.size 26 8 v' (n + m) (xcells q ++ xcells q3) → w3.grownBy w' (Value.ownBlock (.slice AS n capS)) → Yown n₀ W0.heap.size W0 w' v' (O ++ kndXs c (l.take (k + 1))) from fun hm1 v' w' ho hg => by
              rw [HT.out]
              exact H3.grow (by have := HS0.out; omega) hq hq3 (hm0.resolve_right hm1) (by rw [hn1, hm]; exact ho) hg)
            have HM := Lib.hid (show m ≠ 0 by
              intro e0
              have hnil : kndX c (.mk h' l') = [] := List.eq_nil_of_length_eq_zero (by rw [hm]; exact e0)
              have h1 := hY3.nil hnil
              simp at h1)
            have hnews := Lib.hid hc3
            have HLE := Lib.hid H3.le
            have hn7 : cnt (.mk h' l') ≤ 1000000 := by omega
            clear H3 hq hY3 hb3 hq3 hm0 hc3 c0 c1 c2 c3 c4 c5 c6 c7
            go_wp2_with (at_builtin; refine wpList_append_own _ rfl _ _ 24 rfl W0.heap.size 26 i0 _ 8 104 Tryz.underlying24 hi hz0 hz1 hz2 rfl (by decide) _ _ _ rfl hq2 ⟨g3, 0, none⟩ m cap3 (xcells q3) rfl (by rw [xcells_len, hql]) hnews.out (xcells_one _) ?c3 ?c4 ?c5 ?_)
            case c3 => unfold maxLen; omega
            case c4 => omega
            case c5 => exact HLE.out
            intro v' w4 hown' hg4 _
            have HG := Lib.hid (HH3.out HM.out _ _ hown' hg4)
            clear hown' hg4
            go_wp2_with fail
            go_roundw
            case rel => first | exact ⟨k + 1, by omega, by go_num, HG⟩ | ((repeat apply Exists.intro); exact ⟨⟨k + 1, by omega, by go_num, HG⟩, rfl⟩)
            case measure => simp [intOf]; omega
        · obtain rfl : k = l.length := by omega
          have HY := Lib.hid (show Yown n₀ w.heap.size w wr (.slice AS n capS) (kndX c (.mk h l)) by
            rw [HD.out]
            have := HW.out
            rw [List.take_length] at this
            exact this.weak HBa.out (by have := HS0.out; omega))
          clear hn1 hbw hb0
          go_wp2_with fail
          go_ret
          exact ⟨_, rfl, HY.out⟩
end Go.Proofs.YteckhaicodmakaaGreatDoor
