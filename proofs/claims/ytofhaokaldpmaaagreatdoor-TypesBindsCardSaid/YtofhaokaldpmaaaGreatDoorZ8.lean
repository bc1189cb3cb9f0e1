/-
  Lists of expressions whose parts lie in older memory; the document's Kinds.
All.
  What must come of every program: expr's lives.
The document's Name.
  The document's one: may an expression be, but for its parts?
  The document's one, at 1.
  The document's one, at 2.
  The document's one, at 3.
  The document's one, at 4.
The document's one, walk, Check, Size.
-/
import Derived.Test.YtofhaokaldpmaaaGreatDoorZ7
import Derived.Maps.AppendAt
import Derived.Laws.AppendOwnNone
import Derived.Deep.QuietTactic
import Derived.BigQuiet
import Derived.Deep.RegionHeld3
import Derived.Deep.RegionWith
section
namespace Go.Proofs.YtofhaokaldpmaaaGreatDoor
open Go.RowKit Go.Shelf

structure Yown (n₀ base : Nat) (W1 W : World) (v : Value) (l : List Ex) : Prop where
  row : ∃ q, XRs (fun k => k < n₀) W l q ∧ W.ownsRow base 35 8 v l.length (xcells q)
  bel : Below base W1 W
  le : base ≤ W.heap.size
  nil : l = [] → v = .slice none 0 0
theorem Yown.slice {n₀ base : Nat} {W1 W : World} {v : Value} {l : List Ex} (h : Yown n₀ base W1 W v l) : ∃ A cap, v = .slice A l.length cap := by
  obtain ⟨q, _, ho⟩ := h.row
  rcases ho.2 with ⟨rfl, h0⟩ | ⟨g, cap, cur, hv, _⟩
  · rw [h0]; exact ⟨none, 0, rfl⟩
  · exact ⟨_, cap, hv⟩
theorem Yown.start (n₀ : Nat) (W : World) : Yown n₀ W.heap.size W W (.slice none 0 0) [] :=
  ⟨⟨[], .nil, World.ownsRow_nil _ _ _ _⟩, Below.refl _ _, Nat.le_refl _, fun _ => rfl⟩
theorem Yown.below {n₀ base : Nat} {W1 W W' : World} {v : Value} {l : List Ex} (h : Yown n₀ base W1 W v l) (hb : Below W.heap.size W W') (hn : n₀ ≤ base) : Yown n₀ base W1 W' v l := by
  obtain ⟨q, hq, ho⟩ := h.row
  have hle := h.le
  refine ⟨⟨q, hq.go (fun k hk => hb.block k (by omega)) (fun _ hk => hk), ho.1, ?_⟩, h.bel.trans (hb.mono h.le), Nat.le_trans h.le hb.size, h.nil⟩
  rcases ho.2 with hn | ⟨g, cap, cur, hv, hb1, hg, hc, hm, hsz, ht⟩
  · exact .inl hn
  · exact .inr ⟨g, cap, cur, hv, hb1, (hb.block g (by
      rcases Nat.lt_or_ge g W.heap.size with h | h
      · exact h
      · rw [Array.getElem?_eq_none h] at hg; cases hg)).trans hg, hc, hm, hsz, ht⟩
theorem Yown.weak {n₀ base base' : Nat} {W0 W1 W : World} {v : Value} {l : List Ex} (h : Yown n₀ base W1 W v l) (hb : Below base' W0 W1) (hle : base' ≤ base) : Yown n₀ base' W0 W v l := by
  obtain ⟨q, hq, ho⟩ := h.row
  have hs := h.le
  refine ⟨⟨q, hq, ho.1, ?_⟩, hb.trans (h.bel.mono hle), by omega, h.nil⟩
  rcases ho.2 with hn | ⟨g, cap, cur, hv, hb1, hg, hc, hm, hsz, ht⟩
  · exact .inl hn
  · exact .inr ⟨g, cap, cur, hv, by omega, hg, hc, hm, hsz, ht⟩
/-- What such a list reads as. -/
theorem Yown.rows {n₀ base : Nat} {W1 W : World} {v : Value} {l : List Ex} (h : Yown n₀ base W1 W v l) :
    (l = [] ∧ v = .slice none 0 0) ∨ ∃ g cap q, v = .slice (some ⟨g, 0, none⟩) l.length cap ∧ l.length ≤ cap ∧ g < W.heap.size ∧ base ≤ g ∧ XRs (fun k => k < n₀) W l q ∧ (∀ j u, (xcells q)[j]? = some u → W.cell? ((⟨g, 0, none⟩ : Addr).add j) = some u) := by
  obtain ⟨q, hq, ho⟩ := h.row
  rcases ho.2 with ⟨rfl, h0⟩ | ⟨g, cap, cur, hv, hb1, hg, hc, hm, hsz, ht⟩
  · exact .inl ⟨List.eq_nil_of_length_eq_zero h0, rfl⟩
  · refine .inr ⟨g, cap, q, hv, by omega, ?_, hb1, hq, World.ownsRow.cells ho (by rw [hv]; rfl)⟩
    rcases Nat.lt_or_ge g W.heap.size with h | h
    · exact h
    · rw [Array.getElem?_eq_none h] at hg; cases hg
theorem addp (g j : Nat) : (⟨g, 0, none⟩ : Addr).add j = ⟨g, j, none⟩ := by simp only [Addr.add]; split <;> simp_all
theorem Yown.xsAt {n₀ base : Nat} {W1 W : World} {v : Value} {l : List Ex} (h : Yown n₀ base W1 W v l) (hn : n₀ ≤ base) : ∃ A cap, v = .slice A l.length cap ∧ l.length ≤ cap ∧ XsAt W.heap.size W l A := by
  have hle := h.le
  rcases h.rows with ⟨rfl, rfl⟩ | ⟨g, cap, q, hv, hl, hg, _, hq, hc⟩
  · exact ⟨none, 0, rfl, Nat.le_refl _, by rw [XsAt, XsB]; trivial⟩
  · refine ⟨_, cap, hv, hl, XRs.xsB (B := fun k => k < W.heap.size) hg (hq.go (B' := fun k => k < W.heap.size) (fun _ _ => rfl) (fun k hk => by omega)) fun j u hj => ?_⟩
    have := hc j u hj
    rwa [addp, ← Nat.zero_add j] at this
/-- A list appended. -/
theorem Yown.grow {n₀ base : Nat} {W1 W : World} {v : Value} {l : List Ex} (h : Yown n₀ base W1 W v l) (hn : n₀ ≤ base) {q : List XQ} (hq : XRs (fun k => k < n₀) W l q ∧ W.ownsRow base 35 8 v l.length (xcells q)) {l' : List Ex} {q' : List XQ} (hq' : XRs (fun k => k < n₀) W l' q') (hne : l' ≠ [])
    {v' : Value} {w' : World} (ho : w'.ownsRow base 35 8 v' (l.length + l'.length) (xcells q ++ xcells q')) (hg : W.grownBy w' v.ownBlock) : Yown n₀ base W1 w' v' (l ++ l') := by
  have hle := h.le
  have hs := hg.size
  have hb : ∀ k, k < n₀ → w'.heap[k]? = W.heap[k]? := fun k hk => hg.block k (by omega) (fun e => by have := (hq.2.lt k e.symm).1; omega)
  refine ⟨⟨q ++ q', (hq.1.go hb (fun _ h => h)).app (hq'.go hb (fun _ h => h)), ?_⟩, h.bel.trans ((Below.refl base W).grown hg hle (fun k hk => (hq.2.lt k hk).1)), by omega, fun e => by simp at e; exact absurd e.2 hne⟩
  rw [xcells_app, List.length_append]
  exact ho
mutual
theorem knd_len (c : Int) : ∀ x : Ex, (kndX c x).length ≤ cnt x
  | .mk h l => by
    have := knds_len c l
    rw [kndX, cnt, List.length_append]
    split <;> simp <;> omega
theorem knds_len (c : Int) : ∀ l : List Ex, (kndXs c l).length ≤ cntL l
  | [] => by simp [kndXs]
  | x :: r => by
    have := knd_len c x
    have := knds_len c r
    rw [kndXs, cntL, List.length_append]; omega
end
set_option maxRecDepth 100000 in
set_option maxHeartbeats 8000000 in
theorem refKinds_n (c : Int) (n₀ : Nat) : ∀ (N : Nat) (h : Hd) (l : List Ex), cnt (.mk h l) ≤ N → N ≤ 1000000 → ∀ (w : World) (A : Option Addr) (cap : Nat), XsAt n₀ w l A → l.length ≤ cap → n₀ ≤ w.heap.size →
    Calls Tryz.prog 38 #[XV h A l.length cap, .int .i64 c] w fun e w' => ∃ v, e = .returned v ∧ Yown n₀ w.heap.size w w' v (kndX c (.mk h l)) := by
  intro N
  induction N with
  | zero => intro h l hc; have := cnt_pos (.mk h l); omega
  | succ N ih =>
    intro h l hc hN w A cap hX hcap hn
    obtain ⟨i0, hi, hz0, hz1, hz2⟩ := infoE_parts info_expr
    rw [cnt_mk] at hc
    have hlen := cntL_len l
    have hba := ba w (xbox h A l.length cap)
    have HX0 := Lib.hid (MapKept.heap_alloc w (xbox h A l.length cap)).1
    obtain ⟨⟨x0, x1, x2, x3, x4, x5, x6, x7⟩, _⟩ := cell8 HX0.out
    have HBa := Lib.hid hba
    have HXl := Lib.hid (show XsAt n₀ (w.alloc (xbox h A l.length cap)) l A from hX.kept (hba.mono hn))
    have HI := Lib.hid (show ∀ (h' : Hd) (l' : List Ex), cnt (.mk h' l') ≤ N → ∀ (w1 : World) (A' : Option Addr) (cap' : Nat), XsAt n₀ w1 l' A' → l'.length ≤ cap' → n₀ ≤ w1.heap.size →
        Calls Tryz.prog 38 #[XV h' A' l'.length cap', .int .i64 c] w1 fun e w' => ∃ v, e = .returned v ∧ Yown n₀ w1.heap.size w1 w' v (kndX c (.mk h' l')) from fun h' l' hc' w1 A' cap' h1 h2 h3 => ih h' l' hc' (by omega) w1 A' cap' h1 h2 h3)
    have hsz0 : (w.alloc (xbox h A l.length cap)).heap.size = w.heap.size + 1 := by simp
    clear hX ih hba
    by_cases hk : h.k = c
    case' pos =>
      have hkb : (h.k == c) = true := by simpa using hk
      have HD := Lib.hid (show kndX c (.mk h l) = [.mk h l] ++ kndXs c l by rw [kndX, if_pos hk])
      obtain ⟨O, hO⟩ : ∃ O, O = [Ex.mk h l] := ⟨_, rfl⟩
      rw [← hO] at HD
      have HOl := Lib.hid (show O.length ≤ 1 by rw [hO]; simp)
      have hY0 : Yown n₀ (w.alloc (xbox h A l.length cap)).heap.size (w.alloc (xbox h A l.length cap)) ((w.alloc (xbox h A l.length cap)).alloc (.cells (xcell (h, A, l.length, cap)).toArray 35)) (.slice none 0 0) [] := (Yown.start n₀ _).below (ba _ _) (by rw [hsz0]; omega)
      have hqe : XRs (fun k => k < n₀) ((w.alloc (xbox h A l.length cap)).alloc (.cells (xcell (h, A, l.length, cap)).toArray 35)) [.mk h l] [(h, A, l.length, cap)] :=
        .cons ⟨rfl, rfl, hcap, XsB.go (fun k hk => (ba (w.alloc (xbox h A l.length cap)) _).block k (by omega)) (fun _ hk => hk) _ _ HXl.out⟩ .nil
      have HG0 := Lib.hid (show ∀ v' w', w'.ownsRow (w.heap.size + 1) 35 8 v' 1 (xcell (h, A, l.length, cap)) → ((w.alloc (xbox h A l.length cap)).alloc (.cells (xcell (h, A, l.length, cap)).toArray 35)).grownBy w' (Value.ownBlock (.slice none 0 0)) → Yown n₀ (w.alloc (xbox h A l.length cap)).heap.size (w.alloc (xbox h A l.length cap)) w' v' O from fun v' w' ho hg => by
        rw [hO]
        exact hY0.grow (by rw [hsz0]; omega) (q := []) ⟨.nil, World.ownsRow_nil _ _ _ _⟩ hqe (by simp) (by rw [hsz0]; simpa [xcells] using ho) hg)
      clear hk hY0 hqe hO
      go_enter Tryz.func38, Tryz.ntmps38
      go_wp2_with (at_builtin; refine wpList_append_own _ rfl _ _ 33 rfl (w.alloc (xbox h A l.length cap)).heap.size 35 i0 _ 8 104 Tryz.underlying33 hi hz0 hz1 hz2 rfl (by decide) _ _ _ rfl (World.ownsRow_nil _ _ _ _) ⟨w.heap.size + 1, 0, none⟩ 1 1 (xcell (h, A, l.length, cap)) rfl rfl (by rw [← hsz0]; exact xnews _ _ _) (xcell_one _) ?c3 ?c4 ?c5 ?_)
      case c3 => unfold maxLen; omega
      case c4 => omega
      case c5 => simp
      intro v' w' hown hgrow _
      have HYO := Lib.hid (HG0.out _ _ hown hgrow)
      clear hown hgrow HG0
    case' neg =>
      have hkb : (h.k == c) = false := by simpa using hk
      have HD := Lib.hid (show kndX c (.mk h l) = [] ++ kndXs c l by rw [kndX, if_neg hk])
      obtain ⟨O, hO⟩ : ∃ O, O = ([] : List Ex) := ⟨_, rfl⟩
      rw [← hO] at HD
      have HOl := Lib.hid (show O.length ≤ 1 by rw [hO]; simp)
      have HYO := Lib.hid (show Yown n₀ (w.alloc (xbox h A l.length cap)).heap.size (w.alloc (xbox h A l.length cap)) (w.alloc (xbox h A l.length cap)) (.slice none 0 0) O by rw [hO]; exact Yown.start n₀ _)
      clear hk hO
      go_enter Tryz.func38, Tryz.ntmps38
      go_upto_region 4 with fail
    all_goals
      clear hkb x0 x1 x2 x3 x4 x5 x6 x7
      have hll : l.length ≤ 1000000 := by omega
      have hcl : cntL l ≤ 1000000 := by omega
      obtain ⟨W0, hW0⟩ : ∃ W0, w.alloc (xbox h A l.length cap) = W0 := ⟨_, rfl⟩
      rw [hW0] at HX0 HBa HXl hsz0 HYO
      try rw [hW0]
      have HS0 := Lib.hid hsz0
      clear hW0 hsz0
      go_wp2_with fail
      go_loopw [6, 5] (fun i v W => ∃ k : Nat, k ≤ l.length ∧ i = .int .i64 k ∧ Hid (Yown n₀ W0.heap.size W0 W v (O ++ kndXs c (l.take k)))) (fun i _ _ => l.length - (intOf i).toNat)
      case atStart => exact ⟨0, Nat.zero_le _, rfl, Lib.hid (by rw [List.take_zero, kndXs, List.append_nil]; exact HYO.out)⟩
      case round =>
        clear HYO
        obtain ⟨k, hk, rfl, HW⟩ := hrel
        have hz1 := (HW.out.bel.block w.heap.size (by have := HS0.out; omega)).trans HX0.out
        obtain ⟨⟨p0, p1, p2, p3, p4, p5, p6, p7⟩, _⟩ := cell8 hz1
        have hbw : Below w.heap.size w wr := HBa.out.trans (HW.out.bel.mono HBa.out.size)
        have hb0 : Below n₀ W0 wr := HW.out.bel.mono (by have := HS0.out; omega)
        clear hz1
        obtain ⟨n, hn1⟩ : ∃ n, (O ++ kndXs c (l.take k)).length = n := ⟨_, rfl⟩
        have hn6 : n ≤ 1000001 := by
          have h1 := HOl.out
          have h2 := knds_len c (l.take k)
          have h3 := cntL_take_le l k
          rw [← hn1, List.length_append]; omega
        obtain ⟨AS, capS, hv⟩ := HW.out.slice
        rw [hn1] at hv
        subst hv
        by_cases hkn : k < l.length
        · obtain ⟨x, hx⟩ : ∃ x, l[k]? = some x := ⟨_, List.getElem?_eq_getElem hkn⟩
          obtain ⟨h', l'⟩ := x
          have HT := Lib.hid (show O ++ kndXs c (l.take (k + 1)) = (O ++ kndXs c (l.take k)) ++ kndX c (.mk h' l') by rw [kndXs_take c hx, List.append_assoc])
          have hc' := cntL_mem hx
          obtain ⟨g, off, A', cap', rfl, hg, hX, hle', hl'⟩ := HXl.out.at hx
          obtain ⟨c0, c1, c2, c3, c4, c5, c6, c7⟩ := hX.of (hb0.block g hg)
          have HC := Lib.hid (HI.out h' l' (by omega) wr A' cap' (XsAt.kept hb0 hl') hle' (by have := hbw.size; omega))
          have hkl := knd_len c (.mk h' l')
          clear hX hl' hx hg hbw hb0
          go_wp2_with fail
          refine HC.out.mono ?_
          rintro e w3 ⟨v3, rfl, hY3⟩
          have hb3 := hY3.bel
          have H3 := HW.out.below hb3 (by have := HS0.out; omega)
          obtain ⟨q, hq⟩ := H3.row
          have hq2 := hq.2
          rw [hn1] at hq2
          rcases hY3.rows with ⟨hnil, rfl⟩ | ⟨g3, cap3, q3, rfl, hle3, hg3, _, hq3, hc3⟩
          · have HG := Lib.hid (show Yown n₀ W0.heap.size W0 w3 (.slice AS n capS) (O ++ kndXs c (l.take (k + 1))) by rw [HT.out, hnil, List.append_nil]; exact H3)
            clear H3 hq hY3 hb3 hnil c0 c1 c2 c3 c4 c5 c6 c7
            go_wp2_with (at_builtin; refine wpList_append_own_none rfl _ _ 33 rfl W0.heap.size 35 i0 8 Tryz.underlying33 hi _ _ _ rfl hq2 rfl ?_)
            go_wp2_with fail
            go_roundw
            case rel => first | exact ⟨k + 1, by omega, by go_num, HG⟩ | ((repeat apply Exists.intro); exact ⟨⟨k + 1, by omega, by go_num, HG⟩, rfl⟩)
            case measure => simp [intOf]; omega
          · obtain ⟨m, hm⟩ : ∃ m, (kndX c (.mk h' l')).length = m := ⟨_, rfl⟩
            have hql := hq3.len
            rw [hm] at hle3 hkl hql ⊢
            have hm0 : kndX c (.mk h' l') ≠ [] ∨ m = 0 := by
              rcases Nat.eq_zero_or_pos m with h | h
              · exact .inr h
              · exact .inl (fun e => by rw [e] at hm; simp at hm; omega)
            have HH3 := Lib.hid (show m ≠ 0 → ∀ v' w', w'.ownsRow W0.heap.size 35 8 v' (n + m) (xcells q ++ xcells q3) → w3.grownBy w' (Value.ownBlock (.slice AS n capS)) → Yown n₀ W0.heap.size W0 w' v' (O ++ kndXs c (l.take (k + 1))) from fun hm1 v' w' ho hg => by
              rw [HT.out]
              exact H3.grow (by have := HS0.out; omega) hq hq3 (hm0.resolve_right hm1) (by rw [hn1, hm]; exact ho) hg)
            have HM := Lib.hid (show m ≠ 0 by
              intro e0
              have hnil : kndX c (.mk h' l') = [] := List.eq_nil_of_length_eq_zero (by rw [hm]; exact e0)
              have h1 := hY3.nil hnil
              simp at h1)
            have hnews := Lib.hid hc3
            have HLE := Lib.hid H3.le
            have hn7 : cnt (.mk h' l') ≤ 1000000 := by omega
            clear H3 hq hY3 hb3 hq3 hm0 hc3 c0 c1 c2 c3 c4 c5 c6 c7
            go_wp2_with (at_builtin; refine wpList_append_own _ rfl _ _ 33 rfl W0.heap.size 35 i0 _ 8 104 Tryz.underlying33 hi hz0 hz1 hz2 rfl (by decide) _ _ _ rfl hq2 ⟨g3, 0, none⟩ m cap3 (xcells q3) rfl (by rw [xcells_len, hql]) hnews.out (xcells_one _) ?c3 ?c4 ?c5 ?_)
            case c3 => unfold maxLen; omega
            case c4 => omega
            case c5 => exact HLE.out
            intro v' w4 hown' hg4 _
            have HG := Lib.hid (HH3.out HM.out _ _ hown' hg4)
            clear hown' hg4
            go_wp2_with fail
            go_roundw
            case rel => first | exact ⟨k + 1, by omega, by go_num, HG⟩ | ((repeat apply Exists.intro); exact ⟨⟨k + 1, by omega, by go_num, HG⟩, rfl⟩)
            case measure => simp [intOf]; omega
        · obtain rfl : k = l.length := by omega
          have HY := Lib.hid (show Yown n₀ w.heap.size w wr (.slice AS n capS) (kndX c (.mk h l)) by
            rw [HD.out]
            have := HW.out
            rw [List.take_length] at this
            exact this.weak HBa.out (by have := HS0.out; omega))
          clear hn1 hbw hb0
          go_wp2_with fail
          go_ret
          exact ⟨_, rfl, HY.out⟩
end Go.Proofs.YtofhaokaldpmaaaGreatDoor
end
section
namespace Go.Proofs.YtofhaokaldpmaaaGreatDoor
section
open Go.RowKit Go.Shelf
attribute [local go_sem] Oper.semAt_some

def andX (a b : Ex) : Ex := .mk (hdO 2) [a, b]
def accX (x : Ex) (r : List Ex) (j : Nat) : Ex := (r.take j).foldl andX x
def allX : List Ex → Ex
  | [] => .mk (hdL 1 1 ⟨#[]⟩) []
  | x :: r => r.foldl andX x
theorem accX_next {x : Ex} {r : List Ex} {j : Nat} {y : Ex} (h : r[j]? = some y) : accX x r (j + 1) = andX (accX x r j) y := by
  unfold accX
  rw [List.take_add_one, h, Option.toList_some, List.foldl_append]
  rfl
theorem accX_all (x : Ex) (r : List Ex) : accX x r r.length = allX (x :: r) := by
  unfold accX
  rw [List.take_length]
  rfl
/-- An expression that is told, in whatever memory. -/
def EBack (w : World) (x : Ex) (e : Ending) (w' : World) : Prop :=
  ∃ A cap, e = .returned (XV x.hd A x.kids.length cap) ∧ x.kids.length ≤ cap ∧ XsAt w'.heap.size w' x.kids A ∧ Below w.heap.size w w'
/-- Where the parts of what is put together lie: in blocks of the call's own, none of its two boxes. -/
abbrev Apt (n u2 u3 : Nat) (W : World) (k : Nat) : Prop := n ≤ k ∧ k < W.heap.size ∧ k ≠ u2 ∧ k ≠ u3
theorem Apt.next {n u2 u3 : Nat} {W W' : World} {l : List Ex} {A : Option Addr} (hb : Bel W W') (h : XsB (Apt n u2 u3 W) W l A) : XsB (Apt n u2 u3 W') W' l A :=
  XsB.go (fun k hk => hb.block k hk.2.1) (fun _ hk => ⟨hk.1, Nat.lt_of_lt_of_le hk.2.1 hb.size, hk.2.2⟩) _ _ h
def AV (n u2 u3 : Nat) (l : List Ex) (len : Nat) (v : Value) (w : World) : Prop := ∃ A cap, v = .slice A len cap ∧ len ≤ cap ∧ XsB (Apt n u2 u3 w) w l A
def AE (n u2 u3 : Nat) (h : Hd) (l : List Ex) (len : Nat) (v : Value) (w : World) : Prop := ∃ A cap, v = XV h A len cap ∧ len ≤ cap ∧ XsB (Apt n u2 u3 w) w l A
theorem AV.keeps (n u2 u3 : Nat) (l : List Ex) (len : Nat) : Keeps Bel (AV n u2 u3 l len) := fun _ _ _ hb ⟨A, cap, e, hl, hx⟩ => ⟨A, cap, e, hl, Apt.next hb hx⟩
theorem AE.keeps (n u2 u3 : Nat) (h : Hd) (l : List Ex) (len : Nat) : Keeps Bel (AE n u2 u3 h l len) := fun _ _ _ hb ⟨A, cap, e, hl, hx⟩ => ⟨A, cap, e, hl, Apt.next hb hx⟩
theorem pair_at {n u2 u3 : Nat} {w : World} {a : Ex} {h' : Hd} {l' : List Ex} {A A3 : Option Addr} {cap cap3 : Nat} (hn : n ≤ w.heap.size) (h2 : u2 < w.heap.size) (h3 : u3 < w.heap.size) (hl : a.kids.length ≤ cap) (hl3 : l'.length ≤ cap3)
    (hA : XsB (Apt n u2 u3 w) w a.kids A) (hA3 : XsB (Apt n u2 u3 w) w l' A3) :
    AV n u2 u3 [a, .mk h' l'] 2 (.slice (some ⟨w.heap.size, 0, none⟩) 2 2) (w.alloc (.cells (xcell (a.hd, A, a.kids.length, cap) ++ xcell (h', A3, l'.length, cap3)).toArray 35)) := by
  have hb := ba w (.cells (xcell (a.hd, A, a.kids.length, cap) ++ xcell (h', A3, l'.length, cap3)).toArray 35)
  have hzb := (MapKept.heap_alloc w (.cells (xcell (a.hd, A, a.kids.length, cap) ++ xcell (h', A3, l'.length, cap3)).toArray 35)).1
  refine ⟨_, _, rfl, Nat.le_refl _, ?_⟩
  refine XRs.xsB (q := [(a.hd, A, a.kids.length, cap), (h', A3, l'.length, cap3)]) ⟨hn, by rw [World.size_alloc]; omega, by omega, by omega⟩ (.cons ⟨rfl, rfl, hl, Apt.next hb hA⟩ (.cons ⟨rfl, rfl, hl3, Apt.next hb hA3⟩ .nil)) fun j u hj => ?_
  rw [Nat.zero_add]
  simp only [World.cell?, hzb, List.getElem?_toArray]
  simpa [xcells] using hj
theorem run_mkO {o : Oper} {a : Act} {w : World} {x : Operand} (ho : o.op = .build 35 #[(0, .const (.int .i64 3)), (1, .const (.int .i64 2)), (5, x)]) {A : Option Addr} {n c : Nat} (hx : a.eval x = .slice A n c) :
    (execOp a.eval o).run Tryz.prog w = .ok (.value (XV (hdO 2) A n c)) w := by
  have h : (Instr.build 35 #[(0, .int .i64 3), (1, .int .i64 2), (5, .slice A n c)]).run Tryz.prog w = .ok (XV (hdO 2) A n c) w := by
    go_simp
  have e1 : a.eval (.const (.int .i64 3)) = .int .i64 3 := rfl
  have e2 : a.eval (.const (.int .i64 2)) = .int .i64 2 := rfl
  unfold execOp
  simp only [ho, List.map_toArray, List.map_cons, List.map_nil, hx, e1, e2]
  rw [Sem.run_bind, h]
  rfl
/-- What holds from round to round. -/
def RdAll (w : World) (u2 u3 : Nat) (x : Ex) (wr : World) : Prop :=
  ∃ A4 cap4, x.kids.length ≤ cap4 ∧ wr.heap[u3]? = some (xbox x.hd A4 x.kids.length cap4) ∧ XsB (Apt u2 u2 u3 wr) wr x.kids A4 ∧ wr.heap[u2]? = some x0 ∧ Below w.heap.size w wr
theorem round_end {w We w1 : World} {u2 u3 : Nat} {x : Ex} {h' : Hd} {l' : List Ex} {z : Option Addr} {c4 len3 cap3 : Nat} {h3 : Hd} {A3 : Option Addr} (H : w.heap.size = u2 ∧ u2 < u3 ∧ u3 < We.heap.size ∧ We.heap[u2]? = some x0 ∧ Below w.heap.size w We) (hB : Below We.drew.heap.size We.drew w1)
    (hU : w1.heap[u3]? = some (xbox h3 A3 len3 cap3)) (hl : 2 ≤ c4) (hx : XsB (Apt u2 u2 u3 w1) w1 [x, .mk h' l'] z) : Hid (RdAll w u2 u3 (andX x (.mk h' l')) (put8 w1 u3 0 (hdO 2, z, 2, c4))) := by
  obtain ⟨h1, h2, h4, h5, h6⟩ := H
  have hbe : (put8 w1 u3 0 (hdO 2, z, 2, c4)).heap[u3]? = some (xbox (hdO 2) z 2 c4) := by
    rw [put8_box (o := 0) hU (hdO 2, z, 2, c4)]
    simp
  have hb2 : (put8 w1 u3 0 (hdO 2, z, 2, c4)).heap[u2]? = some x0 := (put8_other (by omega) _).trans ((hB.block u2 (show u2 < We.heap.size by omega)).trans h5)
  have hxk : XsB (Apt u2 u2 u3 (put8 w1 u3 0 (hdO 2, z, 2, c4))) (put8 w1 u3 0 (hdO 2, z, 2, c4)) [x, .mk h' l'] z :=
    XsB.go (fun k hk => put8_other (by have := hk.2.2.2; omega) _) (fun k hk => ⟨hk.1, by rw [put8_size]; exact hk.2.1, hk.2.2⟩) _ _ hx
  have hs : We.heap.size ≤ w1.heap.size := hB.size
  refine Lib.hid ⟨z, c4, hl, hbe, hxk, hb2, ?_⟩
  have h7 : Below w.heap.size w w1 := bt h6 (bt (Below.drew (Below.refl _ _)) hB)
  exact ⟨(put8_os ..).trans h7.os, (put8_tape ..).trans h7.tape, (put8_output ..).trans h7.output, by rw [put8_size]; exact h7.size, fun k hk => (put8_other (by omega) _).trans (h7.block k hk)⟩
end
section
open Go.RowKit Go.Shelf
attribute [local go_sem] Oper.semAt_some

abbrev eA : Ex := .mk (hdC ⟨#[]⟩ ⟨#[97]⟩) []
abbrev eOne : Ex := .mk (hdL 2 1 ⟨#[]⟩) []
abbrev eB : Ex := .mk (hdC ⟨#[116]⟩ ⟨#[98]⟩) []
abbrev eAdd : Ex := .mk (hdO 10) [eA, eOne]
abbrev eLt : Ex := .mk (hdO 6) [eAdd, eB]
abbrev eNull : Ex := .mk (hdO 16) [eA]
abbrev eAnd : Ex := .mk (hdO 2) [eLt, eNull]
abbrev eRows : Ex := .mk (hdA 1) []
abbrev eSum : Ex := .mk (hdA 3) [eA]
abbrev eZero : Ex := .mk ⟨0, 0, 0, 0, ⟨#[]⟩, ⟨#[]⟩, ⟨#[]⟩⟩ []
abbrev eTrue : Ex := .mk (hdL 1 1 ⟨#[]⟩) []
theorem sm_all : AllSm eAnd ∧ AllSm eRows ∧ AllSm eSum ∧ AllSm eZero ∧ AllSm eTrue := by
  simp only [AllSm, AllSmL, and_true]
  refine ⟨⟨?_, ⟨?_, ⟨?_, ?_, ?_⟩, ?_⟩, ?_, ?_⟩, ?_, ⟨?_, ?_⟩, ?_, ?_⟩ <;> exact ⟨by decide, by decide, by decide⟩
theorem ok_and : okX eAnd = true := by kernel_rfl
theorem ok_sum : okX eSum = true := by kernel_rfl
theorem cnt_and : cnt eAnd = 8 := by kernel_rfl
theorem chk_and : chkI eAnd = 0 := by kernel_rfl
theorem siz_and : sizI eAnd = 8 := by kernel_rfl
theorem dep_and : depI eAnd = 4 := by kernel_rfl
theorem safe_and : safeB eAnd = false := by kernel_rfl
abbrev txtAnd : List UInt8 := [40, 40, 40, 97, 32, 43, 32, 49, 41, 32, 60, 32, 116, 46, 98, 41, 32, 65, 78, 68, 32, 40, 97, 32, 73, 83, 32, 78, 85, 76, 76, 41, 41]
theorem sho_and : shoX eAnd = txtAnd := by kernel_rfl
theorem sho_rows : shoX eRows = [67, 79, 85, 78, 84, 40, 42, 41] := by kernel_rfl
theorem sho_true : shoX eTrue = [84, 82, 85, 69] := by kernel_rfl
theorem chk_zero : chkI eZero = 100 := by kernel_rfl
theorem len_cols : (if okX eAnd = true then kndX 2 eAnd else []).length = 3 := by kernel_rfl
theorem len_aggs : (if okX eSum = true then kndX 4 eSum else []).length = 1 := by kernel_rfl
theorem prt_and : (if okX eAnd = true then prtX eAnd else []) = [eLt, eNull] := by kernel_rfl
theorem all_prt : allX [eLt, eNull] = eAnd := by rfl
theorem same_and : sameX eAnd eAnd = true := by kernel_rfl
mutual
def nzX : Ex → Bool
  | .mk h l => h.k != 0 && nzXs l
def nzXs : List Ex → Bool
  | [] => true
  | x :: r => nzX x && nzXs r
end
theorem XsB.off {B : Nat → Prop} {w : World} {u : Nat} (hu : w.heap[u]? = some x0) : ∀ (l : List Ex) (A : Option Addr), nzXs l = true → XsB B w l A → XsB (fun k => B k ∧ k ≠ u) w l A
  | [], _, _, _ => by rw [XsB]; trivial
  | .mk h l :: r, A, hz, H => by
    rw [nzXs, nzX] at hz
    simp only [Bool.and_eq_true, bne_iff_ne] at hz
    rw [XsB] at H ⊢
    obtain ⟨g, o, e, hg, ⟨A', cap, hc, hl, h1⟩, h2⟩ := H
    refine ⟨g, o, e, ⟨hg, fun e2 => ?_⟩, ⟨A', cap, hc, hl, XsB.off hu l A' hz.1.2 h1⟩, XsB.off hu r _ hz.2 h2⟩
    subst e2
    have h0 := hc.c0
    have h7 := hc.c7
    simp only [World.cell?, hu] at h0 h7
    have ho : o = 0 := by
      rcases Nat.eq_zero_or_pos o with h | h
      · exact h
      · rw [Array.getElem?_eq_none (by simp; omega)] at h7; cases h7
    subst ho
    simp at h0
    exact hz.1.1 h0.symm
theorem put8_bel {w w1 : World} {u o : Nat} {x : XQ} (h : Below w.heap.size w w1) (hu : w.heap.size ≤ u) : Below w.heap.size w (put8 w1 u o x) :=
  ⟨(put8_os ..).trans h.os, (put8_tape ..).trans h.tape, (put8_output ..).trans h.output, by rw [put8_size]; exact h.size, fun k hk => (put8_other (by omega) _).trans (h.block k hk)⟩
end
end Go.Proofs.YtofhaokaldpmaaaGreatDoor
end
section
namespace Go.Proofs.YtofhaokaldpmaaaGreatDoor
section
open Go.RowKit Go.Shelf

/-- A name, byte by byte. -/
def nameL (l : Lx.B) : Bool := decide (1 ≤ l.length) && decide (l.length ≤ 24) && !((l.head?.map Lx.digit).getD false) && !Lx.key l && l.all Lx.wordy
theorem take_all (l : Lx.B) : (l.takeWhile Lx.wordy).length = l.length ↔ l.all Lx.wordy = true := by
  induction l with
  | nil => simp
  | cons c l ih =>
    cases hc : Lx.wordy c with
    | true => simp [hc, ih]
    | false => simp [hc]
theorem take_eq {l : Lx.B} (h : l.all Lx.wordy = true) : l.takeWhile Lx.wordy = l := by
  have := Lx.takeWhile_take Lx.wordy l
  rw [(take_all l).2 h, List.take_length] at this
  exact this.symm
theorem isName_eq (s : ByteArray) : isName s = nameL (bs s) := by
  have hl : (bs s).length = s.size := by simp
  unfold isName
  cases hb : bs s with
  | nil => simp [Lx.cut, nameL]
  | cons c r =>
    rw [hb] at hl
    rw [Lx.cut]
    by_cases h1 : Lx.letter c = true
    · have hd : Lx.digit c = false := by
        cases h : Lx.digit c with
        | false => rfl
        | true => rw [Lx.digit_letter h] at h1; cases h1
      rw [if_pos h1, Lx.cutWord]
      cases ha : (c :: r).all Lx.wordy with
      | true =>
        rw [take_eq ha]
        unfold nameL
        rw [ha]
        by_cases h24 : 24 < (c :: r).length
        · rw [if_pos h24]
          have : decide ((c :: r).length ≤ 24) = false := decide_eq_false (by omega)
          rw [this, Bool.and_false]; rfl
        · rw [if_neg h24]
          have h25 : decide ((c :: r).length ≤ 24) = true := decide_eq_true (by omega)
          have h26 : decide (1 ≤ (c :: r).length) = true := by simp
          rw [h25, h26]
          cases hk : Lx.key (c :: r) with
          | true => simp
          | false => simp [hd, ← hl]
      | false =>
        have hne : ¬ ((c :: r).takeWhile Lx.wordy).length = s.size := fun e => by
          have := (take_all (c :: r)).1 (by rw [e, hl])
          rw [ha] at this; cases this
        unfold nameL
        rw [ha, Bool.and_false]
        split
        · rename_i t z e
          split at e
          · cases e
          · simp only [Option.some.injEq, Prod.mk.injEq] at e
            rw [← e.2]
            simp only [hne, decide_false, Bool.and_false]
        · rfl
    · rw [if_neg h1]
      by_cases h2 : Lx.digit c = true
      · rw [if_pos h2, Lx.cutNum]
        have : nameL (c :: r) = false := by simp [nameL, h2]
        rw [this]
        split
        · rename_i t z e
          split at e
          · cases e
          · split at e
            · cases e
            · simp only [Option.some.injEq, Prod.mk.injEq] at e
              rw [← e.1]; rfl
        · rfl
      · rw [if_neg h2]
        have hw : Lx.wordy c = false := by simp [Lx.wordy, h1, h2]
        have : nameL (c :: r) = false := by simp [nameL, hw]
        rw [this]
        split
        · rename_i t z e
          split at e
          · rw [Lx.cutText] at e
            simp only [Option.map_eq_some_iff] at e
            obtain ⟨_, _, e⟩ := e
            simp only [Prod.mk.injEq] at e
            rw [← e.1]; rfl
          · rw [Lx.cutSign] at e
            simp only [Option.map_eq_some_iff] at e
            obtain ⟨_, _, e⟩ := e
            simp only [Prod.mk.injEq] at e
            rw [← e.1]; rfl
        · rfl
theorem refLetter_any (c : UInt8) (w : World) :
    Calls Tryz.prog 108 #[.int .u8 c.toNat] w fun e w' => e = .returned (.bool (Lx.letter c)) ∧ w' = w := by
  have hc : ∀ n : Nat, (c = UInt8.ofNat n) → n < 256 → (c.toNat = n) := by rintro n rfl h; simp; omega
  have hl : Lx.letter c = decide (c.toNat = 95 ∨ (97 ≤ c.toNat ∧ c.toNat ≤ 122) ∨ (65 ≤ c.toNat ∧ c.toNat ≤ 90)) := by
    unfold Lx.letter
    congr 1
    rw [← UInt8.toNat_inj]; rfl
  rw [hl]
  generalize c.toNat = m
  clear hc hl
  go_enter Tryz.func108, Tryz.ntmps108
  go_wp2
  all_goals
    go_ret
    exact ⟨ret_bool (by first | rfl | (rw [Bool.eq_iff_iff]; simp; done) | (rw [Bool.eq_iff_iff]; simp; omega)), rfl⟩
theorem refDigit_any (c : UInt8) (w : World) :
    Calls Tryz.prog 106 #[.int .u8 c.toNat] w fun e w' => e = .returned (.bool (Lx.digit c)) ∧ w' = w := by
  unfold Lx.digit
  generalize c.toNat = m
  go_enter Tryz.func106, Tryz.ntmps106
  go_wp2
  all_goals
    go_ret
    exact ⟨ret_bool (by first | rfl | (rw [Bool.eq_iff_iff]; simp; done) | (rw [Bool.eq_iff_iff]; simp; omega)), rfl⟩
/-- The words, as the document's Keys lays them. -/
def keyCells : Array Value := (Lx.keys.map fun b => Value.string ⟨b.toArray⟩).toArray
theorem refKeys_any (w : World) :
    Calls Tryz.prog 113 #[] w fun e w' => e = .returned (.slice (some ⟨w.heap.size, 0, none⟩) 28 28) ∧ w' = w.alloc (.cells keyCells 9) := by
  go_enter Tryz.func113, Tryz.ntmps113
  go_wp2
  go_ret
  exact ⟨rfl, congrArg (fun c => w.alloc (.cells c 9)) (by kernel_rfl)⟩
theorem keyCells_at (w : World) {j : Nat} {b : Lx.B} (h : Lx.keys[j]? = some b) : (w.alloc (.cells keyCells 9)).cell? ⟨w.heap.size, j, none⟩ = some (.string ⟨b.toArray⟩) := by
  have hn := (MapKept.heap_alloc w (.cells keyCells 9)).1
  unfold World.cell?
  rw [hn]
  simp [keyCells, h]
set_option maxHeartbeats 1000000 in
theorem refKey_any (s : ByteArray) (w : World) :
    Calls Tryz.prog 107 #[.string s] w fun e w' => e = .returned (.bool (Lx.key (bs s))) ∧ Below w.heap.size w w' := by
  go_enter Tryz.func107, Tryz.ntmps107
  go_wp2_with fail
  refine (refKeys_any _).mono ?_
  rintro e w1 ⟨rfl, hw1⟩
  have HK := Lib.hid (fun j b (h : Lx.keys[j]? = some b) => (by rw [hw1]; exact keyCells_at w h : w1.cell? ⟨w.heap.size, j, none⟩ = some (.string ⟨b.toArray⟩)))
  have HB := Lib.hid (by rw [hw1]; exact ba w _ : Below w.heap.size w w1)
  have hsz : w1.heap.size = w.heap.size + 1 := by rw [hw1, World.size_alloc]
  clear hw1
  go_wp2_with fail
  go_loop [4] (fun i => ∃ k : Nat, k ≤ 28 ∧ i = .int .i64 k ∧ Hid (∀ j b, j < k → Lx.keys[j]? = some b → b ≠ bs s)) (fun i => 28 - (intOf i).toNat)
  case atStart => exact ⟨0, Nat.zero_le _, rfl, Lib.hid (fun j c h => absurd h (by omega))⟩
  case round =>
    obtain ⟨k, hk, rfl, HA⟩ := hrel
    by_cases hlt : k < 28
    · obtain ⟨b, hb⟩ : ∃ b, Lx.keys[k]? = some b := ⟨_, List.getElem?_eq_getElem (by rw [keys_len]; exact hlt)⟩
      have hc := HK.out k b hb
      have HBb := Lib.hid hb
      have hq : ((⟨b.toArray⟩ : ByteArray).toList == s.toList) = (b == bs s) := tl_bs _ _
      clear hb
      generalize (⟨b.toArray⟩ : ByteArray) = kb at hc hq
      cases he : b == bs s
      · rw [he] at hq
        go_wp2_with fail
        go_round
        case rel =>
          refine ⟨k + 1, by omega, by go_num, Lib.hid (fun j x hj hx => ?_)⟩
          rcases Nat.lt_or_ge j k with h | h
          · exact HA.out j x h hx
          · obtain rfl : j = k := by omega
            rw [HBb.out] at hx; obtain rfl := Option.some.inj hx; simpa using he
        case measure => simp [intOf]; omega
      · rw [he] at hq
        go_wp2_with fail
        go_ret
        refine ⟨ret_b ?_, HB.out⟩
        obtain rfl : b = bs s := by simpa using he
        symm; rw [Lx.key, List.contains_iff_mem]
        exact List.mem_of_getElem? HBb.out
    · go_wp2_with fail
      go_ret
      refine ⟨ret_b ?_, HB.out⟩
      symm; rw [Lx.key, Bool.eq_false_iff]
      intro h
      rw [List.contains_iff_mem] at h
      obtain ⟨j, hj⟩ := List.getElem?_of_mem h
      have : j < 28 := by have := (List.getElem?_eq_some_iff.1 hj).1; rw [keys_len] at this; exact this
      exact HA.out j _ (by omega) hj rfl
theorem all_take {l : Lx.B} {k : Nat} (h : ∀ j c, j < k → l[j]? = some c → Lx.wordy c = true) (hk : l.length ≤ k) : l.all Lx.wordy = true := by
  rw [List.all_eq_true]
  intro c hc
  obtain ⟨j, hj⟩ := List.getElem?_of_mem hc
  exact h j c (by have := (List.getElem?_eq_some_iff.1 hj).1; omega) hj
set_option maxHeartbeats 2000000 in
theorem refName_any (s : ByteArray) (w : World) (hs : s.size ≤ 9223372036854775807) :
    Calls Tryz.prog 88 #[.string s] w fun e w' => e = .returned (.bool (isName s)) ∧ Below w.heap.size w w' := by
  rw [isName_eq]
  have hL : (bs s).length = s.size := bs_len s
  by_cases z1 : s.size < 1
  · have y1 : (s.size : Int) < 1 := by omega
    have HN := Lib.hid (show nameL (bs s) = false by unfold nameL; rw [decide_eq_false (by omega)]; simp)
    go_enter Tryz.func88, Tryz.ntmps88
    go_wp2_with fail
    go_ret
    exact ⟨ret_b HN.out.symm, Below.refl _ _⟩
  · have y1 : ¬ (s.size : Int) < 1 := by omega
    by_cases z2 : 24 < s.size
    · have y2 : (24 : Int) < (s.size : Int) := by omega
      have HN := Lib.hid (show nameL (bs s) = false by unfold nameL; rw [decide_eq_false (p := (bs s).length ≤ 24) (by omega)]; simp)
      go_enter Tryz.func88, Tryz.ntmps88
      go_wp2_with fail
      go_ret
      exact ⟨ret_b HN.out.symm, Below.refl _ _⟩
    · have y2 : ¬ (24 : Int) < (s.size : Int) := by omega
      have h0 := bs_get s 0 (by omega)
      have hh : (bs s).head? = some s[0] := by rw [← List.head?_eq_getElem?] at h0; exact h0
      have HN := Lib.hid (show nameL (bs s) = (!Lx.digit s[0] && !Lx.key (bs s) && (bs s).all Lx.wordy) by
        unfold nameL; rw [decide_eq_true (by omega), decide_eq_true (by omega), hh]; simp)
      have z3 : 0 < s.size := by omega
      obtain ⟨c0, hc0⟩ : ∃ c, s[0] = c := ⟨_, rfl⟩
      have HD := Lib.hid (fun w1 => refDigit_any s[0] w1)
      obtain ⟨bd, hbd⟩ : ∃ b, Lx.digit s[0] = b := ⟨_, rfl⟩
      rw [hbd] at HN HD
      clear hbd h0 hh hc0
      cases bd
      · obtain ⟨bk, hbk⟩ : ∃ b, Lx.key (bs s) = b := ⟨_, rfl⟩
        have HK := Lib.hid (refKey_any s w)
        rw [hbk] at HN HK
        clear hbk
        cases bk
        · go_enter Tryz.func88, Tryz.ntmps88
          go_wp2_with fail
          refine (HD.out _).mono ?_
          rintro e w1 ⟨rfl, rfl⟩
          go_wp2_with fail
          refine HK.out.mono ?_
          rintro e w1 ⟨rfl, hb1⟩
          have HB1 := Lib.hid hb1
          clear hb1
          go_wp2_with fail
          go_loop [3] (fun i => ∃ k : Nat, k ≤ s.size ∧ i = .int .i64 k ∧ Hid (∀ j c, j < k → (bs s)[j]? = some c → Lx.wordy c = true)) (fun i => s.size - (intOf i).toNat)
          case atStart => exact ⟨0, Nat.zero_le _, rfl, Lib.hid (fun j c h => absurd h (by omega))⟩
          case round =>
            obtain ⟨k, hk, rfl, HA⟩ := hrel
            by_cases hlt : k < s.size
            · have HG := Lib.hid (bs_get s k hlt)
              have HNo := Lib.hid (show Lx.wordy s[k] = false → nameL (bs s) = false from fun e => by
                rw [HN.out]
                have : (bs s).all Lx.wordy = false := by
                  rw [← Bool.not_eq_true, List.all_eq_true]
                  intro h
                  have := h s[k] (List.mem_of_getElem? (bs_get s k hlt))
                  rw [e] at this; cases this
                rw [this]; simp)
              have HL := Lib.hid (fun w1 => refLetter_any s[k] w1)
              have HD2 := Lib.hid (fun w1 => refDigit_any s[k] w1)
              have HW := Lib.hid (show Lx.wordy s[k] = (Lx.letter s[k] || Lx.digit s[k]) from rfl)
              obtain ⟨bl, hbl⟩ : ∃ b, Lx.letter s[k] = b := ⟨_, rfl⟩
              obtain ⟨b2, hb2⟩ : ∃ b, Lx.digit s[k] = b := ⟨_, rfl⟩
              rw [hbl] at HL
              rw [hb2] at HD2
              rw [hbl, hb2] at HW
              clear hbl hb2
              have next : (bl || b2) = true → Hid (∀ j c, j < k + 1 → (bs s)[j]? = some c → Lx.wordy c = true) := fun hw => Lib.hid (fun j c hj hc => by
                rcases Nat.lt_or_ge j k with h | h
                · exact HA.out j c h hc
                · obtain rfl : j = k := by omega
                  rw [HG.out] at hc; obtain rfl := Option.some.inj hc
                  rw [HW.out, hw])
              cases bl
              · go_wp2_with fail
                refine (HL.out _).mono ?_
                rintro e w2 ⟨rfl, rfl⟩
                go_wp2_with fail
                refine (HD2.out _).mono ?_
                rintro e w2 ⟨rfl, rfl⟩
                cases b2
                · go_wp2_with fail
                  go_ret
                  exact ⟨ret_b (HNo.out HW.out).symm, HB1.out⟩
                · go_wp2_with fail
                  go_round
                  case rel => exact ⟨k + 1, by omega, by go_num, next rfl⟩
                  case measure => simp [intOf]; omega
              · go_wp2_with fail
                refine (HL.out _).mono ?_
                rintro e w2 ⟨rfl, rfl⟩
                go_wp2_with fail
                go_round
                case rel => exact ⟨k + 1, by omega, by go_num, next rfl⟩
                case measure => simp [intOf]; omega
            · have HY := Lib.hid (show nameL (bs s) = true by rw [HN.out, all_take HA.out (by omega)]; rfl)
              go_wp2_with fail
              go_ret
              exact ⟨ret_b HY.out.symm, HB1.out⟩
        · go_enter Tryz.func88, Tryz.ntmps88
          go_wp2_with fail
          refine (HD.out _).mono ?_
          rintro e w1 ⟨rfl, rfl⟩
          go_wp2_with fail
          refine HK.out.mono ?_
          rintro e w1 ⟨rfl, hb1⟩
          go_wp2_with fail
          go_ret
          exact ⟨ret_b (by rw [HN.out]; rfl), hb1⟩
      · go_enter Tryz.func88, Tryz.ntmps88
        go_wp2_with fail
        refine (HD.out _).mono ?_
        rintro e w1 ⟨rfl, rfl⟩
        go_wp2_with fail
        go_ret
        exact ⟨ret_b (by rw [HN.out]; rfl), Below.refl _ _⟩
end
section
open Go.RowKit Go.Shelf

def oneB (h : Hd) (len : Nat) (ag : Bool) : Bool := !(h.k == 4 && ag) && fitsB h len
theorem two8 {w w1 : World} {a0 a1 a2 a3 a4 a5 a6 a7 b0 b1 b2 : Value} {T T' : TypeId} (hb : Below ((w.alloc (.cells #[a0, a1, a2, a3, a4, a5, a6, a7] T)).alloc (.cells #[b0, b1, b2] T')).heap.size ((w.alloc (.cells #[a0, a1, a2, a3, a4, a5, a6, a7] T)).alloc (.cells #[b0, b1, b2] T')) w1) :
    (w1.cell? ⟨w.heap.size, 0, none⟩ = some a0 ∧ w1.cell? ⟨w.heap.size, 1, none⟩ = some a1 ∧ w1.cell? ⟨w.heap.size, 2, none⟩ = some a2 ∧ w1.cell? ⟨w.heap.size, 3, none⟩ = some a3 ∧
    w1.cell? ⟨w.heap.size, 4, none⟩ = some a4 ∧ w1.cell? ⟨w.heap.size, 5, none⟩ = some a5 ∧ w1.cell? ⟨w.heap.size, 6, none⟩ = some a6 ∧ w1.cell? ⟨w.heap.size, 7, none⟩ = some a7) := by
  have h1 := ((hb.block w.heap.size (by rw [World.size_alloc, World.size_alloc]; omega)).trans ((ba (w.alloc (.cells #[a0, a1, a2, a3, a4, a5, a6, a7] T)) (.cells #[b0, b1, b2] T')).block w.heap.size (by rw [World.size_alloc]; omega))).trans (MapKept.heap_alloc w (.cells #[a0, a1, a2, a3, a4, a5, a6, a7] T)).1
  exact (cell8 h1).1
end
section
open Go.RowKit Go.Shelf

set_option maxRecDepth 100000 in
set_option maxHeartbeats 16000000 in
theorem one_1 (h : Hd) (A : Option Addr) (len cap : Nat) (ag : Bool) (w : World) (hs : Sm h) (hk : h.k = 1) :
    Calls Tryz.prog 66 #[XV h A len cap, .bool ag] w fun e w' => e = .returned (.bool (oneB h len ag)) ∧ Below w.heap.size w w' := by
  obtain ⟨k, n, vk, vn, vs, tab, col⟩ := h
  obtain ⟨ht, hc, hv⟩ := hs
  simp only at ht hc hv
  obtain ⟨bO, hbO⟩ : ∃ b, okV vk vn vs = b := ⟨_, rfl⟩
  obtain ⟨bK, hbK⟩ : ∃ b, isName col = b := ⟨_, rfl⟩
  obtain ⟨bJ, hbJ⟩ : ∃ b, isName tab = b := ⟨_, rfl⟩
  have HO := Lib.hid (fun w1 => refCheck_any vk vn vs w1 (by omega))
  have HC := Lib.hid (fun w1 => refName_any col w1 (by omega))
  have HTb := Lib.hid (fun w1 => refName_any tab w1 (by omega))
  rw [hbO] at HO
  rw [hbK] at HC
  rw [hbJ] at HTb
  have hq := fun w1 => run_eqV vk vn vs 0 0 ⟨#[]⟩ w1
  obtain ⟨bT, hbT⟩ : ∃ b, tab.toList.isEmpty = b := ⟨_, rfl⟩
  obtain ⟨bC, hbC⟩ : ∃ b, col.toList.isEmpty = b := ⟨_, rfl⟩
  obtain ⟨bV, hbV⟩ : ∃ b, eqV vk vn vs 0 0 ⟨#[]⟩ = b := ⟨_, rfl⟩
  rw [hbV] at hq
  have HN := Lib.hid (show namelessB ⟨k, n, vk, vn, vs, tab, col⟩ = (bT && bC) by rw [namelessB, hbT, hbC])
  have HV := Lib.hid (show valuelessB ⟨k, n, vk, vn, vs, tab, col⟩ = bV from hbV)
  have HBx := Lib.hid (ba2 w (xbox ⟨k, n, vk, vn, vs, tab, col⟩ A len cap) (.cells #[.int .i64 0, .int .i64 0, .string ⟨#[]⟩] 32))
  have HF := Lib.hid (show oneB ⟨k, n, vk, vn, vs, tab, col⟩ len ag =
      (!(k == 4 && ag) && (if k = 1 then (bO && (vk != 2 || decide (0 ≤ vn))) && n == 0 && (bT && bC) && (len : Int) == 0
      else if k = 2 then (bK && (bT || bJ)) && decide (0 ≤ n) && decide (n < 32) && bV && (len : Int) == 0
      else if k = 3 then decide (0 < arI n) && ((len : Int) == arI n) && (bT && bC) && bV
      else if k = 4 then aggB n len && (bT && bC) && bV else false)) by
    unfold oneB fitsB; rw [HN.out, HV.out]; simp only [litB, colB, hbO, hbK, hbJ, hbT])
  clear hbV hv hbO hbK hbJ HN HV ht hc
  simp only at hk
  have h1 := hk
  clear hk
  subst h1
  simp only [if_true] at HF
  cases bT <;> cases bC <;> cases bO
  all_goals
    go_enter Tryz.func66, Tryz.ntmps66
    go_wp2_with (go_at_call 87; refine (HO.out _).mono ?_; rintro e w1 ⟨rfl, hb1⟩; obtain ⟨c0, c1, c2, c3, c4, c5, c6, c7⟩ := two8 hb1; have HB1 := Lib.hid (bt (ba2 w _ _) hb1); clear hb1)
    all_goals
      go_ret
      first
        | exact ⟨ret_bool (by rw [HF.out]; simp_all <;> (intros; omega)), HB1.out⟩
        | exact ⟨ret_bool (by rw [HF.out]; simp_all <;> (intros; omega)), ba2 w _ _⟩
end
section
open Go.RowKit Go.Shelf

set_option maxRecDepth 100000 in
set_option maxHeartbeats 16000000 in
theorem one_2 (h : Hd) (A : Option Addr) (len cap : Nat) (ag : Bool) (w : World) (hs : Sm h) (hk : h.k = 2) :
    Calls Tryz.prog 66 #[XV h A len cap, .bool ag] w fun e w' => e = .returned (.bool (oneB h len ag)) ∧ Below w.heap.size w w' := by
  obtain ⟨k, n, vk, vn, vs, tab, col⟩ := h
  obtain ⟨ht, hc, hv⟩ := hs
  simp only at ht hc hv
  obtain ⟨bO, hbO⟩ : ∃ b, okV vk vn vs = b := ⟨_, rfl⟩
  obtain ⟨bK, hbK⟩ : ∃ b, isName col = b := ⟨_, rfl⟩
  obtain ⟨bJ, hbJ⟩ : ∃ b, isName tab = b := ⟨_, rfl⟩
  have HO := Lib.hid (fun w1 => refCheck_any vk vn vs w1 (by omega))
  have HC := Lib.hid (fun w1 => refName_any col w1 (by omega))
  have HTb := Lib.hid (fun w1 => refName_any tab w1 (by omega))
  rw [hbO] at HO
  rw [hbK] at HC
  rw [hbJ] at HTb
  have hq := fun w1 => run_eqV vk vn vs 0 0 ⟨#[]⟩ w1
  obtain ⟨bT, hbT⟩ : ∃ b, tab.toList.isEmpty = b := ⟨_, rfl⟩
  obtain ⟨bC, hbC⟩ : ∃ b, col.toList.isEmpty = b := ⟨_, rfl⟩
  obtain ⟨bV, hbV⟩ : ∃ b, eqV vk vn vs 0 0 ⟨#[]⟩ = b := ⟨_, rfl⟩
  rw [hbV] at hq
  have HN := Lib.hid (show namelessB ⟨k, n, vk, vn, vs, tab, col⟩ = (bT && bC) by rw [namelessB, hbT, hbC])
  have HV := Lib.hid (show valuelessB ⟨k, n, vk, vn, vs, tab, col⟩ = bV from hbV)
  have HBx := Lib.hid (ba2 w (xbox ⟨k, n, vk, vn, vs, tab, col⟩ A len cap) (.cells #[.int .i64 0, .int .i64 0, .string ⟨#[]⟩] 32))
  have HF := Lib.hid (show oneB ⟨k, n, vk, vn, vs, tab, col⟩ len ag =
      (!(k == 4 && ag) && (if k = 1 then (bO && (vk != 2 || decide (0 ≤ vn))) && n == 0 && (bT && bC) && (len : Int) == 0
      else if k = 2 then (bK && (bT || bJ)) && decide (0 ≤ n) && decide (n < 32) && bV && (len : Int) == 0
      else if k = 3 then decide (0 < arI n) && ((len : Int) == arI n) && (bT && bC) && bV
      else if k = 4 then aggB n len && (bT && bC) && bV else false)) by
    unfold oneB fitsB; rw [HN.out, HV.out]; simp only [litB, colB, hbO, hbK, hbJ, hbT])
  clear hbV hv hbO hbK hbJ HN HV ht hc
  simp only at hk
  have h2 := hk
  clear hk
  rw [if_neg (by omega)] at HF
  subst h2
  simp only [if_true] at HF
  by_cases q1 : 0 ≤ n
  · by_cases q2 : n < 32
    · cases bV
      · go_enter Tryz.func66, Tryz.ntmps66
        go_wp2_with fail
        go_ret
        exact ⟨ret_bool (by rw [HF.out]; simp_all <;> (intros; omega)), by first | exact HBx.out | exact ba2 w _ _⟩
      · by_cases q4 : (len : Int) = 0
        · have q4b : ((len : Int) == 0) = true := by simpa using q4
          cases bK
          · go_enter Tryz.func66, Tryz.ntmps66
            go_wp2_with fail
            refine (HC.out _).mono ?_
            rintro e w1 ⟨rfl, hb1⟩
            have HB1 := Lib.hid (bt (ba2 w _ _) hb1)
            obtain ⟨c0, c1, c2, c3, c4, c5, c6, c7⟩ := two8 hb1
            clear hb1
            go_wp2_with fail
            go_ret
            exact ⟨ret_bool (by rw [HF.out]; simp_all <;> (intros; omega)), HB1.out⟩
          · cases bT
            · go_enter Tryz.func66, Tryz.ntmps66
              go_wp2_with fail
              refine (HC.out _).mono ?_
              rintro e w1 ⟨rfl, hb1⟩
              have HB1 := Lib.hid (bt (ba2 w _ _) hb1)
              obtain ⟨c0, c1, c2, c3, c4, c5, c6, c7⟩ := two8 hb1
              clear hb1
              go_wp2_with fail
              refine (HTb.out _).mono ?_
              rintro e w2 ⟨rfl, hb2⟩
              have HB2 := Lib.hid (bt HB1.out hb2)
              clear hb2
              go_wp2_with fail
              go_ret
              exact ⟨ret_bool (by rw [HF.out]; simp_all <;> (intros; omega)), HB2.out⟩
            · go_enter Tryz.func66, Tryz.ntmps66
              go_wp2_with fail
              refine (HC.out _).mono ?_
              rintro e w1 ⟨rfl, hb1⟩
              have HB1 := Lib.hid (bt (ba2 w _ _) hb1)
              obtain ⟨c0, c1, c2, c3, c4, c5, c6, c7⟩ := two8 hb1
              clear hb1
              go_wp2_with fail
              go_ret
              exact ⟨ret_bool (by rw [HF.out]; simp_all <;> (intros; omega)), HB1.out⟩
        · have q4b : ((len : Int) == 0) = false := by simpa using q4
          go_enter Tryz.func66, Tryz.ntmps66
          go_wp2_with fail
          go_ret
          exact ⟨ret_bool (by rw [HF.out]; simp_all <;> (intros; omega)), by first | exact HBx.out | exact ba2 w _ _⟩
    · go_enter Tryz.func66, Tryz.ntmps66
      go_wp2_with fail
      go_ret
      exact ⟨ret_bool (by rw [HF.out]; simp_all <;> (intros; omega)), by first | exact HBx.out | exact ba2 w _ _⟩
  · go_enter Tryz.func66, Tryz.ntmps66
    go_wp2_with fail
    go_ret
    exact ⟨ret_bool (by rw [HF.out]; simp_all <;> (intros; omega)), by first | exact HBx.out | exact ba2 w _ _⟩
end
section
open Go.RowKit Go.Shelf

set_option maxRecDepth 100000 in
set_option maxHeartbeats 16000000 in
theorem one_3 (h : Hd) (A : Option Addr) (len cap : Nat) (ag : Bool) (w : World) (hs : Sm h) (hl : len ≤ 9223372036854775807) (hk : h.k = 3) :
    Calls Tryz.prog 66 #[XV h A len cap, .bool ag] w fun e w' => e = .returned (.bool (oneB h len ag)) ∧ Below w.heap.size w w' := by
  obtain ⟨k, n, vk, vn, vs, tab, col⟩ := h
  obtain ⟨ht, hc, hv⟩ := hs
  simp only at ht hc hv
  obtain ⟨bO, hbO⟩ : ∃ b, okV vk vn vs = b := ⟨_, rfl⟩
  obtain ⟨bK, hbK⟩ : ∃ b, isName col = b := ⟨_, rfl⟩
  obtain ⟨bJ, hbJ⟩ : ∃ b, isName tab = b := ⟨_, rfl⟩
  have HO := Lib.hid (fun w1 => refCheck_any vk vn vs w1 (by omega))
  have HC := Lib.hid (fun w1 => refName_any col w1 (by omega))
  have HTb := Lib.hid (fun w1 => refName_any tab w1 (by omega))
  rw [hbO] at HO
  rw [hbK] at HC
  rw [hbJ] at HTb
  have hq := fun w1 => run_eqV vk vn vs 0 0 ⟨#[]⟩ w1
  obtain ⟨bT, hbT⟩ : ∃ b, tab.toList.isEmpty = b := ⟨_, rfl⟩
  obtain ⟨bC, hbC⟩ : ∃ b, col.toList.isEmpty = b := ⟨_, rfl⟩
  obtain ⟨bV, hbV⟩ : ∃ b, eqV vk vn vs 0 0 ⟨#[]⟩ = b := ⟨_, rfl⟩
  rw [hbV] at hq
  have HN := Lib.hid (show namelessB ⟨k, n, vk, vn, vs, tab, col⟩ = (bT && bC) by rw [namelessB, hbT, hbC])
  have HV := Lib.hid (show valuelessB ⟨k, n, vk, vn, vs, tab, col⟩ = bV from hbV)
  have HBx := Lib.hid (ba2 w (xbox ⟨k, n, vk, vn, vs, tab, col⟩ A len cap) (.cells #[.int .i64 0, .int .i64 0, .string ⟨#[]⟩] 32))
  have HF := Lib.hid (show oneB ⟨k, n, vk, vn, vs, tab, col⟩ len ag =
      (!(k == 4 && ag) && (if k = 1 then (bO && (vk != 2 || decide (0 ≤ vn))) && n == 0 && (bT && bC) && (len : Int) == 0
      else if k = 2 then (bK && (bT || bJ)) && decide (0 ≤ n) && decide (n < 32) && bV && (len : Int) == 0
      else if k = 3 then decide (0 < arI n) && ((len : Int) == arI n) && (bT && bC) && bV
      else if k = 4 then aggB n len && (bT && bC) && bV else false)) by
    unfold oneB fitsB; rw [HN.out, HV.out]; simp only [litB, colB, hbO, hbK, hbJ, hbT])
  clear hbV hv hbO hbK hbJ HN HV ht hc
  simp only at hk
  have h3 := hk
  clear hk
  rw [if_neg (by omega), if_neg (by omega)] at HF
  subst h3
  simp only [if_true] at HF
  obtain ⟨a, ha⟩ : ∃ a, arI n = a := ⟨_, rfl⟩
  have HAr := Lib.hid (fun w1 => refArity_any n w1)
  rw [ha] at HF HAr
  clear ha
  rcases (show bV = false ∨ (bV = true ∧ bT = false) ∨ (bV = true ∧ bT = true ∧ bC = false) ∨ (bV = true ∧ bT = true ∧ bC = true) by cases bV <;> cases bT <;> cases bC <;> simp) with hx | ⟨hx, hy⟩ | ⟨hx, hy, hz⟩ | ⟨hx, hy, hz⟩
  all_goals
    subst hx
    try subst hy
    try subst hz
  iterate 3
    (go_enter Tryz.func66, Tryz.ntmps66
     go_wp2_with fail
     go_quiet ((go_at_call 89; exact Calls.quiet_of_same (HAr.out _)))
     go_wp2_with fail
     go_ret
     exact ⟨ret_bool (by rw [HF.out]; simp), bt HBx.out (drNE _ _)⟩)
  by_cases hp : 0 < a
  · by_cases hla : (len : Int) = a
    · subst hla
      have hpn : 0 < len := by omega
      have hpd : decide (0 < len) = true := by simpa using hpn
      go_enter Tryz.func66, Tryz.ntmps66
      go_wp2_with fail
      go_quiet ((go_at_call 89; exact Calls.quiet_of_same (HAr.out _)))
      go_wp2_with fail
      go_ret
      exact ⟨ret_bool (by rw [HF.out]; simp_all <;> (intros; omega)), bt HBx.out (drNE _ _)⟩
    · have hpb : decide (0 < a) = true := by simpa using hp
      have hlb : ((len : Int) == a) = false := by simpa using hla
      go_enter Tryz.func66, Tryz.ntmps66
      go_wp2_with fail
      go_quiet ((go_at_call 89; exact Calls.quiet_of_same (HAr.out _)))
      go_wp2_with fail
      go_ret
      exact ⟨ret_bool (by rw [HF.out]; simp_all <;> (intros; omega)), bt HBx.out (drNE _ _)⟩
  · have hpb : decide (0 < a) = false := by simpa using hp
    go_enter Tryz.func66, Tryz.ntmps66
    go_wp2_with fail
    go_quiet ((go_at_call 89; exact Calls.quiet_of_same (HAr.out _)))
    go_wp2_with fail
    go_ret
    exact ⟨ret_bool (by rw [HF.out]; simp_all <;> (intros; omega)), bt HBx.out (drNE _ _)⟩
end
section
open Go.RowKit Go.Shelf

set_option maxRecDepth 100000 in
set_option maxHeartbeats 16000000 in
theorem one_4 (h : Hd) (A : Option Addr) (len cap : Nat) (ag : Bool) (w : World) (hs : Sm h) (hl : len ≤ 9223372036854775807) (hk : h.k = 4) :
    Calls Tryz.prog 66 #[XV h A len cap, .bool ag] w fun e w' => e = .returned (.bool (oneB h len ag)) ∧ Below w.heap.size w w' := by
  obtain ⟨k, n, vk, vn, vs, tab, col⟩ := h
  obtain ⟨ht, hc, hv⟩ := hs
  simp only at ht hc hv
  obtain ⟨bO, hbO⟩ : ∃ b, okV vk vn vs = b := ⟨_, rfl⟩
  obtain ⟨bK, hbK⟩ : ∃ b, isName col = b := ⟨_, rfl⟩
  obtain ⟨bJ, hbJ⟩ : ∃ b, isName tab = b := ⟨_, rfl⟩
  have HO := Lib.hid (fun w1 => refCheck_any vk vn vs w1 (by omega))
  have HC := Lib.hid (fun w1 => refName_any col w1 (by omega))
  have HTb := Lib.hid (fun w1 => refName_any tab w1 (by omega))
  rw [hbO] at HO
  rw [hbK] at HC
  rw [hbJ] at HTb
  have hq := fun w1 => run_eqV vk vn vs 0 0 ⟨#[]⟩ w1
  obtain ⟨bT, hbT⟩ : ∃ b, tab.toList.isEmpty = b := ⟨_, rfl⟩
  obtain ⟨bC, hbC⟩ : ∃ b, col.toList.isEmpty = b := ⟨_, rfl⟩
  obtain ⟨bV, hbV⟩ : ∃ b, eqV vk vn vs 0 0 ⟨#[]⟩ = b := ⟨_, rfl⟩
  rw [hbV] at hq
  have HN := Lib.hid (show namelessB ⟨k, n, vk, vn, vs, tab, col⟩ = (bT && bC) by rw [namelessB, hbT, hbC])
  have HV := Lib.hid (show valuelessB ⟨k, n, vk, vn, vs, tab, col⟩ = bV from hbV)
  have HBx := Lib.hid (ba2 w (xbox ⟨k, n, vk, vn, vs, tab, col⟩ A len cap) (.cells #[.int .i64 0, .int .i64 0, .string ⟨#[]⟩] 32))
  have HF := Lib.hid (show oneB ⟨k, n, vk, vn, vs, tab, col⟩ len ag =
      (!(k == 4 && ag) && (if k = 1 then (bO && (vk != 2 || decide (0 ≤ vn))) && n == 0 && (bT && bC) && (len : Int) == 0
      else if k = 2 then (bK && (bT || bJ)) && decide (0 ≤ n) && decide (n < 32) && bV && (len : Int) == 0
      else if k = 3 then decide (0 < arI n) && ((len : Int) == arI n) && (bT && bC) && bV
      else if k = 4 then aggB n len && (bT && bC) && bV else false)) by
    unfold oneB fitsB; rw [HN.out, HV.out]; simp only [litB, colB, hbO, hbK, hbJ, hbT])
  clear hbV hv hbO hbK hbJ HN HV ht hc
  simp only at hk
  have h4 := hk
  clear hk
  rw [if_neg (by omega), if_neg (by omega), if_neg (by omega)] at HF
  subst h4
  simp only [if_true] at HF
  rcases (show ag = true ∨ (ag = false ∧ bV = false) ∨ (ag = false ∧ bV = true ∧ bT = false) ∨ (ag = false ∧ bV = true ∧ bT = true ∧ bC = false) ∨ (ag = false ∧ bV = true ∧ bT = true ∧ bC = true) by cases ag <;> cases bV <;> cases bT <;> cases bC <;> simp) with hx | ⟨hx, hy⟩ | ⟨hx, hy, hz⟩ | ⟨hx, hy, hz, hu⟩ | ⟨hx, hy, hz, hu⟩
  all_goals
    subst hx
    try subst hy
    try subst hz
    try subst hu
  iterate 4
    (go_enter Tryz.func66, Tryz.ntmps66
     go_wp2_with fail
     go_ret
     exact ⟨ret_bool (by rw [HF.out]; simp), HBx.out⟩)
  have HA := Lib.hid (show aggB n len = if n = 1 then (len : Int) == 0 else decide (1 < n) && decide (n ≤ 5) && (len : Int) == 1 from rfl)
  rcases (show ¬ 1 ≤ n ∨ (1 ≤ n ∧ ¬ n ≤ 5) ∨ (n = 1 ∧ len = 0) ∨ (n = 1 ∧ ¬ len = 0) ∨ (1 ≤ n ∧ n ≤ 5 ∧ ¬ n = 1 ∧ len = 0) ∨ (1 ≤ n ∧ n ≤ 5 ∧ ¬ n = 1 ∧ ¬ len = 0 ∧ len ≤ 1) ∨ (1 ≤ n ∧ n ≤ 5 ∧ ¬ n = 1 ∧ ¬ len = 0 ∧ ¬ len ≤ 1) by omega) with p1 | ⟨p1, p2⟩ | ⟨p1, p2⟩ | ⟨p1, p2⟩ | ⟨p1, p2, p3, p4⟩ | ⟨p1, p2, p3, p4, p5⟩ | ⟨p1, p2, p3, p4, p5⟩
  · have HR := Lib.hid (show aggB n len = false by rw [HA.out, if_neg (by omega), decide_eq_false (p := 1 < n) (by omega)]; rfl)
    go_enter Tryz.func66, Tryz.ntmps66
    go_wp2_with fail
    go_ret
    exact ⟨ret_bool (by rw [HF.out, HR.out]; simp), HBx.out⟩
  · have HR := Lib.hid (show aggB n len = false by rw [HA.out, if_neg (by omega), decide_eq_false (p := n ≤ 5) (by omega), Bool.and_false]; rfl)
    go_enter Tryz.func66, Tryz.ntmps66
    go_wp2_with fail
    go_ret
    exact ⟨ret_bool (by rw [HF.out, HR.out]; simp), HBx.out⟩
  · subst p1 p2
    go_enter Tryz.func66, Tryz.ntmps66
    go_wp2_with fail
    go_ret
    exact ⟨ret_bool (by rw [HF.out]; rfl), ba2 w _ _⟩
  · subst p1
    have q : ((len : Int) == 0) = false := by simp; omega
    have HR := Lib.hid (show aggB 1 len = false by rw [HA.out, if_pos rfl, q])
    go_enter Tryz.func66, Tryz.ntmps66
    go_wp2_with fail
    go_ret
    exact ⟨ret_bool (by rw [HF.out, HR.out]; simp), ba2 w _ _⟩
  · subst p4
    have q : (n == 1) = false := by simpa using p3
    have HR := Lib.hid (show aggB n (0 : Nat) = false by rw [HA.out, if_neg p3]; simp)
    go_enter Tryz.func66, Tryz.ntmps66
    go_wp2_with fail
    go_ret
    exact ⟨ret_bool (by rw [HF.out, HR.out]; simp), ba2 w _ _⟩
  · obtain rfl : len = 1 := by omega
    have q : (n == 1) = false := by simpa using p3
    have HR := Lib.hid (show aggB n (1 : Nat) = true by rw [HA.out, if_neg p3, decide_eq_true (p := 1 < n) (by omega), decide_eq_true (p := n ≤ 5) p2]; rfl)
    go_enter Tryz.func66, Tryz.ntmps66
    go_wp2_with fail
    go_ret
    exact ⟨ret_bool (by rw [HF.out, HR.out]; simp), ba2 w _ _⟩
  · have q : (n == 1) = false := by simpa using p3
    have q2 : ((len : Int) == 0) = false := by simp; omega
    have q3 : ¬ (len : Int) ≤ 1 := by omega
    have HR := Lib.hid (show aggB n len = false by rw [HA.out, if_neg p3, show ((len : Int) == 1) = false by simp; omega, Bool.and_false])
    go_enter Tryz.func66, Tryz.ntmps66
    go_wp2_with fail
    go_ret
    exact ⟨ret_bool (by rw [HF.out, HR.out]; simp), HBx.out⟩
end
end Go.Proofs.YtofhaokaldpmaaaGreatDoor
end
section
namespace Go.Proofs.YtofhaokaldpmaaaGreatDoor
open Go.RowKit Go.Shelf

theorem one_any (h : Hd) (A : Option Addr) (len cap : Nat) (ag : Bool) (w : World) (hs : Sm h) (hl : len ≤ 9223372036854775807) :
    Calls Tryz.prog 66 #[XV h A len cap, .bool ag] w fun e w' => e = .returned (.bool (oneB h len ag)) ∧ Below w.heap.size w w' := by
  by_cases h1 : h.k = 1
  · exact one_1 h A len cap ag w hs h1
  by_cases h2 : h.k = 2
  · exact one_2 h A len cap ag w hs h2
  by_cases h3 : h.k = 3
  · exact one_3 h A len cap ag w hs hl h3
  by_cases h4 : h.k = 4
  · exact one_4 h A len cap ag w hs hl h4
  have HF := Lib.hid (show oneB h len ag = false by unfold oneB fitsB; rw [if_neg h1, if_neg h2, if_neg h3, if_neg h4, Bool.and_false])
  obtain ⟨k, n, vk, vn, vs, tab, col⟩ := h
  simp only at h1 h2 h3 h4
  go_enter Tryz.func66, Tryz.ntmps66
  go_wp2_with fail
  go_ret
  exact ⟨ret_bool HF.out.symm, ba2 w _ _⟩
/-- What walk tells. -/
def walkV (x : Ex) (d : Nat) (ag : Bool) : Value := if goodB x d ag = true ∧ cnt x ≤ 512 then .tuple #[.int .i64 (cnt x), .bool true] else .tuple #[.int .i64 0, .bool false]
theorem goodB_one (h : Hd) (l : List Ex) (d : Nat) (ag : Bool) : goodB (.mk h l) d ag = (decide (d ≤ 32) && oneB h l.length ag && goodBs l (d + 1) (ag || h.k == 4)) := by
  rw [goodB_mk, oneB]
  cases decide (d ≤ 32) <;> cases (h.k == 4 && ag) <;> cases fitsB h l.length <;> rfl
theorem goodBs_at {l : List Ex} {j : Nat} {x : Ex} {d : Nat} {ag : Bool} (h : l[j]? = some x) (hg : goodB x d ag = false) : goodBs l d ag = false := by
  refine goodBs_no (k := j + 1) ?_
  rw [goodBs_take h, hg, Bool.and_false]
set_option maxRecDepth 100000 in
set_option maxHeartbeats 16000000 in
theorem walk_n : ∀ (N : Nat) (h : Hd) (l : List Ex), cnt (.mk h l) ≤ N → N ≤ 1000000 → AllSm (.mk h l) → ∀ (w : World) (A : Option Addr) (cap d : Nat) (ag : Bool), XsAt w.heap.size w l A → d ≤ 33 →
    Calls Tryz.prog 48 #[XV h A l.length cap, .int .i64 d, .bool ag] w fun e w' => e = .returned (walkV (.mk h l) d ag) ∧ Below w.heap.size w w' := by
  intro N
  induction N with
  | zero => intro h l hc; have := cnt_pos (.mk h l); omega
  | succ N ih =>
    intro h l hc hN hsm w A cap d ag hX hd
    have HCn := Lib.hid (cnt_mk h l)
    rw [cnt_mk] at hc
    rw [AllSm] at hsm
    have hlen := cntL_len l
    have hba := ba w (xbox h A l.length cap)
    have HX0 := Lib.hid (MapKept.heap_alloc w (xbox h A l.length cap)).1
    have HBa := Lib.hid hba
    have HXl := Lib.hid hX
    have HSm := Lib.hid hsm.2
    have HI := Lib.hid (show ∀ (h' : Hd) (l' : List Ex), cnt (.mk h' l') ≤ N → AllSm (.mk h' l') → ∀ (w1 : World) (A' : Option Addr) (cap' : Nat) (ag' : Bool), XsAt w1.heap.size w1 l' A' → d ≤ 32 →
        Calls Tryz.prog 48 #[XV h' A' l'.length cap', .int .i64 ((d : Int) + 1), .bool ag'] w1 fun e w' => e = .returned (walkV (.mk h' l') (d + 1) ag') ∧ Below w1.heap.size w1 w' from fun h' l' hc' hs' w1 A' cap' ag' hx hd' => ih h' l' hc' (by omega) hs' w1 A' cap' (d + 1) ag' hx (by omega))
    have HG := Lib.hid (goodB_one h l d ag)
    have HO := Lib.hid (fun w1 => one_any h A l.length cap ag w1 hsm.1 (by omega))
    obtain ⟨bo, hbo⟩ : ∃ b, oneB h l.length ag = b := ⟨_, rfl⟩
    rw [hbo] at HO HG
    have hl6 : l.length ≤ 1000000 := by omega
    clear hX ih hba hbo hsm
    obtain ⟨W0, hW0⟩ : ∃ W0, w.alloc (xbox h A l.length cap) = W0 := ⟨_, rfl⟩
    have HW0 := Lib.hid hW0
    have hsz0 : W0.heap.size = w.heap.size + 1 := by rw [← hW0, World.size_alloc]
    clear hW0
    by_cases hd32 : 32 < d
    · have y : (32 : Int) < (d : Int) := by omega
      have HV := Lib.hid (show walkV (.mk h l) d ag = .tuple #[.int .i64 0, .bool false] by rw [walkV, HG.out, decide_eq_false (by omega)]; simp)
      go_enter Tryz.func48, Tryz.ntmps48
      go_wp2_with fail
      refine bodyPost_ret (v := .tuple #[.int .i64 0, .bool false]) (by simp [results, Tryz.results48, go_sem]) rfl ⟨by rw [HV.out], HBa.out⟩
    · have y : ¬ (32 : Int) < (d : Int) := by omega
      cases bo
      · have HV := Lib.hid (show walkV (.mk h l) d ag = .tuple #[.int .i64 0, .bool false] by rw [walkV, HG.out]; simp)
        go_enter Tryz.func48, Tryz.ntmps48
        go_wp2_with fail
        refine (HO.out _).mono ?_
        rintro e w1 ⟨rfl, hb1⟩
        have HB1 := Lib.hid (bt HBa.out hb1)
        clear hb1
        go_wp2_with fail
        refine bodyPost_ret (v := .tuple #[.int .i64 0, .bool false]) (by simp [results, Tryz.results48, go_sem]) rfl ⟨by rw [HV.out], HB1.out⟩
      · have HGd := Lib.hid (show goodB (.mk h l) d ag = goodBs l (d + 1) (ag || h.k == 4) by rw [HG.out, decide_eq_true (by omega)]; rfl)
        obtain ⟨b4, hb4⟩ : ∃ b, (h.k == 4) = b := ⟨_, rfl⟩
        rw [hb4] at HGd
        go_enter Tryz.func48, Tryz.ntmps48
        go_wp2_with fail
        refine (HO.out _).mono ?_
        rintro e w1 ⟨rfl, hb1⟩
        have HB1 := Lib.hid (bt HBa.out hb1)
        have HX1 := Lib.hid ((hb1.block w.heap.size (by rw [World.size_alloc]; omega)).trans HX0.out)
        have hsz1 : w.heap.size + 1 ≤ w1.heap.size := by have := hb1.size; rw [World.size_alloc] at this; exact this
        clear hb1
        go_wp2_with fail
        go_loopw [9, 8, 10, 11] (fun i n _ _ W => ∃ j : Nat, j ≤ l.length ∧ i = .int .i64 j ∧ n = .int .i64 (1 + cntL (l.take j) : Nat) ∧ Hid (Below w1.heap.size w1 W) ∧ Hid (goodBs (l.take j) (d + 1) (ag || b4) = true) ∧ 1 + cntL (l.take j) ≤ 512) (fun i _ _ _ _ => l.length - (intOf i).toNat)
        case atStart => exact ⟨0, Nat.zero_le _, rfl, by simp [cntL], Lib.hid (Below.refl _ _), Lib.hid (by simp [goodBs]), by simp [cntL]⟩
        case round =>
          obtain ⟨j, hj, rfl, rfl, HW, HS, hcj⟩ := hrel
          obtain ⟨⟨p0, _, _, _, _, _, _, p7⟩, _⟩ := cell8 ((HW.out.block w.heap.size (by omega)).trans HX1.out)
          have hbw := bt HB1.out HW.out
          have hsw : w.heap.size < wr.heap.size := by have := HW.out.size; omega
          by_cases hkl : j < l.length
          · obtain ⟨h', l', g, o, A', cap', hx, rfl, hg, ⟨a0, a1, a2, a3, a4, a5, a6, a7⟩, hle, hx2⟩ := kid_at HXl.out hbw hkl
            have hcm := cntL_mem hx
            have HT := Lib.hid (goodBs_take hx (d + 1) (ag || b4))
            have HCt := Lib.hid (cntL_take hx)
            have HC := Lib.hid (fun w2 (hb2 : Below wr.heap.size wr w2) => HI.out h' l' (by omega) (HSm.out.at hx) w2 A' cap' (ag || b4) (XsAt.next hx2 hb2) (by omega))
            have HNo := Lib.hid (fun hf => goodBs_at (l := l) (d := d + 1) (ag := (ag || b4)) hx hf)
            have HBw := Lib.hid hbw
            have hBd := Below.drew (Below.refl wr.heap.size wr)
            have hct := cntL_take_le l (j + 1)
            rw [HCt.out] at hct
            clear hx hx2 hbw
            have hwd : IntKind.i64.wrap ((d : Int) + 1) = (d : Int) + 1 := by rw [IntKind.wrap_i64]; omega
            have hwj : IntKind.i64.wrap (j : Int) = (j : Int) := by rw [IntKind.wrap_i64]; omega
            obtain ⟨m, hm⟩ : ∃ m, cnt (.mk h' l') = m := ⟨_, rfl⟩
            obtain ⟨t, ht⟩ : ∃ t, cntL (l.take j) = t := ⟨_, rfl⟩
            rw [ht] at HCt hct hcj ⊢
            rw [hm] at HCt hct hcm
            have HM := Lib.hid hm
            clear hm ht
            obtain ⟨kk, ok, hkv⟩ : ∃ (kk : Nat) (ok : Bool), walkV (.mk h' l') (d + 1) (ag || b4) = .tuple #[.int .i64 kk, .bool ok] ∧ ((goodB (.mk h' l') (d + 1) (ag || b4) = true ∧ m ≤ 512 ∧ kk = m ∧ ok = true) ∨ (¬ (goodB (.mk h' l') (d + 1) (ag || b4) = true ∧ m ≤ 512) ∧ kk = 0 ∧ ok = false)) := by
              by_cases hgood : goodB (.mk h' l') (d + 1) (ag || b4) = true ∧ m ≤ 512
              · exact ⟨m, true, by rw [walkV, HM.out, if_pos hgood], .inl ⟨hgood.1, hgood.2, rfl, rfl⟩⟩
              · exact ⟨0, false, by rw [walkV, HM.out, if_neg hgood]; rfl, .inr ⟨hgood, rfl, rfl⟩⟩
            have HK := Lib.hid hkv.2
            rw [hkv.1] at HC
            clear hkv
            have HVb := Lib.hid (show 512 < 1 + t + m → walkV (.mk h l) d ag = .tuple #[.int .i64 0, .bool false] from fun hb => by rw [walkV, if_neg (by rw [HCn.out]; omega)])
            have HVn := Lib.hid (show ¬ (goodB (.mk h' l') (d + 1) (ag || b4) = true ∧ m ≤ 512) → walkV (.mk h l) d ag = .tuple #[.int .i64 0, .bool false] from fun hgood => by
              rw [walkV, HGd.out]
              refine if_neg fun e => hgood ⟨?_, ?_⟩
              · cases hq : goodB (.mk h' l') (d + 1) (ag || b4) with
                | true => rfl
                | false => rw [HNo.out hq] at e; cases e.1
              · have := e.2; rw [HCn.out] at this; omega)
            have HTS := Lib.hid (show goodB (.mk h' l') (d + 1) (ag || b4) = true → goodBs (l.take (j + 1)) (d + 1) (ag || b4) = true from fun e => by rw [HT.out, HS.out, e]; rfl)
            cases ag
            case' false =>
              simp only [Bool.false_or] at HC
              go_wp2_with fail
              go_region_held3 (fun w' => Below wr.heap.size wr w' ∧ w'.cell? ⟨w.heap.size, 0, none⟩ = some (.int .i64 h.k) ∧ w'.cell? ⟨w.heap.size, 7, none⟩ = some (.slice (some ⟨g, o, none⟩) l.length cap) ∧
                  w'.cell? ⟨g, o + j * 8, none⟩ = some (.int .i64 h'.k) ∧ w'.cell? ⟨g, o + j * 8 + 1, none⟩ = some (.int .i64 h'.n) ∧ w'.cell? ⟨g, o + j * 8 + 2, none⟩ = some (.int .i64 h'.vk) ∧ w'.cell? ⟨g, o + j * 8 + 3, none⟩ = some (.int .i64 h'.vn) ∧
                  w'.cell? ⟨g, o + j * 8 + 4, none⟩ = some (.string h'.vs) ∧ w'.cell? ⟨g, o + j * 8 + 5, none⟩ = some (.string h'.tab) ∧ w'.cell? ⟨g, o + j * 8 + 6, none⟩ = some (.string h'.col) ∧ w'.cell? ⟨g, o + j * 8 + 7, none⟩ = some (.slice A' l'.length cap'))
                (first
                  | exact ⟨hBd, p0, p7, a0, a1, a2, a3, a4, a5, a6, a7⟩
                  | ((try go_split_ands)
                     refine ⟨?_, ?_, ?_, ?_, ?_, ?_, ?_, ?_, ?_, ?_, ?_⟩
                     all_goals first | assumption | (exact Below.drew (by assumption)) | (exact bt (by assumption) hb) | (exact cell_kept hb (by assumption)) | go_keep))
                (first
                  | (go_at_call 48; refine (HC.out _ (by first | assumption | exact Below.drew (by assumption))).mono ?_; rintro e w' ⟨rfl, hb⟩))
              rename_i hold
              have HHo := Lib.hid hold.1
              clear hold
            case' true =>
              simp only [Bool.true_or] at HC
              go_wp2_with fail
              refine wp_region_noPanic ?_
              refine wp_region_held_drew (S := fun Wd => Below wr.heap.size wr Wd) (by kernel_rfl) hBd (fun hHeld => ?_)
              refine wpAnyH_take (i := 0) (oi := { dst := some 28, op := Go.Op.fieldAddr 35 (Go.Operand.tmp 3) 5, type := 0, pos := "ref.go:56", after := #[], guard := none }) (v := ?_) rfl (by kernel_rfl) (by kernel_rfl) (by kernel_rfl) (fun _ _ _ h => h) (Or.inl ⟨by rfl, ?_⟩) hHeld ?_
              rotate_left 1
              · (intro w0 hSw); go_simp <;> with_reducible rfl
              (try simp only [Act.put, List.setIfInBounds_toArray, List.set_cons_zero, List.set_cons_succ])
              refine wpAnyH_take (i := 1) (oi := { dst := some 29, op := Go.Op.load 33 (Go.Operand.tmp 28), type := 33, pos := "ref.go:56", after := #[{ on := 0, ground := Go.Ground.data }], guard := none }) (v := ?_) rfl (by kernel_rfl) (by kernel_rfl) (by kernel_rfl) (fun _ _ _ h => h) (Or.inl ⟨by rfl, ?_⟩) hHeld ?_
              rotate_left 1
              · (intro w0 hSw); (try dsimp only at hSw); have s7 := cell_kept hSw p7; have t0 := cell_kept hSw a0; have t1 := cell_kept hSw a1; have t2 := cell_kept hSw a2; have t3 := cell_kept hSw a3; have t4 := cell_kept hSw a4; have t5 := cell_kept hSw a5; have t6 := cell_kept hSw a6; have t7 := cell_kept hSw a7; go_simp <;> with_reducible rfl
              (try simp only [Act.put, List.setIfInBounds_toArray, List.set_cons_zero, List.set_cons_succ])
              refine wpAnyH_take (i := 2) (oi := { dst := some 30, op := Go.Op.move (Go.Operand.tmp 9), type := 3, pos := "ref.go:56", after := #[], guard := none }) (v := ?_) rfl (by kernel_rfl) (by kernel_rfl) (by kernel_rfl) (fun _ _ _ h => h) (Or.inl ⟨by rfl, ?_⟩) hHeld ?_
              rotate_left 1
              · (intro w0 hSw); go_simp <;> with_reducible rfl
              (try simp only [Act.put, List.setIfInBounds_toArray, List.set_cons_zero, List.set_cons_succ])
              refine wpAnyH_take (i := 3) (oi := { dst := some 31, op := Go.Op.indexAddr 33 (Go.Operand.tmp 29) (Go.Operand.tmp 30), type := 0, pos := "ref.go:56", after := #[{ on := 1, ground := Go.Ground.data }, { on := 2, ground := Go.Ground.data }], guard := none }) (v := ?_) rfl (by kernel_rfl) (by kernel_rfl) (by kernel_rfl) (fun _ _ _ h => h) (Or.inl ⟨by rfl, ?_⟩) hHeld ?_
              rotate_left 1
              · (intro w0 hSw); go_simp <;> with_reducible rfl
              (try simp only [Act.put, List.setIfInBounds_toArray, List.set_cons_zero, List.set_cons_succ])
              refine wpAnyH_take (i := 4) (oi := { dst := some 32, op := Go.Op.load 35 (Go.Operand.tmp 31), type := 35, pos := "ref.go:56", after := #[{ on := 3, ground := Go.Ground.data }], guard := none }) (v := ?_) rfl (by kernel_rfl) (by kernel_rfl) (by kernel_rfl) (fun _ _ _ h => h) (Or.inl ⟨by rfl, ?_⟩) hHeld ?_
              rotate_left 1
              · (intro w0 hSw); (try dsimp only at hSw); have s7 := cell_kept hSw p7; have t0 := cell_kept hSw a0; have t1 := cell_kept hSw a1; have t2 := cell_kept hSw a2; have t3 := cell_kept hSw a3; have t4 := cell_kept hSw a4; have t5 := cell_kept hSw a5; have t6 := cell_kept hSw a6; have t7 := cell_kept hSw a7; go_simp <;> with_reducible rfl
              (try simp only [Act.put, List.setIfInBounds_toArray, List.set_cons_zero, List.set_cons_succ])
              refine wpAnyH_take (i := 5) (oi := { dst := some 33, op := Go.Op.move (Go.Operand.tmp 1), type := 3, pos := "ref.go:56", after := #[], guard := none }) (v := ?_) rfl (by kernel_rfl) (by kernel_rfl) (by kernel_rfl) (fun _ _ _ h => h) (Or.inl ⟨by rfl, ?_⟩) hHeld ?_
              rotate_left 1
              · (intro w0 hSw); go_simp <;> with_reducible rfl
              (try simp only [Act.put, List.setIfInBounds_toArray, List.set_cons_zero, List.set_cons_succ])
              refine wpAnyH_take (i := 6) (oi := { dst := some 34, op := Go.Op.binOp Go.BinOp.add 3 (Go.Operand.tmp 33) (Go.Operand.const (Go.Value.int Go.IntKind.i64 1)) 3, type := 3, pos := "ref.go:56", after := #[{ on := 5, ground := Go.Ground.data }], guard := none }) (v := ?_) rfl (by kernel_rfl) (by kernel_rfl) (by kernel_rfl) (fun _ _ _ h => h) (Or.inl ⟨by rfl, ?_⟩) hHeld ?_
              rotate_left 1
              · (intro w0 hSw); go_simp <;> with_reducible rfl
              (try simp only [Act.put, List.setIfInBounds_toArray, List.set_cons_zero, List.set_cons_succ])
              refine wpAnyH_take (i := 7) (oi := { dst := some 35, op := Go.Op.move (Go.Operand.tmp 2), type := 4, pos := "ref.go:56", after := #[], guard := none }) (v := ?_) rfl (by kernel_rfl) (by kernel_rfl) (by kernel_rfl) (fun _ _ _ h => h) (Or.inl ⟨by rfl, ?_⟩) hHeld ?_
              rotate_left 1
              · (intro w0 hSw); go_simp <;> with_reducible rfl
              (try simp only [Act.put, List.setIfInBounds_toArray, List.set_cons_zero, List.set_cons_succ])
              refine wpAnyH_take (i := 8) (oi := { dst := some 36, op := Go.Op.move (Go.Operand.tmp 35), type := 4, pos := "ref.go:56", after := #[{ on := 7, ground := Go.Ground.data }], guard := none }) (v := ?_) rfl (by kernel_rfl) (by kernel_rfl) (by kernel_rfl) (fun _ _ _ h => h) (Or.inl ⟨by rfl, ?_⟩) hHeld ?_
              rotate_left 1
              · (intro w0 hSw); go_simp <;> with_reducible rfl
              (try simp only [Act.put, List.setIfInBounds_toArray, List.set_cons_zero, List.set_cons_succ])
              refine wpAnyH_take (i := 9) (oi := { dst := some 37, op := Go.Op.fieldAddr 35 (Go.Operand.tmp 3) 0, type := 0, pos := "ref.go:56", after := #[{ on := 8, ground := Go.Ground.guard }], guard := some (8, false) }) (v := undef) rfl (by kernel_rfl) (by kernel_rfl) (by kernel_rfl) (fun _ _ _ h => h) (Or.inr ⟨by rfl, rfl⟩) hHeld ?_
              (try simp only [Act.put, List.setIfInBounds_toArray, List.set_cons_zero, List.set_cons_succ])
              refine wpAnyH_take (i := 10) (oi := { dst := some 38, op := Go.Op.load 3 (Go.Operand.tmp 37), type := 3, pos := "ref.go:56", after := #[{ on := 9, ground := Go.Ground.data }, { on := 8, ground := Go.Ground.guard }], guard := some (8, false) }) (v := undef) rfl (by kernel_rfl) (by kernel_rfl) (by kernel_rfl) (fun _ _ _ h => h) (Or.inr ⟨by rfl, rfl⟩) hHeld ?_
              (try simp only [Act.put, List.setIfInBounds_toArray, List.set_cons_zero, List.set_cons_succ])
              refine wpAnyH_take (i := 11) (oi := { dst := some 39, op := Go.Op.binOp Go.BinOp.eql 3 (Go.Operand.tmp 38) (Go.Operand.const (Go.Value.int Go.IntKind.i64 4)) 3, type := 4, pos := "ref.go:56", after := #[{ on := 10, ground := Go.Ground.data }, { on := 8, ground := Go.Ground.guard }], guard := some (8, false) }) (v := undef) rfl (by kernel_rfl) (by kernel_rfl) (by kernel_rfl) (fun _ _ _ h => h) (Or.inr ⟨by rfl, rfl⟩) hHeld ?_
              (try simp only [Act.put, List.setIfInBounds_toArray, List.set_cons_zero, List.set_cons_succ])
              refine wpAnyH_take (i := 12) (oi := { dst := some 40, op := Go.Op.pick (Go.Operand.tmp 36) (Go.Operand.const (Go.Value.bool true)) (Go.Operand.tmp 39), type := 4, pos := "ref.go:56", after := #[{ on := 8, ground := Go.Ground.data }, { on := 11, ground := Go.Ground.data }], guard := none }) (v := ?_) rfl (by kernel_rfl) (by kernel_rfl) (by kernel_rfl) (fun _ _ _ h => h) (Or.inl ⟨by rfl, ?_⟩) hHeld ?_
              rotate_left 1
              · (intro w0 hSw); go_simp <;> with_reducible rfl
              (try simp only [Act.put, List.setIfInBounds_toArray, List.set_cons_zero, List.set_cons_succ])
              refine wpAnyH_ready (rs := [13]) (by kernel_rfl) (by simp) ?_
              refine AllReadyH.cons (o := { dst := some 41, op := Go.Op.call { callee := Go.Callee.value (Go.Operand.func 48), args := #[Go.Operand.tmp 32, Go.Operand.tmp 34, Go.Operand.tmp 40], argTypes := #[35, 3, 4] }, type := 28, pos := "ref.go:56", after := #[{ on := 4, ground := Go.Ground.data }, { on := 6, ground := Go.Ground.data }, { on := 12, ground := Go.Ground.data }, { on := 8, ground := Go.Ground.chain }], guard := none }) rfl (fun K hK => ?_) AllReadyH.nil
              rw [if_pos (by rfl)]
              go_simp
              refine (HC.out _ hBd).mono ?_
              rintro e w' ⟨rfl, hb⟩
              have HHo := Lib.hid (bt hBd hb)
              clear hb hHeld
              go_wp2_with fail
              refine hK.out _ _ HHo.out (fun hHeld => ?_)
              clear hK K
              (try simp only [Act.put, List.setIfInBounds_toArray, List.set_cons_zero, List.set_cons_succ])
              refine wpAnyH_take (i := 14) (oi := { dst := some 27, op := Go.Op.move (Go.Operand.tmp 41), type := 28, pos := "ref.go:56", after := #[{ on := 13, ground := Go.Ground.data }], guard := none }) (v := ?_) rfl (by kernel_rfl) (by kernel_rfl) (by kernel_rfl) (fun _ _ _ h => h) (Or.inl ⟨by rfl, ?_⟩) hHeld ?_
              rotate_left 1
              · (intro w0 hSw); go_simp <;> with_reducible rfl
              (try simp only [Act.put, List.setIfInBounds_toArray, List.set_cons_zero, List.set_cons_succ])
              refine wpAnyH_take (i := 15) (oi := { dst := some 42, op := Go.Op.extract (Go.Operand.tmp 27) 0, type := 3, pos := "ref.go:56", after := #[{ on := 14, ground := Go.Ground.data }], guard := none }) (v := ?_) rfl (by kernel_rfl) (by kernel_rfl) (by kernel_rfl) (fun _ _ _ h => h) (Or.inl ⟨by rfl, ?_⟩) hHeld ?_
              rotate_left 1
              · (intro w0 hSw); go_simp <;> with_reducible rfl
              (try simp only [Act.put, List.setIfInBounds_toArray, List.set_cons_zero, List.set_cons_succ])
              refine wpAnyH_take (i := 16) (oi := { dst := some 43, op := Go.Op.extract (Go.Operand.tmp 27) 1, type := 4, pos := "ref.go:56", after := #[{ on := 14, ground := Go.Ground.data }, { on := 17, ground := Go.Ground.gcOnly Go.Departure.lateStores }], guard := none }) (v := ?_) rfl (by kernel_rfl) (by kernel_rfl) (by kernel_rfl) (fun _ _ _ h => h) (Or.inl ⟨by rfl, ?_⟩) hHeld ?_
              rotate_left 1
              · (intro w0 hSw); go_simp <;> with_reducible rfl
              (try simp only [Act.put, List.setIfInBounds_toArray, List.set_cons_zero, List.set_cons_succ])
              refine wpAnyH_take (i := 17) (oi := { dst := some 10, op := Go.Op.assign (Go.Operand.tmp 42), type := 3, pos := "ref.go:56", after := #[{ on := 15, ground := Go.Ground.data }, { on := 13, ground := Go.Ground.chain }, { on := 0, ground := Go.Ground.phase }, { on := 1, ground := Go.Ground.phase }, { on := 2, ground := Go.Ground.phase }, { on := 3, ground := Go.Ground.phase }, { on := 4, ground := Go.Ground.phase }, { on := 5, ground := Go.Ground.phase }, { on := 6, ground := Go.Ground.phase }, { on := 7, ground := Go.Ground.phase }, { on := 8, ground := Go.Ground.phase }, { on := 9, ground := Go.Ground.phase }, { on := 10, ground := Go.Ground.phase }, { on := 11, ground := Go.Ground.phase }, { on := 12, ground := Go.Ground.phase }, { on := 13, ground := Go.Ground.phase }, { on := 14, ground := Go.Ground.phase }, { on := 15, ground := Go.Ground.phase }, { on := 16, ground := Go.Ground.textOnly Go.Departure.lateStores }], guard := none }) (v := ?_) rfl (by kernel_rfl) (by kernel_rfl) (by kernel_rfl) (fun _ _ _ h => h) (Or.inl ⟨by rfl, ?_⟩) hHeld ?_
              rotate_left 1
              · (intro w0 hSw); go_simp <;> with_reducible rfl
              (try simp only [Act.put, List.setIfInBounds_toArray, List.set_cons_zero, List.set_cons_succ])
              refine wpAnyH_take (i := 18) (oi := { dst := some 11, op := Go.Op.assign (Go.Operand.tmp 43), type := 4, pos := "ref.go:56", after := #[{ on := 16, ground := Go.Ground.data }, { on := 17, ground := Go.Ground.chain }, { on := 0, ground := Go.Ground.phase }, { on := 1, ground := Go.Ground.phase }, { on := 2, ground := Go.Ground.phase }, { on := 3, ground := Go.Ground.phase }, { on := 4, ground := Go.Ground.phase }, { on := 5, ground := Go.Ground.phase }, { on := 6, ground := Go.Ground.phase }, { on := 7, ground := Go.Ground.phase }, { on := 8, ground := Go.Ground.phase }, { on := 9, ground := Go.Ground.phase }, { on := 10, ground := Go.Ground.phase }, { on := 11, ground := Go.Ground.phase }, { on := 12, ground := Go.Ground.phase }, { on := 13, ground := Go.Ground.phase }, { on := 14, ground := Go.Ground.phase }, { on := 15, ground := Go.Ground.phase }, { on := 16, ground := Go.Ground.phase }, { on := 17, ground := Go.Ground.phase }], guard := none }) (v := ?_) rfl (by kernel_rfl) (by kernel_rfl) (by kernel_rfl) (fun _ _ _ h => h) (Or.inl ⟨by rfl, ?_⟩) hHeld ?_
              rotate_left 1
              · (intro w0 hSw); go_simp <;> with_reducible rfl
              (try simp only [Act.put, List.setIfInBounds_toArray, List.set_cons_zero, List.set_cons_succ])
              refine wpAnyH_done (by kernel_rfl) ?_ _
              refine NoPanic.normal ?_
              clear hHeld
            all_goals
              rcases HK.out with ⟨hg1, hm5, rfl, rfl⟩ | ⟨hg1, rfl, rfl⟩
              · by_cases hbig : 512 < 1 + t + kk
                · have hbig' : (512 : Int) < ((1 + t : Nat) : Int) + (kk : Int) := by push_cast; omega
                  have HV := Lib.hid (HVb.out hbig)
                  push_cast at hbig'
                  go_wp2_with fail
                  refine bodyPost_ret (v := .tuple #[.int .i64 0, .bool false]) (by simp [results, Tryz.results48, go_sem]) rfl ⟨by rw [HV.out], bt HBw.out HHo.out⟩
                · have hbig' : ¬ (512 : Int) < ((1 + t : Nat) : Int) + (kk : Int) := by push_cast; omega
                  push_cast at hbig'
                  have HGo := Lib.hid (HTS.out hg1)
                  go_wp2_with fail
                  go_roundw
                  case rel =>
                    first
                      | exact ⟨j + 1, by omega, by go_num, by rw [HCt.out]; push_cast; go_num, Lib.hid (HW.out.trans (HHo.out.mono HW.out.size)), HGo, by rw [HCt.out]; omega⟩
                      | ((repeat apply Exists.intro); exact ⟨⟨j + 1, by omega, by go_num, by rw [HCt.out]; push_cast; go_num, Lib.hid (HW.out.trans (HHo.out.mono HW.out.size)), HGo, by rw [HCt.out]; omega⟩, rfl⟩)
                  case measure => simp [intOf]; omega
              · have HV := Lib.hid (HVn.out hg1)
                go_wp2_with fail
                refine bodyPost_ret (v := .tuple #[.int .i64 0, .bool false]) (by simp [results, Tryz.results48, go_sem]) rfl ⟨by rw [HV.out], bt HBw.out HHo.out⟩
          · have hkk : j = l.length := by omega
            have HE := Lib.hid (show l.take j = l by rw [hkk, List.take_length])
            rw [HE.out] at HS hcj ⊢
            have HV := Lib.hid (show walkV (.mk h l) d ag = .tuple #[.int .i64 (1 + cntL l : Nat), .bool true] by rw [walkV, HGd.out, HS.out, HCn.out, if_pos ⟨rfl, hcj⟩])
            have HBw := Lib.hid hbw
            clear hbw hkk
            go_wp2_with fail
            refine bodyPost_ret (v := .tuple #[.int .i64 (1 + cntL l : Nat), .bool true]) (by simp [results, Tryz.results48, go_sem]) rfl ⟨by rw [HV.out], HBw.out⟩
end Go.Proofs.YtofhaokaldpmaaaGreatDoor
end
