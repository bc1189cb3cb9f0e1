/-
  A list of expressions of the call's own, held in a box, that grows by one.
The library's Grow and Concat over expressions; parts, Parts.
pick, Columns, Aggs.
pick for Aggs.
The contracts of the document's own Digits and Show.
The document's Show.
  The document's Show, of whole expressions.
Same, of two expressions; the document's Same.
Columns, Aggs: pick's wrappers.
  The contracts of package expr, of values that hold expressions; operations upon them.
The law's own makers: num, op.
-/
import Derived.Test.YtpokpiphnggfpaaGreatDoorZ11
import Derived.Maps.AppendAt
import Derived.Deep.RegionHeld3
import Derived.BigRegion
import Derived.Deep.MidRow
import Derived.Great.BuildSlice
section
namespace Go.Proofs.YtpokpiphnggfpaaGreatDoor
open Go.RowKit Go.Shelf

def IsC (W : World) (k : Nat) : Prop := ∃ o, W.heap[k]? = some o ∧ o.isCells = true
theorem isC_of_cell {W : World} {g o : Nat} {v : Value} (h : W.cell? ⟨g, o, none⟩ = some v) : IsC W g := by
  simp only [World.cell?] at h
  cases hg : W.heap[g]? with
  | none => rw [hg] at h; cases h
  | some x =>
    cases x with
    | cells cs t f => exact ⟨_, hg, rfl⟩
    | _ => rw [hg] at h; cases h
theorem IsC.of {W W' : World} {k : Nat} (h : IsC W k) (e : W'.heap[k]? = W.heap[k]?) : IsC W' k := by
  obtain ⟨o, ho, hc⟩ := h
  exact ⟨o, e.trans ho, hc⟩
theorem XsB.isC {B : Nat → Prop} {w : World} : ∀ {l : List Ex} {A : Option Addr}, XsB B w l A → XsB (fun k => B k ∧ IsC w k) w l A
  | [], _, _ => by rw [XsB]; trivial
  | .mk h l :: r, A, H => by
    rw [XsB] at H ⊢
    obtain ⟨g, o, e, hg, ⟨A', cap, hc, hl, h1⟩, h2⟩ := H
    exact ⟨g, o, e, ⟨hg, isC_of_cell hc.c0⟩, ⟨A', cap, hc, hl, XsB.isC h1⟩, XsB.isC h2⟩
termination_by l => SizeOf.sizeOf l
abbrev zcell : List Value := [.int .i64 0, .int .i64 0, .int .i64 0, .int .i64 0, .string ⟨#[]⟩, .string ⟨#[]⟩, .string ⟨#[]⟩, .slice none 0 0]
abbrev Op8 (b : Nat) (W : World) (v : Value) (k : Nat) : Prop := b ≤ k ∧ k < W.heap.size ∧ v.ownBlock ≠ some k ∧ IsC W k
/-- The list in the box. -/
structure PK (b u : Nat) (W : World) (v : Value) (q : List XQ) (L : List Ex) : Prop where
  box : Boxed W u 22 v
  kids : XRs (Op8 b W v) W L q
  own : W.ownsRow b 30 8 v L.length (xcells q)
  nil : L = [] → v = .slice none 0 0
  le : b ≤ W.heap.size
  ub : u < b
theorem PK.below {b u : Nat} {W W' : World} {v : Value} {q : List XQ} {L : List Ex} (h : PK b u W v q L) (hb : Below W.heap.size W W') : PK b u W' v q L := by
  refine ⟨boxed_below h.box hb, h.kids.go (fun k hk => hb.block k hk.2.1) (fun k hk => ⟨hk.1, Nat.lt_of_lt_of_le hk.2.1 hb.size, hk.2.2.1, hk.2.2.2.of (hb.block k hk.2.1)⟩), ⟨h.own.1, ?_⟩, h.nil, Nat.le_trans h.le hb.size, h.ub⟩
  rcases h.own.2 with hn | ⟨g, cap, cur, hv, hb1, hg, hc, hm, hsz, ht⟩
  · exact .inl hn
  · exact .inr ⟨g, cap, cur, hv, hb1, (hb.block g (Array.getElem?_eq_some_iff.1 hg).1).trans hg, hc, hm, hsz, ht⟩
/-- Behind what turns no cells. -/
theorem PK.other {b u : Nat} {W W' : World} {v : Value} {q : List XQ} {L : List Ex} (h : PK b u W v q L) {row : Option Nat} (hg : W.grownBy W' row) (hr : ∀ r, row = some r → ∃ o : Obj, W.heap[r]? = some o ∧ o.isCells = false) : PK b u W' v q L := by
  have keep : ∀ k, IsC W k → W'.heap[k]? = W.heap[k]? := fun k ⟨o, ho, hc⟩ => hg.block k (Array.getElem?_eq_some_iff.1 ho).1 (fun e => by
    obtain ⟨o', h1, h2⟩ := hr k e.symm
    rw [ho] at h1; cases h1; rw [hc] at h2; cases h2)
  refine ⟨(keep u ⟨_, h.box, rfl⟩).trans h.box, h.kids.go (fun k hk => keep k hk.2.2.2) (fun k hk => ⟨hk.1, Nat.lt_of_lt_of_le hk.2.1 hg.size, hk.2.2.1, hk.2.2.2.of (keep k hk.2.2.2)⟩), ⟨h.own.1, ?_⟩, h.nil, Nat.le_trans h.le hg.size, h.ub⟩
  rcases h.own.2 with hn | ⟨g, cap, cur, hv, hb1, hg, hc, hm, hsz, ht⟩
  · exact .inl hn
  · exact .inr ⟨g, cap, cur, hv, hb1, (keep g ⟨_, hg, rfl⟩).trans hg, hc, hm, hsz, ht⟩
/-- An object larger than an expression's box. -/
def Big (o : Obj) : Prop := ∃ cs t f, o = .cells cs t f ∧ 8 < cs.size
theorem big_box (h : Hd) (A : Option Addr) (len cap : Nat) : ¬ Big (xbox h A len cap) := by
  rintro ⟨cs, t, f, e, hs⟩
  injection e with e1
  rw [← e1] at hs
  simp at hs
/-- One nothing appended: in the row, where there is room; else in new memory, the old row as it was. -/
theorem append1 {b : Nat} {v : Value} {n : Nat} {xs : List Value} {W : World} (hown : W.ownsRow b 30 8 v n xs) (hnil : n = 0 → v = .slice none 0 0) (hb : b ≤ W.heap.size) (hn : n ≤ 1000000) (ad : Addr) (hnews : ∀ j u, zcell[j]? = some u → W.cell? (ad.add j) = some u) :
    ∃ g' cap' w', (Builtin.append_ #[22, 22] 22 #[v, .slice (some ad) 1 1]).run Tryz.prog W = .ok (.slice (some ⟨g', 0, none⟩) (n + 1) cap') w' ∧ w'.ownsRow b 30 8 (.slice (some ⟨g', 0, none⟩) (n + 1) cap') (n + 1) (xs ++ zcell) ∧
      W.grownBy w' (some g') ∧ b ≤ g' ∧ (g' < W.heap.size → v.ownBlock = some g' ∧ ∃ o, W.heap[g']? = some o ∧ Big o) := by
  obtain ⟨i0, hi, hz0, hz1, hz2⟩ := infoE_parts info_expr
  have h1 : ∀ u ∈ zcell, u.oneCell' = true := by intro u hu; simp at hu; rcases hu with rfl | rfl | rfl | rfl <;> rfl
  obtain ⟨v', w', hr, ho, hg, _, hat⟩ := run_append_own_at (P := Tryz.prog) W b 22 22 30 i0 _ 8 104 Tryz.underlying22 hi hz0 hz1 hz2 rfl (by decide) v n xs hown ad 1 1 zcell rfl hnews h1 (by unfold maxLen; omega) (by omega) hb
  rcases ho.2 with ⟨_, h0⟩ | ⟨g', cap', cur', rfl, hb', hg', hc', hm', hs', ht'⟩
  · omega
  refine ⟨g', cap', w', hr, ho, ?_, hb', ?_⟩
  all_goals rcases hown.2 with ⟨rfl, rfl⟩ | ⟨g, cap, cur, rfl, hbg, hgg, hnc, hcm, hcs, htake⟩
  · exact ⟨hg.os, hg.tape, hg.output, hg.size, fun k hk hne => hg.block k hk (by simp [Value.ownBlock])⟩
  · by_cases hroom : n + 1 ≤ cap
    · have hr2 := run_append_room (P := Tryz.prog) W 22 22 30 i0 Tryz.underlying22 hi g n cap cur hgg ad 1 1 zcell (by rw [hz1]; rfl) hnews h1 hroom (by rw [hz1, hcs]; show n * 8 + 8 ≤ _; omega)
      rw [hr] at hr2
      injection hr2 with e1 e2
      injection e1 with e3
      injection e3 with e4
      injection e4 with e5
      subst e5
      exact hg
    · have holds : ∀ j u, xs[j]? = some u → W.cell? ((⟨g, 0, none⟩ : Addr).add j) = some u := hown.cells (g := g) rfl
      have hr2 := run_append_grow (P := Tryz.prog) W 22 22 30 i0 _ Tryz.underlying22 hi hz0 ⟨g, 0, none⟩ n cap xs (by rw [hz1]; exact hown.1) holds ad 1 1 zcell (by rw [hz1]; rfl) hnews (by omega) (by omega) (growslice_fits (by omega) (by rw [hz2]; omega))
      rw [hr] at hr2
      injection hr2 with e1 e2
      rw [e2]
      exact ⟨rfl, rfl, rfl, by simp, fun k hk _ => (Below.drew (Below.refl _ W) |>.alloc (Nat.le_refl _) _).block k hk⟩
  · intro hlt
    rcases hat with h | h
    · simp [Value.ownBlock] at h
    · simp [Value.ownBlock] at h; omega
  · intro hlt
    by_cases hroom : n + 1 ≤ cap
    · rcases hat with h | h
      · simp only [Value.ownBlock, Option.some.injEq] at h
        subst h
        refine ⟨rfl, _, hgg, _, _, _, rfl, ?_⟩
        have hn0 : n ≠ 0 := fun e => by have := hnil e; cases this
        rw [hcs]; omega
      · simp [Value.ownBlock] at h; omega
    · have holds : ∀ j u, xs[j]? = some u → W.cell? ((⟨g, 0, none⟩ : Addr).add j) = some u := hown.cells (g := g) rfl
      have hr2 := run_append_grow (P := Tryz.prog) W 22 22 30 i0 _ Tryz.underlying22 hi hz0 ⟨g, 0, none⟩ n cap xs (by rw [hz1]; exact hown.1) holds ad 1 1 zcell (by rw [hz1]; rfl) hnews (by omega) (by omega) (growslice_fits (by omega) (by rw [hz2]; omega))
      rw [hr] at hr2
      injection hr2 with e1 e2
      injection e1 with e3
      injection e3 with e4
      injection e4 with e5
      omega
/-- The last one of a row, stored. -/
def put8 (W : World) (g o : Nat) (x : XQ) : World := ((((((((W.setCell ⟨g, o, none⟩ (.int .i64 x.1.k)).setCell ⟨g, o + 1, none⟩ (.int .i64 x.1.n)).setCell ⟨g, o + 2, none⟩ (.int .i64 x.1.vk)).setCell ⟨g, o + 3, none⟩ (.int .i64 x.1.vn)).setCell ⟨g, o + 4, none⟩ (.string x.1.vs)).setCell ⟨g, o + 5, none⟩ (.string x.1.tab)).setCell ⟨g, o + 6, none⟩ (.string x.1.col)).setCell ⟨g, o + 7, none⟩ (.slice x.2.1 x.2.2.1 x.2.2.2))
theorem put8_other {W : World} {g o k : Nat} (hk : k ≠ g) (x : XQ) : (put8 W g o x).heap[k]? = W.heap[k]? := by
  simp only [put8, World.setCell, Array.getElem?_modify]
  simp [Ne.symm hk]
theorem put8_size (W : World) (g o : Nat) (x : XQ) : (put8 W g o x).heap.size = W.heap.size := by simp [put8, World.setCell]
theorem put8_box {W : World} {g o : Nat} {cs : Array Value} {T : TypeId} (h : W.heap[g]? = some (.cells cs T (0, 0))) (x : XQ) : (put8 W g o x).heap[g]? = some (.cells ((((((((cs.setIfInBounds o (.int .i64 x.1.k)).setIfInBounds (o + 1) (.int .i64 x.1.n)).setIfInBounds (o + 2) (.int .i64 x.1.vk)).setIfInBounds (o + 3) (.int .i64 x.1.vn)).setIfInBounds (o + 4) (.string x.1.vs)).setIfInBounds (o + 5) (.string x.1.tab)).setIfInBounds (o + 6) (.string x.1.col)).setIfInBounds (o + 7) (.slice x.2.1 x.2.2.1 x.2.2.2)) T (0, 0)) :=
  setc_box (setc_box (setc_box (setc_box (setc_box (setc_box (setc_box (setc_box h o _) (o + 1) _) (o + 2) _) (o + 3) _) (o + 4) _) (o + 5) _) (o + 6) _) (o + 7) _
theorem set8_list (xs : List Value) (rest : List Value) (z0 z1 z2 z3 z4 z5 z6 z7 a0 a1 a2 a3 a4 a5 a6 a7 : Value) (o : Nat) (ho : o = xs.length) :
    (((((((((xs ++ z0 :: z1 :: z2 :: z3 :: z4 :: z5 :: z6 :: z7 :: rest).set o a0).set (o + 1) a1).set (o + 2) a2).set (o + 3) a3).set (o + 4) a4).set (o + 5) a5).set (o + 6) a6).set (o + 7) a7) = xs ++ a0 :: a1 :: a2 :: a3 :: a4 :: a5 :: a6 :: a7 :: rest := by
  subst ho
  rw [List.set_append_right _ _ (by omega), List.set_append_right _ _ (by omega), List.set_append_right _ _ (by omega), List.set_append_right _ _ (by omega), List.set_append_right _ _ (by omega), List.set_append_right _ _ (by omega), List.set_append_right _ _ (by omega), List.set_append_right _ _ (by omega)]
  simp
theorem set8_take (cur xs : List Value) (n : Nat) (hx : xs.length = n * 8) (ht : cur.take ((n + 1) * 8) = xs ++ zcell) (a0 a1 a2 a3 a4 a5 a6 a7 : Value) :
    (((((((((cur.set (n * 8) a0).set (n * 8 + 1) a1).set (n * 8 + 2) a2).set (n * 8 + 3) a3).set (n * 8 + 4) a4).set (n * 8 + 5) a5).set (n * 8 + 6) a6).set (n * 8 + 7) a7).take ((n + 1) * 8)) = xs ++ [a0, a1, a2, a3, a4, a5, a6, a7] := by
  have hcur : cur = xs ++ zcell ++ cur.drop ((n + 1) * 8) := by rw [← ht]; exact (List.take_append_drop _ _).symm
  generalize cur.drop ((n + 1) * 8) = rest at hcur
  have e := set8_list xs rest (.int .i64 0) (.int .i64 0) (.int .i64 0) (.int .i64 0) (.string ⟨#[]⟩) (.string ⟨#[]⟩) (.string ⟨#[]⟩) (.slice none 0 0) a0 a1 a2 a3 a4 a5 a6 a7 (n * 8) hx.symm
  rw [show cur = xs ++ .int .i64 0 :: .int .i64 0 :: .int .i64 0 :: .int .i64 0 :: .string ⟨#[]⟩ :: .string ⟨#[]⟩ :: .string ⟨#[]⟩ :: .slice none 0 0 :: rest by rw [hcur, List.append_assoc]; rfl, e]
  rw [show xs ++ a0 :: a1 :: a2 :: a3 :: a4 :: a5 :: a6 :: a7 :: rest = (xs ++ [a0, a1, a2, a3, a4, a5, a6, a7]) ++ rest by rw [List.append_assoc]; rfl]
  refine List.take_left' ?_
  rw [List.length_append, hx]; show n * 8 + 8 = _; omega
theorem put8_own {b g n cap : Nat} {xs : List Value} {W : World} (h : W.ownsRow b 30 8 (.slice (some ⟨g, 0, none⟩) (n + 1) cap) (n + 1) (xs ++ zcell)) (hx : xs.length = n * 8) (x : XQ) :
    (put8 W g (n * 8) x).ownsRow b 30 8 (.slice (some ⟨g, 0, none⟩) (n + 1) cap) (n + 1) (xs ++ xcell x) := by
  rcases h.2 with ⟨hbad, _⟩ | ⟨g', cap', cur, hv, hb, hg, hc, hm, hs, ht⟩
  · cases hbad
  have hg2 : g' = g := by injection hv with e1; injection e1 with e4; injection e4 with e5; exact e5.symm
  have hc2 : cap' = cap := by injection hv with _ _ e3; exact e3.symm
  subst hg2 hc2
  refine ⟨by rw [List.length_append, hx]; show n * 8 + 8 = _; omega, .inr ⟨g', cap', _, rfl, hb, put8_box hg x, hc, hm, ?_, ?_⟩⟩
  · simp only [Array.size_setIfInBounds]; exact hs
  · simp only [Array.toList_setIfInBounds]
    exact set8_take _ _ _ hx ht _ _ _ _ _ _ _ _
theorem PK.blk {b u : Nat} {W : World} {v : Value} {q : List XQ} {L : List Ex} (h : PK b u W v q L) : ∀ k, v.ownBlock = some k → k < W.heap.size := fun k e => (h.own.lt k e).2
/-- One more. -/
theorem PK.grow {b u : Nat} {W : World} {v : Value} {q : List XQ} {L : List Ex} (h : PK b u W v q L) {x : Ex} {A3 : Option Addr} {cap3 : Nat} (hle : x.kids.length ≤ cap3) (hx : XsB (Op8 b W v) W x.kids A3) {g' cap' : Nat} {w1 F : World}
    (ho : w1.ownsRow b 30 8 (.slice (some ⟨g', 0, none⟩) (L.length + 1) cap') (L.length + 1) (xcells q ++ zcell)) (hg : W.grownBy w1 (some g')) (hbg : b ≤ g') (hold : g' < W.heap.size → v.ownBlock = some g' ∧ ∃ o, W.heap[g']? = some o ∧ Big o)
    (hsz : F.heap.size = w1.heap.size) (hu : Boxed F u 22 (.slice (some ⟨g', 0, none⟩) (L.length + 1) cap')) (hF : ∀ k, k ≠ u → F.heap[k]? = (put8 w1 g' (L.length * 8) (x.hd, A3, x.kids.length, cap3)).heap[k]?) :
    PK b u F (.slice (some ⟨g', 0, none⟩) (L.length + 1) cap') (q ++ [(x.hd, A3, x.kids.length, cap3)]) (L ++ [x]) := by
  have hub := h.ub
  have hlb := h.le
  have hgs := hg.size
  have keep : ∀ k, Op8 b W v k → F.heap[k]? = W.heap[k]? := fun k hk => by
    have h1 := hk.1
    have h2 := hk.2.1
    have hne : k ≠ g' := fun e => by
      subst e
      exact hk.2.2.1 (hold h2).1
    rw [hF k (by omega), put8_other hne, hg.block k h2 (fun e => hne (by cases e; rfl))]
  have hB : ∀ k, Op8 b W v k → Op8 b F (.slice (some ⟨g', 0, none⟩) (L.length + 1) cap') k := fun k hk => by
    have h1 := hk.1
    have h2 := hk.2.1
    refine ⟨h1, by omega, fun e => ?_, hk.2.2.2.of (keep k hk)⟩
    simp only [Value.ownBlock, Option.some.injEq] at e
    subst e
    exact hk.2.2.1 (hold h2).1
  have hq : (xcells q).length = L.length * 8 := by rw [xcells_len, h.kids.len]
  have hr := put8_own ho hq (x.hd, A3, x.kids.length, cap3)
  refine ⟨hu, (h.kids.go keep hB).snoc ⟨rfl, rfl, hle, XsB.go keep hB _ _ hx⟩, ?_, fun e => by simp at e, by omega, hub⟩
  have e1 : xcells (q ++ [(x.hd, A3, x.kids.length, cap3)]) = xcells q ++ xcell (x.hd, A3, x.kids.length, cap3) := by rw [xcells_app]; simp [xcells]
  rw [e1, List.length_append]
  refine ⟨hr.1, ?_⟩
  rcases hr.2 with ⟨hbad, _⟩ | ⟨g2, cap2, cur, hv, hb2, hg2, hrest⟩
  · cases hbad
  have e2 : g' = g2 := by have := congrArg Value.ownBlock hv; simpa [Value.ownBlock] using this
  subst e2
  exact .inr ⟨g', cap2, cur, hv, hb2, (hF g' (by omega)).trans hg2, hrest⟩
theorem PK.kept {u : Nat} {W : World} {n : Nat} {x : XQ} {g' : Nat} {w1 F : World} (hg : W.grownBy w1 (some g')) {v : Value} (hold : g' < W.heap.size → v.ownBlock = some g' ∧ ∃ o, W.heap[g']? = some o ∧ Big o)
    (hF : ∀ k, k ≠ u → F.heap[k]? = (put8 w1 g' (n * 8) x).heap[k]?) (k : Nat) (hk : k < W.heap.size) (hu : k ≠ u) (hb : ∀ o, W.heap[k]? = some o → ¬ Big o) : F.heap[k]? = W.heap[k]? := by
  have hne : k ≠ g' := fun e => by
    subst e
    obtain ⟨_, o, ho, hbg⟩ := hold hk
    exact hb o ho hbg
  rw [hF k hu, put8_other hne, hg.block k hk (fun e => hne (by cases e; rfl))]
end Go.Proofs.YtpokpiphnggfpaaGreatDoor
end
section
namespace Go.Proofs.YtpokpiphnggfpaaGreatDoor
open Go.RowKit Go.Shelf

/-- A list that is told, in whatever memory. -/
def ListBack (w : World) (l : List Ex) (e : Ending) (w' : World) : Prop :=
  ∃ A cap, e = .returned (.slice A l.length cap) ∧ l.length ≤ cap ∧ XsAt w'.heap.size w' l A ∧ Below w.heap.size w w'
theorem XsB.rows {B : Nat → Prop} {w : World} : ∀ {l : List Ex} {g o : Nat}, XsB B w l (some ⟨g, o, none⟩) → ∃ q, XRs B w l q ∧ ∀ j u, (xcells q)[j]? = some u → w.cell? ⟨g, o + j, none⟩ = some u
  | [], g, o, _ => ⟨[], .nil, fun j u h => by simp [xcells] at h⟩
  | .mk h l :: r, g, o, H => by
    rw [XsB] at H
    obtain ⟨g', o', e, hg, ⟨A', cap, hc, hl, h1⟩, h2⟩ := H
    simp only [Option.some.injEq, Addr.mk.injEq] at e
    obtain ⟨rfl, rfl, _⟩ := e
    obtain ⟨q, hq, hn⟩ := XsB.rows h2
    refine ⟨(h, A', l.length, cap) :: q, .cons ⟨rfl, rfl, hl, h1⟩ hq, fun j u hj => ?_⟩
    have e : xcells ((h, A', l.length, cap) :: q) = xcell (h, A', l.length, cap) ++ xcells q := rfl
    have e8 : (xcell (h, A', l.length, cap)).length = 8 := rfl
    rw [e] at hj
    by_cases h8 : j < 8
    · rw [List.getElem?_append_left (by omega)] at hj
      obtain ⟨c0, c1, c2, c3, c4, c5, c6, c7⟩ := hc
      rcases (show j = 0 ∨ j = 1 ∨ j = 2 ∨ j = 3 ∨ j = 4 ∨ j = 5 ∨ j = 6 ∨ j = 7 by omega) with rfl | rfl | rfl | rfl | rfl | rfl | rfl | rfl
      all_goals
        simp only [xcell, List.getElem?_cons_zero, List.getElem?_cons_succ, Option.some.injEq] at hj
        subst hj
        assumption
    · rw [List.getElem?_append_right (by omega), e8] at hj
      have := hn (j - 8) u hj
      rwa [show o + 8 + (j - 8) = o + j by omega] at this
theorem rows_of {n : Nat} {w : World} {l : List Ex} {A : Option Addr} (h : XsAt n w l A) (hl : l ≠ []) :
    ∃ g o q, A = some ⟨g, o, none⟩ ∧ XRs (fun k => k < n) w l q ∧ ∀ j u, (xcells q)[j]? = some u → w.cell? ((⟨g, o, none⟩ : Addr).add j) = some u := by
  cases l with
  | nil => exact absurd rfl hl
  | cons x r =>
    obtain ⟨g, o, _, _, rfl, _⟩ := XsAt.one h
    obtain ⟨q, hq, hn⟩ := XsB.rows h
    refine ⟨g, o, q, rfl, hq, fun j u hj => ?_⟩
    rw [show (⟨g, o, none⟩ : Addr).add j = ⟨g, o + j, none⟩ by simp only [Addr.add]; split <;> simp_all]
    exact hn j u hj
theorem one_row (h : Hd) (l : List Ex) (A3 : Option Addr) (cap3 : Nat) (w1 : World) (b : Nat) (hle : l.length ≤ cap3) (hx : XsB (Bn b w1) w1 l A3) :
    XsAt (w1.alloc (.cells (xcell (h, A3, l.length, cap3)).toArray 30)).heap.size (w1.alloc (.cells (xcell (h, A3, l.length, cap3)).toArray 30)) [.mk h l] (some ⟨w1.heap.size, 0, none⟩) := by
  have hq : XRs (fun k => k < (w1.alloc (.cells (xcell (h, A3, l.length, cap3)).toArray 30)).heap.size) (w1.alloc (.cells (xcell (h, A3, l.length, cap3)).toArray 30)) [.mk h l] [(h, A3, l.length, cap3)] :=
    .cons ⟨rfl, rfl, hle, XsB.go (fun k hk => (ba w1 _).block k hk.2) (fun k hk => by rw [World.size_alloc]; have := hk.2; omega) _ _ hx⟩ .nil
  refine XRs.xsB (B := fun k => k < (w1.alloc (.cells (xcell (h, A3, l.length, cap3)).toArray 30)).heap.size) (by simp) hq fun j u hj => ?_
  rw [Nat.zero_add]
  have := xnews w1 _ 30 j u (by simpa [xcells] using hj)
  rwa [show (⟨w1.heap.size, 0, none⟩ : Addr).add j = ⟨w1.heap.size, j, none⟩ by simp only [Addr.add]; split <;> simp_all] at this
theorem cell_keptA {w w' : World} (hb : Below w.heap.size w w') {p : Addr} {v : Value} (h : w.cell? p = some v) : w'.cell? p = some v := cell_kept hb h
def sumTo (n n' j : Nat) : Nat := if j = 0 then 0 else if j = 1 then n else n + n'
def catQ (r r' : List XQ) (j : Nat) : List XQ := if j = 0 then [] else if j = 1 then r else r ++ r'
theorem prtX_and {x y : Ex} {h : Hd} (hk : h.k = 3) (hn : h.n = 2) : prtX (.mk h [x, y]) = prtX x ++ prtX y := by
  rw [prtX, if_pos ⟨hk, hn⟩]; simp [prtXs]
theorem prtX_one {h : Hd} {l : List Ex} (hk : ¬ (h.k = 3 ∧ h.n = 2)) : prtX (.mk h l) = [.mk h l] := by rw [prtX, if_neg hk]
theorem prt_len : ∀ (N : Nat) (x : Ex), cnt x ≤ N → FitX x → prtX x ≠ [] ∧ (prtX x).length ≤ cnt x := by
  intro N
  induction N with
  | zero => intro x hc; have := cnt_pos x; omega
  | succ N ih =>
    intro x hc hf
    obtain ⟨h, l⟩ := x
    by_cases hk : h.k = 3 ∧ h.n = 2
    · rw [FitX] at hf
      have hfb := hf.1
      unfold fitsB at hfb
      rw [if_neg (by omega), if_neg (by omega), if_pos hk.1] at hfb
      simp only [Bool.and_eq_true, decide_eq_true_eq, beq_iff_eq] at hfb
      have hla := hfb.1.1.2
      rw [hk.2] at hla
      obtain ⟨x, y, rfl⟩ := len2 (show l.length = 2 by simp [arI] at hla; omega)
      have hf2 := hf.2
      rw [FitXs, FitXs] at hf2
      simp only [cnt_mk, cntL] at hc ⊢
      obtain ⟨a1, a2⟩ := ih x (by omega) hf2.1
      obtain ⟨b1, b2⟩ := ih y (by omega) hf2.2.1
      rw [prtX_and hk.1 hk.2, List.length_append]
      exact ⟨by simp [a1], by omega⟩
    · rw [prtX_one hk]
      exact ⟨by simp, by have := cnt_pos (.mk h l); simp; omega⟩
end Go.Proofs.YtpokpiphnggfpaaGreatDoor
end
section
namespace Go.Proofs.YtpokpiphnggfpaaGreatDoor
open Go.RowKit Go.Shelf
attribute [local go_sem] Oper.semAt_some

theorem wp_append_run {P : Program} {o : Oper} {a : Act} {K : Act → World → Prop} {Q : Exit → Act → World → Prop} {W w' : World} (s x : Operand) (t : TypeId) (ho : o.op = .call { callee := .builtin .append, args := #[s, x], argTypes := #[t, t] }) {v y v' : Value} (hs : a.eval s = v) (hx : a.eval x = y)
    (hr : (Builtin.append_ #[t, t] o.type #[v, y]).run P W = .ok v' w') (hK : K (a.put o.dst v') w') : Oper.wp P o a W K Q := by
  unfold Oper.wp execOp
  simp only [ho, resolve, invoke, builtin, Sem.run_bind, Sem.run_pure, Result.andThen_ok, List.map_toArray, List.map_cons, List.map_nil, hs, hx, hr]
  exact hK
theorem wp_put8 {op : Oper} {a : Act} {w : World} {K : Act → World → Prop} {Q : Exit → Act → World → Prop} (x y : Operand) (ho : op.op = .store 30 x y) (g o : Nat) (q : XQ)
    (hx : a.eval x = .pointer (some ⟨g, o, none⟩)) (hy : a.eval y = XV q.1 q.2.1 q.2.2.1 q.2.2.2) (hc : ∀ i, i < 8 → ∃ u, w.cell? ⟨g, o + i, none⟩ = some u) (hf : ∀ o, w.frozen? ⟨g, o, none⟩ = false)
    (h : K (a.put op.dst undef) (put8 w g o q)) : op.wp Tryz.prog a w K Q := by
  refine wp_store_mid (P := Tryz.prog) 30 x y ho g o #[.int .i64 q.1.k, .int .i64 q.1.n, .int .i64 q.1.vk, .int .i64 q.1.vn, .string q.1.vs, .string q.1.tab, .string q.1.col, .slice q.2.1 q.2.2.1 q.2.2.2] hx hy ?_ (by kernel_rfl) (by simp [Value.oneCell']) ?_
  · intro j hj
    obtain ⟨u, hu⟩ := hc j hj
    exact ⟨by rw [hu]; rfl, hf _⟩
  · exact h
theorem wp_putsl {op : Oper} {a : Act} {w : World} {K : Act → World → Prop} {Q : Exit → Act → World → Prop} (x y : Operand) (ho : op.op = .store 22 x y) (u : Nat) (p : Option Addr) (l c : Nat)
    (hx : a.eval x = .pointer (some ⟨u, 0, none⟩)) (hy : a.eval y = .slice p l c) {v0 : Value} (hc : w.cell? ⟨u, 0, none⟩ = some v0) (hf : w.frozen? ⟨u, 0, none⟩ = false)
    (h : K (a.put op.dst undef) (w.setCell ⟨u, 0, none⟩ (.slice p l c))) : op.wp Tryz.prog a w K Q := by
  have hi : (Tryz.prog.info? 22).map (·.size) = some 1 := by kernel_rfl
  unfold Oper.wp execOp
  cases hq : Tryz.prog.info? 22 with
  | none => simp [hq] at hi
  | some i =>
    have hs : i.size = 1 := by simp [hq] at hi; omega
    simp only [ho, hx, hy, Instr.storeAt, Instr.sureAddr, Sem.run_bind, Sem.run_pure, Result.andThen_ok]
    have hadd : (⟨u, 0, none⟩ : Addr).add 0 = ⟨u, 0, none⟩ := by unfold Addr.add; rfl
    simp [storeVar, sizeOf, typeInfo, hq, Value.cells, hs, storeCells, hadd, run_store_slice, stored, hc, hf]
    exact h
theorem setc_os (W : World) (a : Addr) (v : Value) : (W.setCell a v).os = W.os := rfl
theorem setc_tape (W : World) (a : Addr) (v : Value) : (W.setCell a v).tape = W.tape := rfl
theorem setc_output (W : World) (a : Addr) (v : Value) : (W.setCell a v).output = W.output := rfl
theorem put8_os (W : World) (g o : Nat) (x : XQ) : (put8 W g o x).os = W.os := by simp only [put8, setc_os]
theorem put8_tape (W : World) (g o : Nat) (x : XQ) : (put8 W g o x).tape = W.tape := by simp only [put8, setc_tape]
theorem put8_output (W : World) (g o : Nat) (x : XQ) : (put8 W g o x).output = W.output := by simp only [put8, setc_output]
theorem row_cells {b g n cap : Nat} {xs : List Value} {W : World} (h : W.ownsRow b 30 8 (.slice (some ⟨g, 0, none⟩) (n + 1) cap) (n + 1) (xs ++ zcell)) (hx : xs.length = n * 8) :
    (∀ i, i < 8 → ∃ u, W.cell? ⟨g, n * 8 + i, none⟩ = some u) ∧ (∀ o, W.frozen? ⟨g, o, none⟩ = false) ∧ g < W.heap.size := by
  rcases h.2 with ⟨hbad, _⟩ | ⟨g', cap', cur, hv, hb, hg, hc, hm, hs, ht⟩
  · cases hbad
  have e2 : g = g' := by have := congrArg Value.ownBlock hv; simpa [Value.ownBlock] using this
  subst e2
  refine ⟨fun i hi => ?_, fun o => by simp only [World.frozen?, hg]; rfl, (Array.getElem?_eq_some_iff.1 hg).1⟩
  have := h.cells (g := g) rfl (n * 8 + i)
  rw [List.getElem?_append_right (by omega), hx, Nat.add_sub_cancel_left] at this
  obtain ⟨u, hu⟩ : ∃ u, zcell[i]? = some u := ⟨_, List.getElem?_eq_getElem (by simpa using hi)⟩
  have := this u hu
  rw [show (⟨g, 0, none⟩ : Addr).add (n * 8 + i) = ⟨g, n * 8 + i, none⟩ by simp only [Addr.add]; split <;> simp_all] at this
  exact ⟨u, this⟩
theorem boxed_cells {W : World} {u : Nat} {t : TypeId} {v : Value} (h : Boxed W u t v) : W.cell? ⟨u, 0, none⟩ = some v ∧ W.frozen? ⟨u, 0, none⟩ = false := ⟨h.cell, h.frozen⟩
theorem op8_next {b : Nat} {v : Value} {W W' : World} {l : List Ex} {A : Option Addr} (h : XsB (Op8 b W v) W l A) (hb : Below W.heap.size W W') : XsB (Op8 b W' v) W' l A :=
  XsB.go (fun k hk => hb.block k hk.2.1) (fun k hk => ⟨hk.1, Nat.lt_of_lt_of_le hk.2.1 hb.size, hk.2.2.1, hk.2.2.2.of (hb.block k hk.2.1)⟩) _ _ h
theorem copy_op8 {b u : Nat} {W Wc W' : World} {v : Value} {q : List XQ} {L l : List Ex} {A : Option Addr} (h : PK b u W v q L) (hc : Below W.heap.size W Wc) (hx : XsB (Bn Wc.heap.size W') W' l A) : XsB (Op8 b W' v) W' l A :=
  XsB.go (fun _ _ => rfl) (fun k hk => ⟨by have := h.le; have := hc.size; have := hk.1.1; omega, hk.1.2, fun e => by have := h.blk k e; have := hc.size; have := hk.1.1; omega, hk.2⟩) _ _ (XsB.isC hx)
theorem zero_news {W : World} {z : Nat} (h : W.heap[z]? = some (.cells zcell.toArray 30 (0, 0))) : ∀ j u, zcell[j]? = some u → W.cell? ((⟨z, 0, none⟩ : Addr).add j) = some u := by
  intro j u hj
  rw [show (⟨z, 0, none⟩ : Addr).add j = ⟨z, j, none⟩ by simp only [Addr.add]; split <;> simp_all]
  simp only [World.cell?, h, List.getElem?_toArray]
  exact hj
theorem put8_comm {w : World} {g u n : Nat} {x : XQ} {v : Value} (hug : u ≠ g) {cs : Array Value} {T : TypeId} (hg : w.heap[g]? = some (.cells cs T (0, 0))) (k : Nat) (hk : k ≠ u) : (put8 (w.setCell ⟨u, 0, none⟩ v) g n x).heap[k]? = (put8 w g n x).heap[k]? := by
  by_cases hkg : k = g
  · subst hkg
    have e0 : (w.setCell ⟨u, 0, none⟩ v).heap[k]? = some (.cells cs T (0, 0)) := (setc_other (W := w) (U := u) (j := 0) hk v).trans hg
    have e1 := put8_box (W := w.setCell ⟨u, 0, none⟩ v) (g := k) (o := n) e0 x
    have e2 := put8_box (W := w) (g := k) (o := n) hg x
    rw [e1, e2]
  · rw [put8_other hkg, put8_other hkg, setc_other hk]
theorem round_keep {u g' : Nat} {W Wc w1 F : World} {v : Value} (hb : Below W.heap.size W Wc) (hg : Wc.grownBy w1 (some g')) (hold : g' < Wc.heap.size → v.ownBlock = some g' ∧ ∃ o, Wc.heap[g']? = some o ∧ Big o) {n : Nat} {x : XQ}
    (hF : ∀ k, k ≠ u → F.heap[k]? = (put8 w1 g' (n * 8) x).heap[k]?) (k : Nat) (hk : k < W.heap.size) (hku : k ≠ u) (hbg : ∀ o, W.heap[k]? = some o → ¬ Big o) : F.heap[k]? = W.heap[k]? :=
  (PK.kept hg hold hF k (Nat.lt_of_lt_of_le hk hb.size) hku (fun o ho => hbg o ((hb.block k hk).symm.trans ho))).trans (hb.block k hk)
theorem not_big {o : Obj} (h : o.isCells = false) : ¬ Big o := by
  rintro ⟨cs, t, f, rfl, _⟩
  cases h
theorem round_from {B u : Nat} {W F : World} (keep : ∀ k, k < W.heap.size → k ≠ u → (∀ o, W.heap[k]? = some o → ¬ Big o) → F.heap[k]? = W.heap[k]?) (hsz : W.heap.size ≤ F.heap.size) (hu : IsC W u) : KeepsFrom B W F := by
  constructor
  · exact hsz
  · intro k o _ hk hc
    have hne : k ≠ u := by
      rintro rfl
      obtain ⟨o', h1, h2⟩ := hu
      have e := hk.symm.trans h1
      cases e
      rw [hc] at h2
      cases h2
    have hnb : ∀ o', W.heap[k]? = some o' → ¬ Big o' := fun o' h1 => by
      have e := hk.symm.trans h1
      cases e
      exact not_big hc
    exact (keep k (Array.getElem?_eq_some_iff.1 hk).1 hne hnb).trans hk
theorem round_kp {n₀ u g' : Nat} {S : Nat → Prop} {W Wc w1 F : World} (hS : S u) (hb : Below W.heap.size W Wc) (hg : Wc.grownBy w1 (some g')) {n : Nat} {x : XQ}
    (hF : ∀ k, k ≠ u → F.heap[k]? = (put8 w1 g' (n * 8) x).heap[k]?) (hsz : F.heap.size = w1.heap.size) (ho : F.os = w1.os) (ht : F.tape = w1.tape) (hp : F.output = w1.output) (hn : n₀ ≤ u) (hng : n₀ ≤ g') (hnW : n₀ ≤ W.heap.size)
    (keep : ∀ k, k < W.heap.size → k ≠ u → (∀ o, W.heap[k]? = some o → ¬ Big o) → F.heap[k]? = W.heap[k]?) : KpS n₀ S Big W F := by
  have hs1 := hb.size
  have hs2 := hg.size
  constructor
  · refine ⟨ho.trans (hg.os.trans hb.os), ht.trans (hg.tape.trans hb.tape), hp.trans (hg.output.trans hb.output), by omega, fun k hk => ?_⟩
    have h1 : k ≠ g' := by omega
    have h2 : k ≠ u := by omega
    exact (hF k h2).trans ((put8_other h1 x).trans ((hg.block k (by omega) (fun e => h1 (by cases e; rfl))).trans (hb.block k (by omega))))
  · omega
  · intro k o hk _ hSk hbg
    have hne : k ≠ u := fun e => hSk (by rw [e]; exact hS)
    have hnb : ∀ o', W.heap[k]? = some o' → ¬ Big o' := fun o' h1 => by
      have e := hk.symm.trans h1
      cases e
      exact hbg
    exact (keep k (Array.getElem?_eq_some_iff.1 hk).1 hne hnb).trans hk
theorem not_big1 (v : Value) (t : TypeId) : ¬ Big (.cells #[v] t (0, 0)) := by
  rintro ⟨cs, t', f, e, hs⟩
  injection e with e1
  rw [← e1] at hs
  simp at hs
theorem row_obj {b g n cap : Nat} {xs : List Value} {W : World} (h : W.ownsRow b 30 8 (.slice (some ⟨g, 0, none⟩) (n + 1) cap) (n + 1) xs) : ∃ cs, W.heap[g]? = some (.cells cs 30 (0, 0)) := by
  rcases h.2 with ⟨hbad, _⟩ | ⟨g', cap', cur, hv, hb, hg, hc, hm, hs, ht⟩
  · cases hbad
  have e2 : g = g' := by have := congrArg Value.ownBlock hv; simpa [Value.ownBlock] using this
  subst e2
  exact ⟨cur, hg⟩
def kof (c : Int) (ys : List (Ex × Nat)) : List Ex := (ys.map (·.1)).filter (fun y => y.hd.k == c)
theorem kof_snoc (c : Int) (ys : List (Ex × Nat)) (x : Ex) (d : Nat) : kof c (ys ++ [(x, d)]) = kof c ys ++ (if (x.hd.k == c) = true then [x] else []) := by
  unfold kof
  rw [List.map_append, List.filter_append]
  cases h : x.hd.k == c <;> simp [h]
theorem kof_len (c : Int) (ys : List (Ex × Nat)) : (kof c ys).length ≤ ys.length := by
  unfold kof
  exact Nat.le_trans (List.length_filter_le _ _) (by simp)
end Go.Proofs.YtpokpiphnggfpaaGreatDoor
end
section
namespace Go.Proofs.YtpokpiphnggfpaaGreatDoor
open Go.RowKit Go.Shelf
attribute [local go_sem] Oper.semAt_some

end Go.Proofs.YtpokpiphnggfpaaGreatDoor
end
section
namespace Go.Proofs.YtpokpiphnggfpaaGreatDoor
open Go.RowKit Go.Shelf

abbrev tens : ByteArray := ⟨#[48, 49, 50, 51, 52, 53, 54, 55, 56, 57]⟩
theorem tens_at (d : Nat) (hd : d < 10) (acc : List UInt8) : tens.extract d (d + 1) ++ bstr acc = bstr (UInt8.ofNat (48 + d) :: acc) := by
  have h : ∀ d : Fin 10, tens.extract d.1 (d.1 + 1) = bstr [UInt8.ofNat (48 + d.1)] := by decide +kernel
  have := h ⟨d, hd⟩
  simp only at this
  rw [this]
  apply ByteArray.ext
  simp [bstr]
theorem dec_small {u : Nat} (h : u < 10) : Lib.decDigits u = [UInt8.ofNat (48 + u)] := by rw [Lib.decDigits, dif_pos h]
theorem dec_big {u : Nat} (h : ¬ u < 10) : Lib.decDigits u = Lib.decDigits (u / 10) ++ [UInt8.ofNat (48 + u % 10)] := by rw [Lib.decDigits, dif_neg h]
theorem dec_len : ∀ u : Nat, (Lib.decDigits u).length ≤ u + 1 := by
  intro u
  induction u using Nat.strongRecOn with
  | _ u ih =>
    by_cases h : u < 10
    · rw [dec_small h]; simp
    · rw [dec_big h]
      have := ih (u / 10) (by omega)
      simp; omega

/-- What is left, and what has been told, of a number's digits. -/
def DigAt (N m : Nat) (acc : List UInt8) : Prop := (m = N ∧ acc = []) ∨ (acc ≠ [] ∧ (if m = 0 then [] else Lib.decDigits m) ++ acc = Lib.decDigits N)
theorem dig_next {N m : Nat} {acc : List UInt8} (h : DigAt N m acc) (hgo : 0 < m ∨ acc = []) : DigAt N (m / 10) (UInt8.ofNat (48 + m % 10) :: acc) := by
  refine .inr ⟨by simp, ?_⟩
  have e : (if m / 10 = 0 then [] else Lib.decDigits (m / 10)) ++ [UInt8.ofNat (48 + m % 10)] = Lib.decDigits m := by
    by_cases hm : m < 10
    · rw [dec_small hm, if_pos (by omega), Nat.mod_eq_of_lt hm]; rfl
    · rw [dec_big hm, if_neg (by omega)]
  rw [← List.singleton_append, ← List.append_assoc, e]
  rcases h with ⟨rfl, rfl⟩ | ⟨ha, he⟩
  · simp
  · have hm : m ≠ 0 := by rcases hgo with h | h; omega; exact absurd h ha
    rw [if_neg hm] at he
    exact he
theorem dig_end {N : Nat} {acc : List UInt8} (h : DigAt N 0 acc) (ha : acc ≠ []) : acc = Lib.decDigits N := by
  rcases h with ⟨_, h⟩ | ⟨_, h⟩
  · exact absurd h ha
  · simpa using h
theorem dig_len {N m : Nat} {acc : List UInt8} (h : DigAt N m acc) : acc.length ≤ N + 1 := by
  rcases h with ⟨_, rfl⟩ | ⟨_, h⟩
  · simp
  · have h1 := congrArg List.length h
    have h2 := dec_len N
    rw [List.length_append] at h1
    omega
theorem bstr_size (l : List UInt8) : (bstr l).size = l.length := by
  show l.toArray.size = _
  simp
/-- How far the loop has to go. -/
def digLeft (n s : Value) : Nat := (intOf n).toNat + (match s with | .string b => (if b.size = 0 then 1 else 0) | _ => 0)
theorem digLeft_at (m : Nat) (acc : List UInt8) : digLeft (.int .i64 m) (.string (bstr acc)) = m + (if acc.length = 0 then 1 else 0) := by
  simp [digLeft, intOf, bstr_size]
theorem bstr_list (l : List UInt8) : (bstr l).toList = l := by rw [ByteArray.toList_eq]; simp [bstr]

theorem dbl_snoc (l : List UInt8) (c : UInt8) : dbl (l ++ [c]) = dbl l ++ (if c = 39 then [39, 39] else [c]) := by
  simp [dbl]
theorem take_snoc (s : ByteArray) (k : Nat) (h : k < s.size) : s.data.toList.take (k + 1) = s.data.toList.take k ++ [s[k]] := by
  rw [List.take_succ_eq_append_getElem (by simpa using h)]; rfl
/-- The text so far: a quote, and the first k letters, each quote of them doubled. -/
def shownTo (s : ByteArray) (k : Nat) : List UInt8 := 39 :: dbl (s.data.toList.take k)
theorem shown_len (s : ByteArray) (k : Nat) : (shownTo s k).length ≤ 2 * k + 1 := by
  have h := dbl_le (s.data.toList.take k)
  have : (s.data.toList.take k).length ≤ k := List.length_take_le _ _
  unfold shownTo
  simp
  omega
theorem one_of (s : ByteArray) (k : Nat) (h : k < s.size) : s.extract k (k + 1) = bstr [s[k]] := by
  apply ByteArray.ext
  rw [ByteArray.data_extract]
  apply Array.ext'
  rw [Array.toList_extract]
  have hk : k < s.data.toList.length := by simpa using h
  simp only [bstr, List.extract_eq_take_drop, Nat.add_sub_cancel_left]
  rw [List.drop_eq_getElem_cons hk]
  rfl
theorem shown_one (s : ByteArray) (k : Nat) (h : k < s.size) : bstr (shownTo s k) ++ s.extract k (k + 1) = bstr (shownTo s k ++ [s[k]]) := by
  rw [one_of s k h]
  apply ByteArray.ext
  simp [bstr]
theorem shown_q (l : List UInt8) : bstr l ++ qt = bstr (l ++ [39]) := by
  apply ByteArray.ext
  simp [bstr]

theorem shown_next_q (s : ByteArray) (k : Nat) (h : k < s.size) (hc : ((s[k].toNat : Int) == 39) = true) : bstr (shownTo s k) ++ s.extract k (k + 1) ++ qt = bstr (shownTo s (k + 1)) := by
  have e : s[k] = 39 := by
    apply UInt8.toNat_inj.1
    have : (s[k].toNat : Int) = 39 := by simpa using hc
    show s[k].toNat = 39
    omega
  rw [shown_one s k h, shown_q]
  congr 1
  unfold shownTo
  rw [take_snoc s k h, dbl_snoc, e, if_pos rfl]
  simp
theorem shown_next (s : ByteArray) (k : Nat) (h : k < s.size) (hc : ((s[k].toNat : Int) == 39) = false) : bstr (shownTo s k) ++ s.extract k (k + 1) = bstr (shownTo s (k + 1)) := by
  have e : ¬ s[k] = 39 := by
    intro he
    rw [he] at hc
    exact absurd hc (by decide)
  rw [shown_one s k h]
  congr 1
  unfold shownTo
  rw [take_snoc s k h, dbl_snoc, if_neg e]
  simp

end Go.Proofs.YtpokpiphnggfpaaGreatDoor
end
section
namespace Go.Proofs.YtpokpiphnggfpaaGreatDoor
section
open Go.RowKit Go.Shelf

/-- The signs, as the document lays them. -/
def sgnCells : Array Value := (btw.map fun b => Value.string ⟨b.toArray⟩).toArray
theorem sgnCells_at (w : World) {j : Nat} {b : List UInt8} (h : btw[j]? = some b) : (w.alloc (.cells sgnCells 9)).cell? ⟨w.heap.size, j, none⟩ = some (.string ⟨b.toArray⟩) := by
  have hn := (MapKept.heap_alloc w (.cells sgnCells 9)).1
  unfold World.cell?
  rw [hn]
  simp [sgnCells, h]
def wrd : List (List UInt8) := [[], [67, 79, 85, 78, 84], [67, 79, 85, 78, 84], [83, 85, 77], [77, 73, 78], [77, 65, 88]]
def wrdCells : Array Value := (wrd.map fun b => Value.string ⟨b.toArray⟩).toArray
theorem wrdCells_is : wrdCells = #[.string ⟨#[]⟩, .string ⟨#[67, 79, 85, 78, 84]⟩, .string ⟨#[67, 79, 85, 78, 84]⟩, .string ⟨#[83, 85, 77]⟩, .string ⟨#[77, 73, 78]⟩, .string ⟨#[77, 65, 88]⟩] := by rfl
theorem wrdCells_at (w : World) {j : Nat} {b : List UInt8} (h : wrd[j]? = some b) : (w.alloc (.cells wrdCells 9)).cell? ⟨w.heap.size, j, none⟩ = some (.string ⟨b.toArray⟩) := by
  have hn := (MapKept.heap_alloc w (.cells wrdCells 9)).1
  unfold World.cell?
  rw [hn]
  simp [wrdCells, h]
end
section
open Go.RowKit Go.Shelf

end
end Go.Proofs.YtpokpiphnggfpaaGreatDoor
end
section
namespace Go.Proofs.YtpokpiphnggfpaaGreatDoor
open Go.RowKit Go.Shelf

theorem run_neV (k n : Int) (s : ByteArray) (k' n' : Int) (s' : ByteArray) (w : World) :
    (binOp .neq 28 (VV k n s) (VV k' n' s')).run Tryz.prog w = .ok (.bool (!eqV k n s k' n' s')) w := by
  have u3 := Tryz.underlying3
  have a3 := Tryz.isAgg3
  have z3 := Tryz.sizeOf3
  have u9 := Tryz.underlying9
  have a9 := Tryz.isAgg9
  have z9 := Tryz.sizeOf9
  have hS : Tryz.prog.underlying 28 = some (.struct (Tryz.prog.fieldsOf 28)) := by kernel_rfl
  have hp : Tryz.prog.stoodInHeld 28 = false := by kernel_rfl
  rw [run_neq_struct, show (10000 : Nat) = 9999 + 1 from rfl, run_equalIn_agg w 9999 28 _ _ hS hp]
  simp only [Program.fieldsOf, Tryz.underlying28]
  go_simp
  unfold eqV
  by_cases h1 : k = k' <;> by_cases h2 : n = n' <;> by_cases h3 : s.toList = s'.toList <;> simp [h1, h2, h3]
/-- Are two heads the same? -/
def hdEq (h h' : Hd) : Bool := h.k == h'.k && h.n == h'.n && eqV h.vk h.vn h.vs h'.vk h'.vn h'.vs && h.tab.toList == h'.tab.toList && h.col.toList == h'.col.toList
mutual
def sameX : Ex → Ex → Bool
  | .mk h l, .mk h' l' => hdEq h h' && sameXs l l'
def sameXs : List Ex → List Ex → Bool
  | [], [] => true
  | x :: r, y :: r' => sameX x y && sameXs r r'
  | [], _ :: _ => false
  | _ :: _, [] => false
end
theorem sameX_mk (h h' : Hd) (l l' : List Ex) : sameX (.mk h l) (.mk h' l') = (hdEq h h' && sameXs l l') := by rw [sameX]
theorem sameXs_len : ∀ (l l' : List Ex), l.length ≠ l'.length → sameXs l l' = false
  | [], [], h => absurd rfl h
  | [], _ :: _, _ => by rw [sameXs]
  | _ :: _, [], _ => by rw [sameXs]
  | x :: r, y :: r', h => by
    rw [sameXs, sameXs_len r r' (by simpa using h)]
    simp
theorem sameXs_take : ∀ (l l' : List Ex) (k : Nat) (x y : Ex), l[k]? = some x → l'[k]? = some y → sameXs (l.take (k + 1)) (l'.take (k + 1)) = (sameXs (l.take k) (l'.take k) && sameX x y)
  | [], _, k, x, y, h, _ => by simp at h
  | _ :: _, [], k, x, y, _, h => by simp at h
  | a :: r, b :: r', 0, x, y, h, h' => by
    obtain rfl : a = x := by simpa using h
    obtain rfl : b = y := by simpa using h'
    simp [sameXs]
  | a :: r, b :: r', k + 1, x, y, h, h' => by
    have := sameXs_take r r' k x y (by simpa using h) (by simpa using h')
    rw [List.take_succ_cons, List.take_succ_cons, List.take_succ_cons, List.take_succ_cons, sameXs, sameXs, this, Bool.and_assoc]
theorem sameXs_no : ∀ (l l' : List Ex) (k : Nat), sameXs (l.take k) (l'.take k) = false → l.length = l'.length → sameXs l l' = false
  | [], [], k, h, _ => by simp [sameXs] at h
  | [], _ :: _, _, _, h => by simp at h
  | _ :: _, [], _, _, h => by simp at h
  | a :: r, b :: r', 0, h, _ => by simp [sameXs] at h
  | a :: r, b :: r', k + 1, h, hl => by
    rw [List.take_succ_cons, List.take_succ_cons, sameXs] at h
    rw [sameXs]
    cases hs : sameX a b with
    | false => rfl
    | true =>
      rw [hs, Bool.true_and] at h
      rw [Bool.true_and]
      exact sameXs_no r r' k h (by simpa using hl)
/-- Two parts held against each other. -/
def SamesAt (f : FuncId) (w : World) (x y : Ex) : Prop :=
  ∀ (w1 : World) (A : Option Addr) (cap : Nat) (B : Option Addr) (cap' : Nat), Below w.heap.size w w1 → XsAt w1.heap.size w1 x.kids A → x.kids.length ≤ cap → XsAt w1.heap.size w1 y.kids B → y.kids.length ≤ cap' →
    Calls Tryz.prog f #[XV x.hd A x.kids.length cap, XV y.hd B y.kids.length cap'] w1 fun e w' => e = .returned (.bool (sameX x y)) ∧ Below w1.heap.size w1 w'
end Go.Proofs.YtpokpiphnggfpaaGreatDoor
end
section
namespace Go.Proofs.YtpokpiphnggfpaaGreatDoor
section
open Go.RowKit Go.Shelf
attribute [local go_sem] Oper.semAt_some

end
section
open Go.RowKit Go.Shelf
attribute [local go_sem] Oper.semAt_some

def EV (x : Ex) (v : Value) (w : World) : Prop := ∃ A cap, v = XV x.hd A x.kids.length cap ∧ x.kids.length ≤ cap ∧ XsAt w.heap.size w x.kids A
def LV (l : List Ex) (v : Value) (w : World) : Prop := ∃ A cap, v = .slice A l.length cap ∧ l.length ≤ cap ∧ XsAt w.heap.size w l A
theorem EV.next {x : Ex} {v : Value} {w w' : World} (hb : Bel w w') (h : EV x v w) : EV x v w' := by
  obtain ⟨A, cap, e, hl, hx⟩ := h
  exact ⟨A, cap, e, hl, XsAt.next hx hb⟩
theorem LV.next {l : List Ex} {v : Value} {w w' : World} (hb : Bel w w') (h : LV l v w) : LV l v w' := by
  obtain ⟨A, cap, e, hl, hx⟩ := h
  exact ⟨A, cap, e, hl, XsAt.next hx hb⟩
theorem EV.keeps (x : Ex) : Keeps Bel (EV x) := fun _ _ _ hb h => EV.next hb h
theorem LV.keeps (l : List Ex) : Keeps Bel (LV l) := fun _ _ _ hb h => LV.next hb h
theorem EV.leaf (h : Hd) (w : World) : EV (.mk h []) (XV h none 0 0) w := ⟨none, 0, rfl, Nat.le_refl _, by show XsB _ _ [] _; rw [XsB]; trivial⟩
theorem LV.nil (w : World) : LV [] (.slice none 0 0) w := ⟨none, 0, rfl, Nat.le_refl _, by rw [XsAt, XsB]; trivial⟩
theorem EV.mk' {l : List Ex} {v : Value} {w : World} (h : Hd) (hl : LV l v w) : ∃ A cap, v = .slice A l.length cap ∧ EV (.mk h l) (XV h A l.length cap) w := by
  obtain ⟨A, cap, e, hle, hx⟩ := hl
  exact ⟨A, cap, e, A, cap, rfl, hle, hx⟩
theorem LV.ofBack {w w' : World} {l : List Ex} {e : Ending} (h : ListBack w l e w') : ∃ v, e = .returned v ∧ Bel w w' ∧ LV l v w' := by
  obtain ⟨A, cap, rfl, hl, hx, hb⟩ := h
  exact ⟨_, rfl, hb, A, cap, rfl, hl, hx⟩
theorem EV.ofCopy {w w' : World} {x : Ex} {e : Ending} (h : CopyE w x e w') : ∃ v, e = .returned v ∧ Bel w w' ∧ EV x v w' := by
  obtain ⟨A, cap, rfl, hl, hx, hb⟩ := h
  exact ⟨_, rfl, hb, A, cap, rfl, hl, XsB.go (fun _ _ => rfl) (fun k hk => hk.2) _ _ hx⟩

/-! The program's own. -/
theorem ev_check {x : Ex} {v : Value} {w : World} (h : EV x v w) (hsm : AllSm x) (hc : cnt x ≤ 999999) (hT : Tabs w) {c : Int} (e : chkI x = c) :
    Calls Tryz.prog 41 #[v] w fun e w' => ∃ u, e = .returned u ∧ Bel w w' ∧ u = .int .i64 c := by
  obtain ⟨hd, l⟩ := x
  obtain ⟨A, cap, rfl, hl, hx⟩ := h
  refine (xcheck_any hd l A cap w hx hl hsm hc hT).mono ?_
  rintro _ w' ⟨rfl, hb⟩
  exact ⟨_, rfl, hb, by rw [e]⟩
theorem ev_safe {x : Ex} {v : Value} {w : World} (h : EV x v w) (hsm : AllSm x) (hc : cnt x ≤ 999999) (hT : Tabs w) {c : Bool} (e : safeB x = c) :
    Calls Tryz.prog 40 #[v] w fun e w' => ∃ u, e = .returned u ∧ Bel w w' ∧ u = .bool c := by
  obtain ⟨hd, l⟩ := x
  obtain ⟨A, cap, rfl, hl, hx⟩ := h
  refine (safe_any hd l A cap w hx hl hsm hc hT).mono ?_
  rintro _ w' ⟨rfl, hb⟩
  exact ⟨_, rfl, hb, by rw [e]⟩
theorem ev_arity {n : Int} {w : World} {c : Int} (e : arI n = c) :
    Calls Tryz.prog 88 #[.int .i64 n] w fun e w' => ∃ u, e = .returned u ∧ Bel w w' ∧ u = .int .i64 c :=
  (arity_any n w).mono fun _ w' ⟨h1, h2⟩ => ⟨_, h1, by rw [h2]; exact Below.refl _ _, by rw [e]⟩

/-! Operations. -/
section
variable {o : Oper} {a : Act} {w : World}
theorem info_is : ∃ i, Tryz.prog.info? 30 = some i ∧ i.zero = some (XV ⟨0, 0, 0, 0, ⟨#[]⟩, ⟨#[]⟩, ⟨#[]⟩⟩ none 0 0) ∧ i.size = 8 ∧ i.bytes = 104 := infoE_parts info_expr
theorem XC.range {g p : Nat} {h : Hd} {A : Option Addr} {len cap : Nat} (c : XC w g p h A len cap) : w.rangeAt g p [.int .i64 h.k, .int .i64 h.n, .int .i64 h.vk, .int .i64 h.vn, .string h.vs, .string h.tab, .string h.col, .slice A len cap] := by
  intro j v hj
  obtain ⟨c0, c1, c2, c3, c4, c5, c6, c7⟩ := c
  have hl : j < 8 := by have := (List.getElem?_eq_some_iff.1 hj).1; simpa using this
  rcases (show j = 0 ∨ j = 1 ∨ j = 2 ∨ j = 3 ∨ j = 4 ∨ j = 5 ∨ j = 6 ∨ j = 7 by omega) with rfl | rfl | rfl | rfl | rfl | rfl | rfl | rfl
  all_goals
    simp only [List.getElem?_cons_zero, List.getElem?_cons_succ, Option.some.injEq] at hj
    subst hj
    assumption
theorem run_ldE {x : Operand} (ho : o.op = .load 30 x) {g p : Nat} {h : Hd} {A : Option Addr} {len cap : Nat} (hx : a.eval x = .pointer (some ⟨g, p, none⟩)) (hc : XC w g p h A len cap) :
    (execOp a.eval o).run Tryz.prog w = .ok (.value (XV h A len cap)) w := by
  unfold execOp
  simp only [ho, hx]
  rw [Sem.run_bind, run_loadAt_mid w g p 30 _ _ hc.range Tryz.underlying30 rfl (by kernel_rfl)]
  rfl
theorem XC.ofBox {u : Nat} {h : Hd} {A : Option Addr} {len cap : Nat} (e : w.heap[u]? = some (xbox h A len cap)) : XC w u 0 h A len cap := by
  obtain ⟨⟨c0, c1, c2, c3, c4, c5, c6, c7⟩, _⟩ := cell8 e
  exact ⟨c0, c1, c2, c3, c4, c5, c6, c7⟩
theorem run_alloc8 (ho : o.op = .alloc 30) : (execOp a.eval o).run Tryz.prog w = .ok (.value (.pointer (some ⟨w.heap.size, 0, none⟩))) (w.alloc x0) := by
  unfold execOp
  simp only [ho]
  go_simp
theorem run_zeroE (ho : o.op = .build 30 #[]) : (execOp a.eval o).run Tryz.prog w = .ok (.value (XV ⟨0, 0, 0, 0, ⟨#[]⟩, ⟨#[]⟩, ⟨#[]⟩⟩ none 0 0)) w := by
  unfold execOp
  simp only [ho]
  go_simp
theorem bs1_run (h : Hd) (A : Option Addr) (len cap : Nat) : (Instr.buildSlice 22 1 #[(0, XV h A len cap)]).run Tryz.prog w = .ok (.slice (some ⟨w.heap.size, 0, none⟩) 1 1) (w.alloc (.cells (xcell (h, A, len, cap)).toArray 30)) := by
  go_simp
  rfl
theorem bs2_run (h h' : Hd) (A A' : Option Addr) (len cap len' cap' : Nat) : (Instr.buildSlice 22 2 #[(0, XV h A len cap), (1, XV h' A' len' cap')]).run Tryz.prog w = .ok (.slice (some ⟨w.heap.size, 0, none⟩) 2 2) (w.alloc (.cells (xcell (h, A, len, cap) ++ xcell (h', A', len', cap')).toArray 30)) := by
  go_simp
  rfl
theorem run_bs1 {x : Operand} (ho : o.op = .buildSlice 22 1 #[(0, x)]) {h : Hd} {A : Option Addr} {len cap : Nat} (hx : a.eval x = XV h A len cap) :
    (execOp a.eval o).run Tryz.prog w = .ok (.value (.slice (some ⟨w.heap.size, 0, none⟩) 1 1)) (w.alloc (.cells (xcell (h, A, len, cap)).toArray 30)) := by
  unfold execOp
  simp only [ho, List.map_toArray, List.map_cons, List.map_nil, hx]
  rw [Sem.run_bind, bs1_run]
  rfl
theorem run_bs2 {x y : Operand} (ho : o.op = .buildSlice 22 2 #[(0, x), (1, y)]) {h h' : Hd} {A A' : Option Addr} {len cap len' cap' : Nat} (hx : a.eval x = XV h A len cap) (hy : a.eval y = XV h' A' len' cap') :
    (execOp a.eval o).run Tryz.prog w = .ok (.value (.slice (some ⟨w.heap.size, 0, none⟩) 2 2)) (w.alloc (.cells (xcell (h, A, len, cap) ++ xcell (h', A', len', cap')).toArray 30)) := by
  unfold execOp
  simp only [ho, List.map_toArray, List.map_cons, List.map_nil, hx, hy]
  rw [Sem.run_bind, bs2_run]
  rfl
end
theorem LV.made {w : World} {l : List Ex} {q : List XQ} (hq : XRs (fun k => k < w.heap.size) w l q) : LV l (.slice (some ⟨w.heap.size, 0, none⟩) l.length l.length) (w.alloc (.cells (xcells q).toArray 30)) := by
  refine ⟨_, _, rfl, Nat.le_refl _, ?_⟩
  refine XRs.xsB (B := fun k => k < (w.alloc (.cells (xcells q).toArray 30)).heap.size) (by simp) (hq.go (fun k hk => (ba w _).block k hk) (fun k hk => by rw [World.size_alloc]; omega)) fun j u hj => ?_
  have hn := (MapKept.heap_alloc w (.cells (xcells q).toArray 30)).1
  rw [Nat.zero_add]
  unfold World.cell?
  rw [hn]
  simp [hj]
theorem EV.row {x : Ex} {v : Value} {w : World} (h : EV x v w) : ∃ A cap, v = XV x.hd A x.kids.length cap ∧ XR (fun k => k < w.heap.size) w x (x.hd, A, x.kids.length, cap) := by
  obtain ⟨A, cap, e, hl, hx⟩ := h
  exact ⟨A, cap, e, rfl, rfl, hl, hx⟩
theorem wp_bs1 {o : Oper} {a : Act} {w : World} {Q : Exit → Act → World → Prop} {p : Operand} (ho : o.op = .buildSlice 22 1 #[(0, p)]) {x : Ex} (h : EV x (a.eval p) w) :
    o.wp Tryz.prog a w (fun a' w' => ∃ v, a' = a.put o.dst v ∧ Bel w w' ∧ LV [x] v w') Q := by
  obtain ⟨A, cap, e, hr⟩ := h.row
  have hq : XRs (fun k => k < w.heap.size) w [x] [(x.hd, A, x.kids.length, cap)] := .cons hr .nil
  have := LV.made hq
  refine wp_made (run_bs1 ho e) ?_
  simpa [xcells] using this
theorem wp_bs2 {o : Oper} {a : Act} {w : World} {Q : Exit → Act → World → Prop} {p p' : Operand} (ho : o.op = .buildSlice 22 2 #[(0, p), (1, p')]) {x y : Ex} (h : EV x (a.eval p) w) (h' : EV y (a.eval p') w) :
    o.wp Tryz.prog a w (fun a' w' => ∃ v, a' = a.put o.dst v ∧ Bel w w' ∧ LV [x, y] v w') Q := by
  obtain ⟨A, cap, e, hr⟩ := h.row
  obtain ⟨A', cap', e', hr'⟩ := h'.row
  have hq : XRs (fun k => k < w.heap.size) w [x, y] [(x.hd, A, x.kids.length, cap), (y.hd, A', y.kids.length, cap')] := .cons hr (.cons hr' .nil)
  have := LV.made hq
  refine wp_made (run_bs2 ho e e') ?_
  simpa [xcells] using this
end
end Go.Proofs.YtpokpiphnggfpaaGreatDoor
end
section
namespace Go.Proofs.YtpokpiphnggfpaaGreatDoor
open Go.RowKit Go.Shelf
attribute [local go_sem] Oper.semAt_some

theorem refOp_ev {n : Int} {l : List Ex} {v : Value} {w : World} (h : LV l v w) :
    Calls Tryz.prog 23 #[.int .i64 n, v] w fun e w' => ∃ u, e = .returned u ∧ Bel w w' ∧ EV (.mk (hdO n) l) u w' := by
  obtain ⟨A, cap, rfl, hl, hx⟩ := h
  exact (refOp_any n A l.length cap w).mono fun _ _ ⟨h1, h2⟩ => ⟨_, h1, h2, A, cap, rfl, hl, XsAt.next hx h2⟩
set_option maxHeartbeats 4000000 in
theorem num_any (n : Int) (w : World) :
    Calls Tryz.prog 14 #[.int .i64 n] w fun e w' => e = .returned (XV (hdL 2 n ⟨#[]⟩) none 0 0) ∧ Below w.heap.size w w' := by
  have HX := Lib.hid ((MapKept.heap_alloc w x0).1)
  have HB := Lib.hid (ba w x0)
  go_enter Tryz.func14, Tryz.ntmps14
  go_upto_region 1 with fail
  generalize w.alloc (.cells #[.int .i64 0, .int .i64 0, .int .i64 0, .int .i64 0, .string ⟨#[]⟩, .string ⟨#[]⟩, .string ⟨#[]⟩, .slice none 0 0] 30) = W at HX HB ⊢
  go_wp2_with fail
  refine (refInt_any _ _).mono ?_
  rintro e W1 ⟨rfl, hb⟩
  have HX := Lib.hid ((hb.block _ (Array.getElem?_eq_some_iff.1 HX.out).1).trans HX.out)
  have HB := Lib.hid (bt HB.out hb)
  clear hb
  go_wp2_with fail
  refine (refLit_any _ _ _ _).mono ?_
  rintro e W1 ⟨rfl, hb⟩
  have HX := Lib.hid ((hb.block _ (Array.getElem?_eq_some_iff.1 HX.out).1).trans HX.out)
  have HB := Lib.hid (bt HB.out hb)
  clear hb
  obtain ⟨⟨x0, x1, x2, x3, x4, x5, x6, x7⟩, f0, f1, f2, f3, f4, f5, f6, f7⟩ := cell8 HX.out
  go_wp2_with fail
  refine bodyPost_ret (v := XV (hdL 2 n ⟨#[]⟩) none 0 0) (by simp [results, Tryz.results14, go_sem, x0, x1, x2, x3, x4, x5, x6, x7]) rfl ⟨rfl, ?_⟩
  exact (((((((HB.out.setCell (Nat.le_refl _) _).setCell (Nat.le_refl _) _).setCell (Nat.le_refl _) _).setCell (Nat.le_refl _) _).setCell (Nat.le_refl _) _).setCell (Nat.le_refl _) _).setCell (Nat.le_refl _) _).setCell (Nat.le_refl _) _
theorem num_ev (n : Int) (w : World) :
    Calls Tryz.prog 14 #[.int .i64 n] w fun e w' => ∃ u, e = .returned u ∧ Bel w w' ∧ EV (.mk (hdL 2 n ⟨#[]⟩) []) u w' :=
  (num_any n w).mono fun _ _ ⟨h1, h2⟩ => ⟨_, h1, h2, EV.leaf _ _⟩
end Go.Proofs.YtpokpiphnggfpaaGreatDoor
end
