/-
  A list of expressions of the call's own, held in a box, that grows by one.
-/
import Derived.Test.YteckhaicodmakaaGreatDoorExr
import Derived.Test.YteckhaicodmakaaGreatDoorExp
import Derived.Maps.AppendAt
namespace Go.Proofs.YteckhaicodmakaaGreatDoor
open Go.RowKit Go.Shelf

def IsC (W : World) (k : Nat) : Prop := ∃ o, W.heap[k]? = some o ∧ o.isCells = true
theorem isC_of_cell {W : World} {g o : Nat} {v : Value} (h : W.cell? ⟨g, o, none⟩ = some v) : IsC W g := by
  simp only [World.cell?] at h
  cases hg : W.heap[g]? with
  | none => rw [hg] at h; cases h
  | some x =>
    cases x with
    | cells cs t f => exact ⟨_, hg, rfl⟩
    | _ => rw [hg] at h; cases h
theorem IsC.of {W W' : World} {k : Nat} (h : IsC W k) (e : W'.heap[k]? = W.heap[k]?) : IsC W' k := by
  obtain ⟨o, ho, hc⟩ := h
  exact ⟨o, e.trans ho, hc⟩
theorem XsB.isC {B : Nat → Prop} {w : World} : ∀ {l : List Ex} {A : Option Addr}, XsB B w l A → XsB (fun k => B k ∧ IsC w k) w l A
  | [], _, _ => by rw [XsB]; trivial
  | .mk h l :: r, A, H => by
    rw [XsB] at H ⊢
    obtain ⟨g, o, e, hg, ⟨A', cap, hc, hl, h1⟩, h2⟩ := H
    exact ⟨g, o, e, ⟨hg, isC_of_cell hc.c0⟩, ⟨A', cap, hc, hl, XsB.isC h1⟩, XsB.isC h2⟩
termination_by l => SizeOf.sizeOf l
abbrev zcell : List Value := [.int .i64 0, .int .i64 0, .int .i64 0, .int .i64 0, .string ⟨#[]⟩, .string ⟨#[]⟩, .string ⟨#[]⟩, .slice none 0 0]
abbrev Op8 (b : Nat) (W : World) (v : Value) (k : Nat) : Prop := b ≤ k ∧ k < W.heap.size ∧ v.ownBlock ≠ some k ∧ IsC W k
/-- The list in the box. -/
structure PK (b u : Nat) (W : World) (v : Value) (q : List XQ) (L : List Ex) : Prop where
  box : Boxed W u 24 v
  kids : XRs (Op8 b W v) W L q
  own : W.ownsRow b 26 8 v L.length (xcells q)
  nil : L = [] → v = .slice none 0 0
  le : b ≤ W.heap.size
  ub : u < b
theorem PK.below {b u : Nat} {W W' : World} {v : Value} {q : List XQ} {L : List Ex} (h : PK b u W v q L) (hb : Below W.heap.size W W') : PK b u W' v q L := by
  refine ⟨boxed_below h.box hb, h.kids.go (fun k hk => hb.block k hk.2.1) (fun k hk => ⟨hk.1, Nat.lt_of_lt_of_le hk.2.1 hb.size, hk.2.2.1, hk.2.2.2.of (hb.block k hk.2.1)⟩), ⟨h.own.1, ?_⟩, h.nil, Nat.le_trans h.le hb.size, h.ub⟩
  rcases h.own.2 with hn | ⟨g, cap, cur, hv, hb1, hg, hc, hm, hsz, ht⟩
  · exact .inl hn
  · exact .inr ⟨g, cap, cur, hv, hb1, (hb.block g (Array.getElem?_eq_some_iff.1 hg).1).trans hg, hc, hm, hsz, ht⟩
/-- Behind what turns no cells. -/
theorem PK.other {b u : Nat} {W W' : World} {v : Value} {q : List XQ} {L : List Ex} (h : PK b u W v q L) {row : Option Nat} (hg : W.grownBy W' row) (hr : ∀ r, row = some r → ∃ o : Obj, W.heap[r]? = some o ∧ o.isCells = false) : PK b u W' v q L := by
  have keep : ∀ k, IsC W k → W'.heap[k]? = W.heap[k]? := fun k ⟨o, ho, hc⟩ => hg.block k (Array.getElem?_eq_some_iff.1 ho).1 (fun e => by
    obtain ⟨o', h1, h2⟩ := hr k e.symm
    rw [ho] at h1; cases h1; rw [hc] at h2; cases h2)
  refine ⟨(keep u ⟨_, h.box, rfl⟩).trans h.box, h.kids.go (fun k hk => keep k hk.2.2.2) (fun k hk => ⟨hk.1, Nat.lt_of_lt_of_le hk.2.1 hg.size, hk.2.2.1, hk.2.2.2.of (keep k hk.2.2.2)⟩), ⟨h.own.1, ?_⟩, h.nil, Nat.le_trans h.le hg.size, h.ub⟩
  rcases h.own.2 with hn | ⟨g, cap, cur, hv, hb1, hg, hc, hm, hsz, ht⟩
  · exact .inl hn
  · exact .inr ⟨g, cap, cur, hv, hb1, (keep g ⟨_, hg, rfl⟩).trans hg, hc, hm, hsz, ht⟩
/-- An object larger than an expression's box. -/
def Big (o : Obj) : Prop := ∃ cs t f, o = .cells cs t f ∧ 8 < cs.size
theorem big_box (h : Hd) (A : Option Addr) (len cap : Nat) : ¬ Big (xbox h A len cap) := by
  rintro ⟨cs, t, f, e, hs⟩
  injection e with e1
  rw [← e1] at hs
  simp at hs
/-- One nothing appended: in the row, where there is room; else in new memory, the old row as it was. -/
theorem append1 {b : Nat} {v : Value} {n : Nat} {xs : List Value} {W : World} (hown : W.ownsRow b 26 8 v n xs) (hnil : n = 0 → v = .slice none 0 0) (hb : b ≤ W.heap.size) (hn : n ≤ 1000000) (ad : Addr) (hnews : ∀ j u, zcell[j]? = some u → W.cell? (ad.add j) = some u) :
    ∃ g' cap' w', (Builtin.append_ #[24, 24] 24 #[v, .slice (some ad) 1 1]).run Tryz.prog W = .ok (.slice (some ⟨g', 0, none⟩) (n + 1) cap') w' ∧ w'.ownsRow b 26 8 (.slice (some ⟨g', 0, none⟩) (n + 1) cap') (n + 1) (xs ++ zcell) ∧
      W.grownBy w' (some g') ∧ b ≤ g' ∧ (g' < W.heap.size → v.ownBlock = some g' ∧ ∃ o, W.heap[g']? = some o ∧ Big o) := by
  obtain ⟨i0, hi, hz0, hz1, hz2⟩ := infoE_parts info_expr
  have h1 : ∀ u ∈ zcell, u.oneCell' = true := by intro u hu; simp at hu; rcases hu with rfl | rfl | rfl | rfl <;> rfl
  obtain ⟨v', w', hr, ho, hg, _, hat⟩ := run_append_own_at (P := Tryz.prog) W b 24 24 26 i0 _ 8 104 Tryz.underlying24 hi hz0 hz1 hz2 rfl (by decide) v n xs hown ad 1 1 zcell rfl hnews h1 (by unfold maxLen; omega) (by omega) hb
  rcases ho.2 with ⟨_, h0⟩ | ⟨g', cap', cur', rfl, hb', hg', hc', hm', hs', ht'⟩
  · omega
  refine ⟨g', cap', w', hr, ho, ?_, hb', ?_⟩
  all_goals rcases hown.2 with ⟨rfl, rfl⟩ | ⟨g, cap, cur, rfl, hbg, hgg, hnc, hcm, hcs, htake⟩
  · exact ⟨hg.os, hg.tape, hg.output, hg.size, fun k hk hne => hg.block k hk (by simp [Value.ownBlock])⟩
  · by_cases hroom : n + 1 ≤ cap
    · have hr2 := run_append_room (P := Tryz.prog) W 24 24 26 i0 Tryz.underlying24 hi g n cap cur hgg ad 1 1 zcell (by rw [hz1]; rfl) hnews h1 hroom (by rw [hz1, hcs]; show n * 8 + 8 ≤ _; omega)
      rw [hr] at hr2
      injection hr2 with e1 e2
      injection e1 with e3
      injection e3 with e4
      injection e4 with e5
      subst e5
      exact hg
    · have holds : ∀ j u, xs[j]? = some u → W.cell? ((⟨g, 0, none⟩ : Addr).add j) = some u := hown.cells (g := g) rfl
      have hr2 := run_append_grow (P := Tryz.prog) W 24 24 26 i0 _ Tryz.underlying24 hi hz0 ⟨g, 0, none⟩ n cap xs (by rw [hz1]; exact hown.1) holds ad 1 1 zcell (by rw [hz1]; rfl) hnews (by omega) (by omega) (growslice_fits (by omega) (by rw [hz2]; omega))
      rw [hr] at hr2
      injection hr2 with e1 e2
      rw [e2]
      exact ⟨rfl, rfl, rfl, by simp, fun k hk _ => (Below.drew (Below.refl _ W) |>.alloc (Nat.le_refl _) _).block k hk⟩
  · intro hlt
    rcases hat with h | h
    · simp [Value.ownBlock] at h
    · simp [Value.ownBlock] at h; omega
  · intro hlt
    by_cases hroom : n + 1 ≤ cap
    · rcases hat with h | h
      · simp only [Value.ownBlock, Option.some.injEq] at h
        subst h
        refine ⟨rfl, _, hgg, _, _, _, rfl, ?_⟩
        have hn0 : n ≠ 0 := fun e => by have := hnil e; cases this
        rw [hcs]; omega
      · simp [Value.ownBlock] at h; omega
    · have holds : ∀ j u, xs[j]? = some u → W.cell? ((⟨g, 0, none⟩ : Addr).add j) = some u := hown.cells (g := g) rfl
      have hr2 := run_append_grow (P := Tryz.prog) W 24 24 26 i0 _ Tryz.underlying24 hi hz0 ⟨g, 0, none⟩ n cap xs (by rw [hz1]; exact hown.1) holds ad 1 1 zcell (by rw [hz1]; rfl) hnews (by omega) (by omega) (growslice_fits (by omega) (by rw [hz2]; omega))
      rw [hr] at hr2
      injection hr2 with e1 e2
      injection e1 with e3
      injection e3 with e4
      injection e4 with e5
      omega
/-- The last one of a row, stored. -/
def put8 (W : World) (g o : Nat) (x : XQ) : World := ((((((((W.setCell ⟨g, o, none⟩ (.int .i64 x.1.k)).setCell ⟨g, o + 1, none⟩ (.int .i64 x.1.n)).setCell ⟨g, o + 2, none⟩ (.int .i64 x.1.vk)).setCell ⟨g, o + 3, none⟩ (.int .i64 x.1.vn)).setCell ⟨g, o + 4, none⟩ (.string x.1.vs)).setCell ⟨g, o + 5, none⟩ (.string x.1.tab)).setCell ⟨g, o + 6, none⟩ (.string x.1.col)).setCell ⟨g, o + 7, none⟩ (.slice x.2.1 x.2.2.1 x.2.2.2))
theorem put8_other {W : World} {g o k : Nat} (hk : k ≠ g) (x : XQ) : (put8 W g o x).heap[k]? = W.heap[k]? := by
  simp only [put8, World.setCell, Array.getElem?_modify]
  simp [Ne.symm hk]
theorem put8_size (W : World) (g o : Nat) (x : XQ) : (put8 W g o x).heap.size = W.heap.size := by simp [put8, World.setCell]
theorem put8_box {W : World} {g o : Nat} {cs : Array Value} {T : TypeId} (h : W.heap[g]? = some (.cells cs T (0, 0))) (x : XQ) : (put8 W g o x).heap[g]? = some (.cells ((((((((cs.setIfInBounds o (.int .i64 x.1.k)).setIfInBounds (o + 1) (.int .i64 x.1.n)).setIfInBounds (o + 2) (.int .i64 x.1.vk)).setIfInBounds (o + 3) (.int .i64 x.1.vn)).setIfInBounds (o + 4) (.string x.1.vs)).setIfInBounds (o + 5) (.string x.1.tab)).setIfInBounds (o + 6) (.string x.1.col)).setIfInBounds (o + 7) (.slice x.2.1 x.2.2.1 x.2.2.2)) T (0, 0)) :=
  setc_box (setc_box (setc_box (setc_box (setc_box (setc_box (setc_box (setc_box h o _) (o + 1) _) (o + 2) _) (o + 3) _) (o + 4) _) (o + 5) _) (o + 6) _) (o + 7) _
theorem set8_list (xs : List Value) (rest : List Value) (z0 z1 z2 z3 z4 z5 z6 z7 a0 a1 a2 a3 a4 a5 a6 a7 : Value) (o : Nat) (ho : o = xs.length) :
    (((((((((xs ++ z0 :: z1 :: z2 :: z3 :: z4 :: z5 :: z6 :: z7 :: rest).set o a0).set (o + 1) a1).set (o + 2) a2).set (o + 3) a3).set (o + 4) a4).set (o + 5) a5).set (o + 6) a6).set (o + 7) a7) = xs ++ a0 :: a1 :: a2 :: a3 :: a4 :: a5 :: a6 :: a7 :: rest := by
  subst ho
  rw [List.set_append_right _ _ (by omega), List.set_append_right _ _ (by omega), List.set_append_right _ _ (by omega), List.set_append_right _ _ (by omega), List.set_append_right _ _ (by omega), List.set_append_right _ _ (by omega), List.set_append_right _ _ (by omega), List.set_append_right _ _ (by omega)]
  simp
theorem set8_take (cur xs : List Value) (n : Nat) (hx : xs.length = n * 8) (ht : cur.take ((n + 1) * 8) = xs ++ zcell) (a0 a1 a2 a3 a4 a5 a6 a7 : Value) :
    (((((((((cur.set (n * 8) a0).set (n * 8 + 1) a1).set (n * 8 + 2) a2).set (n * 8 + 3) a3).set (n * 8 + 4) a4).set (n * 8 + 5) a5).set (n * 8 + 6) a6).set (n * 8 + 7) a7).take ((n + 1) * 8)) = xs ++ [a0, a1, a2, a3, a4, a5, a6, a7] := by
  have hcur : cur = xs ++ zcell ++ cur.drop ((n + 1) * 8) := by rw [← ht]; exact (List.take_append_drop _ _).symm
  generalize cur.drop ((n + 1) * 8) = rest at hcur
  have e := set8_list xs rest (.int .i64 0) (.int .i64 0) (.int .i64 0) (.int .i64 0) (.string ⟨#[]⟩) (.string ⟨#[]⟩) (.string ⟨#[]⟩) (.slice none 0 0) a0 a1 a2 a3 a4 a5 a6 a7 (n * 8) hx.symm
  rw [show cur = xs ++ .int .i64 0 :: .int .i64 0 :: .int .i64 0 :: .int .i64 0 :: .string ⟨#[]⟩ :: .string ⟨#[]⟩ :: .string ⟨#[]⟩ :: .slice none 0 0 :: rest by rw [hcur, List.append_assoc]; rfl, e]
  rw [show xs ++ a0 :: a1 :: a2 :: a3 :: a4 :: a5 :: a6 :: a7 :: rest = (xs ++ [a0, a1, a2, a3, a4, a5, a6, a7]) ++ rest by rw [List.append_assoc]; rfl]
  refine List.take_left' ?_
  rw [List.length_append, hx]; show n * 8 + 8 = _; omega
theorem put8_own {b g n cap : Nat} {xs : List Value} {W : World} (h : W.ownsRow b 26 8 (.slice (some ⟨g, 0, none⟩) (n + 1) cap) (n + 1) (xs ++ zcell)) (hx : xs.length = n * 8) (x : XQ) :
    (put8 W g (n * 8) x).ownsRow b 26 8 (.slice (some ⟨g, 0, none⟩) (n + 1) cap) (n + 1) (xs ++ xcell x) := by
  rcases h.2 with ⟨hbad, _⟩ | ⟨g', cap', cur, hv, hb, hg, hc, hm, hs, ht⟩
  · cases hbad
  have hg2 : g' = g := by injection hv with e1; injection e1 with e4; injection e4 with e5; exact e5.symm
  have hc2 : cap' = cap := by injection hv with _ _ e3; exact e3.symm
  subst hg2 hc2
  refine ⟨by rw [List.length_append, hx]; show n * 8 + 8 = _; omega, .inr ⟨g', cap', _, rfl, hb, put8_box hg x, hc, hm, ?_, ?_⟩⟩
  · simp only [Array.size_setIfInBounds]; exact hs
  · simp only [Array.toList_setIfInBounds]
    exact set8_take _ _ _ hx ht _ _ _ _ _ _ _ _
theorem PK.blk {b u : Nat} {W : World} {v : Value} {q : List XQ} {L : List Ex} (h : PK b u W v q L) : ∀ k, v.ownBlock = some k → k < W.heap.size := fun k e => (h.own.lt k e).2
/-- One more. -/
theorem PK.grow {b u : Nat} {W : World} {v : Value} {q : List XQ} {L : List Ex} (h : PK b u W v q L) {x : Ex} {A3 : Option Addr} {cap3 : Nat} (hle : x.kids.length ≤ cap3) (hx : XsB (Op8 b W v) W x.kids A3) {g' cap' : Nat} {w1 F : World}
    (ho : w1.ownsRow b 26 8 (.slice (some ⟨g', 0, none⟩) (L.length + 1) cap') (L.length + 1) (xcells q ++ zcell)) (hg : W.grownBy w1 (some g')) (hbg : b ≤ g') (hold : g' < W.heap.size → v.ownBlock = some g' ∧ ∃ o, W.heap[g']? = some o ∧ Big o)
    (hsz : F.heap.size = w1.heap.size) (hu : Boxed F u 24 (.slice (some ⟨g', 0, none⟩) (L.length + 1) cap')) (hF : ∀ k, k ≠ u → F.heap[k]? = (put8 w1 g' (L.length * 8) (x.hd, A3, x.kids.length, cap3)).heap[k]?) :
    PK b u F (.slice (some ⟨g', 0, none⟩) (L.length + 1) cap') (q ++ [(x.hd, A3, x.kids.length, cap3)]) (L ++ [x]) := by
  have hub := h.ub
  have hlb := h.le
  have hgs := hg.size
  have keep : ∀ k, Op8 b W v k → F.heap[k]? = W.heap[k]? := fun k hk => by
    have h1 := hk.1
    have h2 := hk.2.1
    have hne : k ≠ g' := fun e => by
      subst e
      exact hk.2.2.1 (hold h2).1
    rw [hF k (by omega), put8_other hne, hg.block k h2 (fun e => hne (by cases e; rfl))]
  have hB : ∀ k, Op8 b W v k → Op8 b F (.slice (some ⟨g', 0, none⟩) (L.length + 1) cap') k := fun k hk => by
    have h1 := hk.1
    have h2 := hk.2.1
    refine ⟨h1, by omega, fun e => ?_, hk.2.2.2.of (keep k hk)⟩
    simp only [Value.ownBlock, Option.some.injEq] at e
    subst e
    exact hk.2.2.1 (hold h2).1
  have hq : (xcells q).length = L.length * 8 := by rw [xcells_len, h.kids.len]
  have hr := put8_own ho hq (x.hd, A3, x.kids.length, cap3)
  refine ⟨hu, (h.kids.go keep hB).snoc ⟨rfl, rfl, hle, XsB.go keep hB _ _ hx⟩, ?_, fun e => by simp at e, by omega, hub⟩
  have e1 : xcells (q ++ [(x.hd, A3, x.kids.length, cap3)]) = xcells q ++ xcell (x.hd, A3, x.kids.length, cap3) := by rw [xcells_app]; simp [xcells]
  rw [e1, List.length_append]
  refine ⟨hr.1, ?_⟩
  rcases hr.2 with ⟨hbad, _⟩ | ⟨g2, cap2, cur, hv, hb2, hg2, hrest⟩
  · cases hbad
  have e2 : g' = g2 := by have := congrArg Value.ownBlock hv; simpa [Value.ownBlock] using this
  subst e2
  exact .inr ⟨g', cap2, cur, hv, hb2, (hF g' (by omega)).trans hg2, hrest⟩
theorem PK.kept {u : Nat} {W : World} {n : Nat} {x : XQ} {g' : Nat} {w1 F : World} (hg : W.grownBy w1 (some g')) {v : Value} (hold : g' < W.heap.size → v.ownBlock = some g' ∧ ∃ o, W.heap[g']? = some o ∧ Big o)
    (hF : ∀ k, k ≠ u → F.heap[k]? = (put8 w1 g' (n * 8) x).heap[k]?) (k : Nat) (hk : k < W.heap.size) (hu : k ≠ u) (hb : ∀ o, W.heap[k]? = some o → ¬ Big o) : F.heap[k]? = W.heap[k]? := by
  have hne : k ≠ g' := fun e => by
    subst e
    obtain ⟨_, o, ho, hbg⟩ := hold hk
    exact hb o ho hbg
  rw [hF k hu, put8_other hne, hg.block k hk (fun e => hne (by cases e; rfl))]
/-- What the list reads as. -/
theorem PK.list {b u : Nat} {W : World} {v : Value} {q : List XQ} {L : List Ex} (h : PK b u W v q L) : ∃ A cap, v = .slice A L.length cap ∧ L.length ≤ cap ∧ XsAt W.heap.size W L A := by
  rcases h.own.2 with ⟨rfl, h0⟩ | ⟨g, cap, cur, hv, hb1, hg, hc, _⟩
  · obtain rfl := List.eq_nil_of_length_eq_zero h0
    exact ⟨none, 0, rfl, Nat.le_refl _, by rw [XsAt, XsB]; trivial⟩
  · have hgl := (Array.getElem?_eq_some_iff.1 hg).1
    refine ⟨_, cap, hv, hc, XRs.xsB (B := fun k => k < W.heap.size) hgl (h.kids.go (fun _ _ => rfl) (fun k hk => hk.2.1)) fun j u hj => ?_⟩
    have := h.own.cells (g := g) (by rw [hv]; rfl) j u hj
    rw [show (⟨g, 0, none⟩ : Addr).add j = ⟨g, j, none⟩ by simp only [Addr.add]; split <;> simp_all] at this
    rwa [Nat.zero_add]
end Go.Proofs.YteckhaicodmakaaGreatDoor
