/-
  Package tree: Merge, its walk.
-/
import Derived.Test.YtjcinhlghlcknaaTrd
import Derived.Deep.AppendLies
namespace Go.Proofs.Ytjcinhlghlcknaa
open Go.RowKit

def prC (l : List Pr) : List Value := l.flatMap fun p => [.int .i64 p.k, .int .i64 p.t]
theorem prC_len (l : List Pr) : (prC l).length = l.length * 2 := by
  induction l with
  | nil => rfl
  | cons p l ih => simp only [prC, List.flatMap_cons, List.length_append] at ih ⊢; simp [ih]; omega
theorem prC_snoc (l : List Pr) (p : Pr) : prC (l ++ [p]) = prC l ++ [.int .i64 p.k, .int .i64 p.t] := by simp [prC]
def lenT : Value → Nat
  | .slice _ n _ => n
  | _ => 0
theorem lenT_own {w : World} {base n sz : Nat} {e : TypeId} {v : Value} {xs : List Value} (h : w.ownsRow base e sz v n xs) : lenT v = n := by
  rcases h.2 with ⟨hv, hn⟩ | ⟨g, cap, cur, hv, _⟩
  · rw [hv, hn]; rfl
  · rw [hv]; rfl
theorem own_mono {w : World} {base base' n sz : Nat} {e : TypeId} {v : Value} {xs : List Value} (h : w.ownsRow base e sz v n xs) (hb : base' ≤ base) : w.ownsRow base' e sz v n xs := by
  refine ⟨h.1, ?_⟩
  rcases h.2 with hn | ⟨g, cap, cur, hv, hbb, rest⟩
  · exact .inl hn
  · exact .inr ⟨g, cap, cur, hv, by omega, rest⟩
/-- What Merge leaves. -/
def MgE (U : Nat) (w : World) (ls : List (List Pr)) (e : Ending) (w' : World) : Prop :=
  ∃ v out, e = .returned (.tuple #[v, .int .i64 0]) ∧ Mgd ls out ∧ w'.ownsRow U 28 2 v out.length (prC out) ∧ Below U w w'
/-- The second loop's state: what has come out, the winner's box. -/
structure M2 (U V : Nat) (w0 w : World) (t a b g cap n M s : Nat) (ls : List (List Pr)) (out : List Pr) (cur : List (List Pr)) (v : Value) (r : Int) (X : Nat) : Prop where
  mg : MgS U w0 w t a b g cap n M s (hds cur) (cur.map List.tail)
  mr : MR ls out cur
  own : w.ownsRow V 28 2 v out.length (prC out)
  win : isW (hds cur) 0 (hds cur).length r
  box : w.heap[X]? = some (.cells #[.int .i64 (wkT (hds cur) r), .int .i64 (wtT (hds cur) r)] 28 (0, 0))
  lo : U ≤ V ∧ V ≤ X ∧ V ≤ w.heap.size ∧ t < V ∧ a < V ∧ b < V ∧ g < V
  x : v.ownBlock ≠ some X
/-- The winner's box has been filled. -/
theorem M2.start {U V : Nat} {w0 w w1 : World} {t a b g cap n M s : Nat} {ls : List (List Pr)} {out : List Pr} {cur : List (List Pr)} {v : Value} {r : Int} (hm : MgS U w0 w t a b g cap n M s (hds cur) (cur.map List.tail)) (hr : MR ls out cur) (ho : w.ownsRow V 28 2 v out.length (prC out)) (hw : isW (hds cur) 0 (hds cur).length r) (hU : U ≤ V) (hV : V ≤ w.heap.size ∧ t < V ∧ a < V ∧ b < V ∧ g < V)
    (hb : Below w.heap.size w w1) (hX : w1.heap[w.heap.size]? = some (.cells #[.int .i64 (wkT (hds cur) r), .int .i64 (wtT (hds cur) r)] 28 (0, 0))) :
    M2 U V w0 w1 t a b g cap n M s ls out cur v r w.heap.size :=
  ⟨hm.kept hb, hr, own_sameT ho (fun k hk => hb.block k (ho.lt k hk).2), hw, hX, ⟨hU, hV.1, by have := hb.size; omega, hV.2⟩, fun e => by have := (ho.lt _ e).2; omega⟩
theorem pset_heap {w : World} {U : Nat} {k0 t0 : Value} {T : TypeId} (h : w.heap[U]? = some (.cells #[k0, t0] T (0, 0))) (k t : Value) :
    ((w.setCell ⟨U, 0, none⟩ k).setCell ⟨U, 1, none⟩ t).heap[U]? = some (.cells #[k, t] T (0, 0)) := by
  simp only [World.setCell, Array.getElem?_modify, if_true, h]
  rfl
/-- A box is made at the end. -/
theorem box_new (w : World) (k t : Value) (T : TypeId) : (w.alloc (.cells #[k, t] T)).heap[w.heap.size]? = some (.cells #[k, t] T (0, 0)) ∧ Below w.heap.size w (w.alloc (.cells #[k, t] T)) :=
  ⟨(MapKept.heap_alloc w _).1, ba w _⟩
/-- Between an append and the next winner. -/
structure M3 (U V : Nat) (w0 w : World) (t a b g cap n M s : Nat) (out : List Pr) (cur : List (List Pr)) (v : Value) (kx tx : Int) (X : Nat) : Prop where
  mg : MgS U w0 w t a b g cap n M s (hds cur) (cur.map List.tail)
  own : w.ownsRow V 28 2 v out.length (prC out)
  box : w.heap[X]? = some (.cells #[.int .i64 kx, .int .i64 tx] 28 (0, 0))
  lo : U ≤ V ∧ V ≤ X ∧ V ≤ w.heap.size ∧ t < V ∧ a < V ∧ b < V ∧ g < V
theorem M2.pair {U V : Nat} {w0 w : World} {t a b g cap n M s : Nat} {ls : List (List Pr)} {out : List Pr} {cur : List (List Pr)} {v : Value} {X k : Nat} (h : M2 U V w0 w t a b g cap n M s ls out cur v (k : Int) X) :
    k < n ∧ ∃ p ps, cur.getD k [] = p :: ps ∧ w.heap[X]? = some (.cells #[.int .i64 p.k, .int .i64 p.t] 28 (0, 0)) ∧ out.length < tot ls := by
  have hg := h.win.get
  have hb := hg.2
  rw [hds_get] at hb
  obtain ⟨p, ps, hp⟩ := hdL_b hb
  refine ⟨by have := h.mg.ll; omega, p, ps, hp, ?_, ?_⟩
  · have := h.box
    simp only [wkT, wtT, Int.toNat_natCast, hds_get, hp, hdL] at this
    rw [if_pos (by omega), if_pos (by omega)] at this
    exact this
  · have h1 := h.mr.tot
    have h2 := tot_set hp
    omega
theorem M2.app {U V : Nat} {w0 w w4 : World} {t a b g cap n M s : Nat} {ls : List (List Pr)} {out : List Pr} {cur : List (List Pr)} {v v' : Value} {r : Int} {X : Nat} (h : M2 U V w0 w t a b g cap n M s ls out cur v r X) {p : Pr} (hx : w.heap[X]? = some (.cells #[.int .i64 p.k, .int .i64 p.t] 28 (0, 0))) {o : Obj}
    (ho : w4.ownsRow V 28 2 v' (out.length + 1) (prC out ++ [.int .i64 p.k, .int .i64 p.t])) (hg : (w.alloc o).grownBy w4 v.ownBlock) : M3 U V w0 w4 t a b g cap n M s (out ++ [p]) cur v' p.k p.t X := by
  obtain ⟨l1, l2, l3, l4, l5, l6, l7⟩ := h.lo
  have hown := h.own.alloc o
  have hb1 : Below V w w4 := ((ba w o).mono l3).trans (below_grownT hown (by simp; omega) hg)
  have hs : ∀ k, k < w.heap.size → (∀ q, v.ownBlock = some q → k ≠ q) → w4.heap[k]? = w.heap[k]? := fun k hk hq => by
    refine (hg.block k (by simp; omega) (fun e => hq k e.symm rfl)).trans ((ba w o).block k hk)
  have hlo : ∀ q, v.ownBlock = some q → V ≤ q := fun q hq => (h.own.lt q hq).1
  have hne := h.mg.ne
  refine ⟨h.mg.same (hb1.mono l1) (fun k hk => hb1.block k (by omega)), ?_, ?_, ⟨l1, l2, by have := hb1.size; omega, l4, l5, l6, l7⟩⟩
  · rw [List.length_append, List.length_singleton, prC_snoc]; exact ho
  · exact (hs X (block_ltT hx) (fun q hq e => h.x (by rw [hq, e]))).trans hx
theorem M3.hand {U V : Nat} {w0 w w1 : World} {t a b g cap n M s : Nat} {out : List Pr} {cur : List (List Pr)} {v y : Value} {kx tx : Int} {X k : Nat} (h : M3 U V w0 w t a b g cap n M s out cur v kx tx X) (hk : k < n) {p : Pr} {ps : List Pr} (_hp : cur.getD k [] = p :: ps)
    (hy : PV U w1 y ps.tail) (ht : T8 plainO U w1 t a b ((hds cur).set k (hdL ps)) M s 0) (ho : Ofs (TS plainO a b) w w1) :
    (w1.frozen? ⟨g, k, none⟩ = false ∧ ∃ u, w1.cell? ⟨g, k, none⟩ = some u) ∧ M3 U V w0 (w1.setCell ⟨g, k, none⟩ y) t a b g cap n M s out (cur.set k ps) v kx tx X := by
  obtain ⟨l1, l2, l3, l4, l5, l6, l7⟩ := h.lo
  obtain ⟨h1, h2⟩ := h.mg.hand hk (r := ps) hy ht ho
  have hs : ∀ q, V ≤ q → q < w.heap.size → (w1.setCell ⟨g, k, none⟩ y).heap[q]? = w.heap[q]? := fun q hq hl => by
    have e1 : g ≠ q := by omega
    rw [show (w1.setCell ⟨g, k, none⟩ y).heap[q]? = w1.heap[q]? by simp [World.setCell, Array.getElem?_modify, e1]]
    refine ho.block q hl (fun hh => ?_)
    rcases hh with hh | hh | hh
    · omega
    · omega
    · exact hh
  refine ⟨h1, ⟨?_, ?_, (hs X l2 (block_ltT h.box)).trans h.box, ⟨l1, l2, ?_, l4, l5, l6, l7⟩⟩⟩
  · rw [hds_set, List.map_set]; exact h2
  · exact own_sameT h.own (fun q hq => hs q (h.own.lt q hq).1 (h.own.lt q hq).2)
  · have := ho.size
    simp [World.setCell]; omega
theorem M3.get {U V : Nat} {w0 w : World} {t a b g cap n M s : Nat} {out : List Pr} {cur : List (List Pr)} {v : Value} {kx tx : Int} {X k : Nat} (h : M3 U V w0 w t a b g cap n M s out cur v kx tx X) (hk : k < n) {p : Pr} {ps : List Pr} (hp : cur.getD k [] = p :: ps) :
    ∃ y, w.cell? ⟨g, k, none⟩ = some y ∧ PV U w y ps := by
  obtain ⟨y, h1, _, h3⟩ := h.mg.cell hk
  refine ⟨y, h1, ?_⟩
  have e : (cur.map List.tail).getD k [] = ps := by
    simp only [List.getD_eq_getElem?_getD, List.getElem?_map] at hp ⊢
    cases hc : cur[k]? with
    | none => rw [hc] at hp; simp at hp
    | some q => rw [hc] at hp; simp at hp; subst hp; rfl
  rwa [e] at h3
theorem PV.shape {U : Nat} {w : World} {v : Value} {r : List Pr} (h : PV U w v r) : ∃ A N c, v = .slice A N c := by
  obtain ⟨A, c, e, _⟩ := h
  exact ⟨A, _, c, e⟩
section
variable {w : World}
set_option maxRecDepth 100000 in
set_option maxHeartbeats 8000000 in
theorem merge_in {A : Option Addr} {c : Nat} {ls : List (List Pr)} (h : LsAt w.heap.size w A ls) (h1 : 1 ≤ ls.length) (h2 : ls.length ≤ 64) (h3 : tot ls ≤ 100000) :
    Calls Try.prog 15 #[.slice A ls.length c, ovP] w (MgE w.heap.size w ls) := by
  have HNew := Lib.hid (new_in plainO_ok (c := 0) (w := w) (Int.le_refl _) (show plainO.ov = .func (.func 9) #[] #[] from rfl) h1 h2)
  have HLs := Lib.hid h
  obtain ⟨n, hn⟩ : ∃ n, n = ls.length := ⟨_, rfl⟩
  have HClo := Lib.hid (fun (w1 : World) (hb : Below w.heap.size w w1) => clone_any (U := w.heap.size) (w := w1) (A := A) (c := c) (ls := ls) (h.kept hb) h1 h2)
  rw [← hn] at HNew HClo h1 h2 ⊢
  have HN := Lib.hid hn
  have HT := Lib.hid h3
  clear h hn h3
  go_enter Try.func15, Try.ntmps15
  go_wp2_with fail
  refine HNew.out.mono ?_
  rintro e w1 ⟨t, a, b, rfl, ht, hb1⟩
  have HT1 := Lib.hid ht
  have HB1 := Lib.hid hb1
  clear ht hb1 HNew
  go_wp2_with fail
  refine (HClo.out w1 HB1.out).mono ?_
  rintro e w2 ⟨v, vs, rfl, ho2, hp2, hb2⟩
  obtain ⟨g, cap, rfl⟩ : ∃ g cap, v = .slice (some ⟨g, 0, none⟩) n cap := by
    rcases ho2.2 with ⟨_, h0⟩ | ⟨g, cap, cur, hv, _⟩
    · omega
    · exact ⟨g, cap, hv⟩
  have HM := Lib.hid (show MgS w.heap.size w w2 t a b g cap n (2 ^ stpT n) (stpT n) (l1 ls 0) (r1 ls 0) from
    ⟨by rw [l1_zero, ← HN.out]; exact HT1.out.kept plainO_ok hb2, ⟨vs, own_mono ho2 HB1.out.size, by simpa [r1] using hp2⟩, bt HB1.out hb2, by rw [l1_zero, List.length_replicate, HN.out], by simp [r1, HN.out]⟩)
  clear ho2 hp2 hb2 HT1 HB1 HClo
  generalize 2 ^ stpT n = M at HM
  generalize stpT n = s at HM
  go_wp2_with fail
  go_loopw [29] (fun ii wr => ∃ i : Nat, ii = .int .i64 i ∧ i ≤ n ∧ Hid (MgS w.heap.size w wr t a b g cap n M s (l1 ls i) (r1 ls i))) (fun ii _ => n - (intOf ii).toNat)
  case atStart => exact ⟨0, rfl, Nat.zero_le _, HM⟩
  case round =>
    clear HM
    obtain ⟨i, rfl, hi, HM⟩ := hrel
    by_cases hlt : i < n
    · obtain ⟨x, hc, hf, hpv⟩ := HM.out.cell hlt
      have hil : i < ls.length := by have := HN.out; omega
      rw [r1_get hil] at hpv
      obtain ⟨A2, N2, C2, rfl⟩ := hpv.shape
      have HH := Lib.hid (hand_any HM.out.tr (Nat.le_refl _) (by rw [HM.out.ll]; exact hlt) hpv)
      have HI := Lib.hid hil
      clear hpv hil
      go_wp2_with fail
      refine HH.out.mono ?_
      rintro e w3 ⟨y, rfl, hy, ht3, ho3⟩
      obtain ⟨A3, N3, C3, rfl⟩ := hy.shape
      obtain ⟨⟨hf3, u3, hc3⟩, hm3⟩ := HM.out.hand hlt hy ht3 ho3
      rw [l1_step HI.out, r1_step HI.out] at hm3
      have HM3 := Lib.hid hm3
      clear hy ht3 ho3 hm3 hc hf HH
      go_wp2_with fail
      go_roundw
      case rel => exact ⟨i + 1, by go_num, hlt, HM3⟩
      case measure => simp [intOf]; omega
    · obtain rfl : n = i := by omega
      clear hlt hi
      have HM2 := Lib.hid (show MgS w.heap.size w wr t a b g cap n M s (hds ls) (ls.map List.tail) from by
        have := HM.out
        rw [HN.out, l1_all, r1_all] at this
        rw [HN.out]; exact this)
      clear HM
      go_wp2_with fail
      refine (win_any HM2.out.tr (wnr_is (hds ls))).mono ?_
      rintro e w3 ⟨rfl, hb3⟩
      have HM3 := Lib.hid (HM2.out.kept hb3)
      have HW3 := Lib.hid (wnr_is (hds ls))
      clear hb3 HM2
      generalize wnr (hds ls) = r at HW3 ⊢
      have HB3 := Lib.hid (box_new w3 (.int .i64 (wkT (hds ls) r)) (.int .i64 (wtT (hds ls) r)) 28)
      have HS3 := Lib.hid (M2.start HM3.out (MR.start ls) (World.ownsRow_nil w3 w3.heap.size 28 2) HW3.out HM3.out.lo ⟨Nat.le_refl _, by have := HM3.out.ne; omega⟩ HB3.out.2 HB3.out.1)
      clear HM3 HW3
      go_wp2_with fail
      go_loopw [11, 12, 13, 14] (fun vv rr xx bb wr => ∃ (out : List Pr) (cur : List (List Pr)) (r : Int) (X : Nat), rr = .int .i64 r ∧ xx = .pointer (some ⟨X, 0, none⟩) ∧ bb = .bool (decide (0 ≤ r)) ∧ Hid (M2 w.heap.size w3.heap.size w wr t a b g cap n M s ls out cur vv r X)) (fun vv _ _ _ _ => tot ls - lenT vv)
      case atStart => exact ⟨[], ls, r, w3.heap.size, rfl, rfl, rfl, HS3⟩
      case round =>
        clear HS3 HB3
        obtain ⟨out, cur, r2, X, rfl, rfl, rfl, HS⟩ := hrel
        by_cases hr : 0 ≤ r2
        · obtain ⟨k, rfl⟩ : ∃ k : Nat, r2 = k := ⟨_, (Int.toNat_of_nonneg hr).symm⟩
          obtain ⟨hkn, p, ps, hp, hx, hot⟩ := HS.out.pair
          have HP := Lib.hid hp
          have HX := Lib.hid hx
          have HOT := Lib.hid hot
          have x0 : wr.cell? ⟨X, 0, none⟩ = some (.int .i64 p.k) := by simp only [World.cell?, hx]; rfl
          have x1 : wr.cell? ⟨X, 1, none⟩ = some (.int .i64 p.t) := by simp only [World.cell?, hx]; rfl
          have hXl : X < wr.heap.size := block_ltT hx
          have hown := HS.out.own
          have HL := Lib.hid (lenT_own hown)
          have htot := HT.out
          have hlo := HS.out.lo.2.2.1
          obtain ⟨i0, hi0, hz0, hz1, hz2⟩ := info_parts info_pairT
          have HNb := Lib.hid (World.news_of_block (MapKept.heap_alloc wr (.cells #[.int .i64 p.k, .int .i64 p.t] 28)).1)
          obtain ⟨K, hK⟩ : ∃ K, K = out.length := ⟨_, rfl⟩
          rw [← hK] at hown hot HL
          have HK := Lib.hid hK
          clear hp hx hK
          go_wp2_with (at_builtin; refine wpList_append_own _ rfl _ _ 42 rfl w3.heap.size 28 i0 _ 2 16 Try.underlying42 hi0 hz0 hz1 hz2 rfl (by decide) _ K (prC out) rfl (hown.alloc _) ⟨wr.heap.size, 0, none⟩ 1 1 [.int .i64 p.k, .int .i64 p.t] rfl rfl HNb.out ?c2 ?c3 ?c4 ?c5 ?_)
          case c2 => exact ⟨rfl, rfl⟩
          case c3 => simp [maxLen]; omega
          case c4 => omega
          case c5 => omega
          intro v' w4 hown4 hgrow4 _
          rw [HK.out] at hown4
          have HM4 := Lib.hid (HS.out.app HX.out hown4 hgrow4)
          clear hown hown4 hgrow4 x0 x1 HNb
          obtain ⟨y, hy1, hy2⟩ := HM4.out.get hkn HP.out
          obtain ⟨A2, N2, C2, rfl⟩ := hy2.shape
          have HH := Lib.hid (hand_any HM4.out.mg.tr (Nat.le_refl _) (by rw [HM4.out.mg.ll]; exact hkn) hy2)
          clear hy2
          go_wp2_with fail
          refine HH.out.mono ?_
          rintro e w5 ⟨z, rfl, hz, ht5, ho5⟩
          obtain ⟨A3, N3, C3, rfl⟩ := hz.shape
          obtain ⟨⟨hf5, u5, hc5⟩, hm5⟩ := HM4.out.hand hkn HP.out hz ht5 ho5
          have HM6 := Lib.hid hm5
          have y0 : (w5.setCell ⟨g, k, none⟩ (.slice A3 N3 C3)).cell? ⟨X, 0, none⟩ = some (.int .i64 p.k) := by simp only [World.cell?, hm5.box]; rfl
          have y1 : (w5.setCell ⟨g, k, none⟩ (.slice A3 N3 C3)).cell? ⟨X, 1, none⟩ = some (.int .i64 p.t) := by simp only [World.cell?, hm5.box]; rfl
          clear hz ht5 ho5 hm5 HH HM4
          go_upto_region 16 with fail
          generalize w5.setCell ⟨g, k, none⟩ (.slice A3 N3 C3) = w6 at HM6 y0 y1 ⊢
          have HB6 := Lib.hid (box_new w6 (.int .i64 p.k) (.int .i64 p.t) 28)
          have HL6 := Lib.hid (lenT_own HM6.out.own)
          have HR6 := Lib.hid (HS.out.mr.step HS.out.win HP.out)
          clear hf5 hc5
          go_wp2_with fail
          refine (win_any (HM6.out.mg.kept HB6.out.2).tr (wnr_is (hds (cur.set k ps)))).mono ?_
          rintro e w8 ⟨rfl, hb8⟩
          have HW8 := Lib.hid (wnr_is (hds (cur.set k ps)))
          have hx8 := (hb8.block w6.heap.size (block_ltT HB6.out.1)).trans HB6.out.1
          have HX8 := Lib.hid hx8
          have HB8 := Lib.hid (HB6.out.2.trans (hb8.mono HB6.out.2.size))
          generalize wnr (hds (cur.set k ps)) = r3 at HW8 ⊢
          clear hb8 y0 y1
          obtain ⟨U6, hU6⟩ : ∃ U6, U6 = w6.heap.size := ⟨_, rfl⟩
          have HS8 := Lib.hid (M2.start HM6.out.mg HR6.out HM6.out.own HW8.out HM6.out.lo.1 HM6.out.lo.2.2 (w1 := (w8.setCell ⟨w6.heap.size, 0, none⟩ (.int .i64 (wkT (hds (cur.set k ps)) r3))).setCell ⟨w6.heap.size, 1, none⟩ (.int .i64 (wtT (hds (cur.set k ps)) r3))) ((HB8.out.setCell (Nat.le_refl _) _).setCell (Nat.le_refl _) _) (pset_heap HX8.out _ _))
          rw [← hU6] at HS8 hx8 ⊢
          have z0 : w8.cell? ⟨U6, 0, none⟩ = some (.int .i64 p.k) := by simp only [World.cell?, hx8]; rfl
          have z1 : w8.cell? ⟨U6, 1, none⟩ = some (.int .i64 p.t) := by simp only [World.cell?, hx8]; rfl
          have zf0 : w8.frozen? ⟨U6, 0, none⟩ = false := by simp only [World.frozen?, hx8]; rfl
          have zf1 : w8.frozen? ⟨U6, 1, none⟩ = false := by simp only [World.frozen?, hx8]; rfl
          clear hx8 hU6
          go_wp2_with fail
          go_roundw
          case rel => exact ⟨out ++ [p], cur.set k ps, r3, U6, rfl, rfl, rfl, HS8⟩
          case measure =>
            have e1 := HL6.out
            have e2 := HL.out
            have e3 := HK.out
            simp only [List.length_append, List.length_singleton] at e1
            simp
            omega
        · have hr1 : r2 = -1 := by
            rcases HS.out.win with ⟨ra, _⟩ | ⟨j, ra, _⟩
            · exact ra
            · omega
          subst hr1
          have HE := Lib.hid (show Mgd ls out from ⟨cur, HS.out.mr, tot_nil HS.out.win⟩)
          go_wp2_with fail
          go_ret2
          exact ⟨_, out, rfl, HE.out, own_mono HS.out.own HS.out.lo.1, HS.out.mg.below⟩
set_option maxRecDepth 100000 in
set_option maxHeartbeats 1000000 in
theorem merge_no {A : Option Addr} {n c : Nat} {ov : Value} (h : ∀ w, Calls Try.prog 8 #[.int .i64 n, ov] w fun e w' => e = .returned (.tuple #[.pointer none, .int .i64 1]) ∧ w = w') :
    Calls Try.prog 15 #[.slice A n c, ov] w fun e w' => e = .returned (.tuple #[.slice none 0 0, .int .i64 1]) ∧ w = w' := by
  have H := Lib.hid (h w)
  clear h
  go_enter Try.func15, Try.ntmps15
  go_wp2_with fail
  refine H.out.mono ?_
  rintro e w1 ⟨rfl, rfl⟩
  go_wp2_with fail
  go_ret2
  exact ⟨rfl, rfl⟩
theorem merge_out {A : Option Addr} {n c : Nat} (hn : n < 1 ∨ 64 < n) :
    Calls Try.prog 15 #[.slice A n c, ovP] w fun e w' => e = .returned (.tuple #[.slice none 0 0, .int .i64 1]) ∧ w = w' :=
  merge_no (fun _ => new_out (by omega))
theorem merge_nil {A : Option Addr} {n c : Nat} :
    Calls Try.prog 15 #[.slice A n c, .nilFunc] w fun e w' => e = .returned (.tuple #[.slice none 0 0, .int .i64 1]) ∧ w = w' :=
  merge_no (fun _ => new_nil _)
end
end Go.Proofs.Ytjcinhlghlcknaa
