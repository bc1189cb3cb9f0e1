/-
  Package catalog: lists of rows of the law's own, made by append out of an empty one.
Package catalog: the walk of CatalogOrders.
The contract of the document's own Used.
The contract of the document's own Make.
The contract of the document's own Make.
Contract of the document's own getValue: the value that bytes begin with.
-/
import Derived.Test.YtmjckdgomlppeaaGreatDoorZ11
import Derived.ArgAppend
import Derived.Deep.Cut
import Derived.Deep.RegionHeld3
import Derived.RegionTactic
import Derived.BigRegion
section
namespace Go.Proofs.YtmjckdgomlppeaaGreatDoor
open Go.RowKit Go.Shelf
attribute [local go_sem] Oper.semAt_some

/-- What is appended to an empty list of rows: no old block changes. -/
theorem run_appE13 (ty : TypeId) (n0 : Nat) (A : Option Addr) (c : Nat) (rs : List (List Va)) (W : World) (B : Nat) (hv : ListOwn W B (.slice (some ⟨n0, 0, none⟩) 0 0) []) (hr : RowsIn W B A rs) (hA : A = none → c = 0) (hB : B ≤ W.heap.size) (hl : rs.length ≤ 65536) :
    ∃ v' w', (Builtin.append_ #[27, 27] ty #[.slice (some ⟨n0, 0, none⟩) 0 0, .slice A rs.length c]).run Tryz.prog W = .ok v' w' ∧ ListOwn w' B v' rs ∧ Below W.heap.size W w' := by
  obtain ⟨i0, hi, hz0, hz1, hz2⟩ := info_parts info_rowT
  cases A with
  | none =>
    have hc := hA rfl
    subst hc
    have hrs : rs = [] := by
      rcases hr with h | ⟨_, _, _, h, _⟩
      · exact h
      · cases h
    subst hrs
    have hv' := hv
    obtain ⟨xs, hown, hel⟩ := hv'
    have h := run_append_owned_none (P := Tryz.prog) (w := W) B 27 ty 38 i0 1 Tryz.underlying27 hi _ 0 xs hown
    exact ⟨_, W, h, hv, Below.refl _ _⟩
  | some ad =>
    have hys : ∃ ys, Elems W B ys rs ∧ ∀ j u, ys[j]? = some u → W.cell? (ad.add j) = some u := by
      rcases hr with h | ⟨b, off, ys, h, hlt, hc, he⟩
      · subst h; exact ⟨[], Elems.nil _ _, fun j u h => by simp at h⟩
      · cases h
        refine ⟨ys, he, fun j u hu => ?_⟩
        have hadd : (⟨b, off, none⟩ : Addr).add j = ⟨b, off + j, none⟩ := by unfold Addr.add; split <;> simp_all
        rw [hadd]; exact hc j u hu
    obtain ⟨ys, he, hcell⟩ := hys
    by_cases hn : rs = []
    · subst hn
      obtain rfl : ys = [] := List.eq_nil_of_length_eq_zero he.1
      have h := run_append_room_cells (P := Tryz.prog) (w := W) 27 ty 38 i0 Tryz.underlying27 hi n0 0 0 0 ad 0 c [] (by simp) (by simp) (by simp) (by omega) (by simp) (by simp)
      exact ⟨_, _, h, hv, by simp [World.setCells]; exact Below.refl _ _⟩
    · have h0 : 0 < rs.length := List.length_pos_iff.2 hn
      obtain ⟨v', w', h, r1, r2⟩ := run_append_arg_grows (P := Tryz.prog) W 27 ty 38 i0 _ 1 24 Tryz.underlying27 hi hz0 hz1 hz2 rfl (by decide) ⟨n0, 0, none⟩ 0 0 [] rfl (fun j u h => by simp at h) ad rs.length c ys (by rw [he.1]; simp) hcell (by omega) (by simp [maxLen]; omega) (by omega)
      have hG : Grows B W w' := Grows.grown hB r2 (fun k hk => by cases hk)
      refine ⟨v', w', h, ⟨ys, ?_, he.kept hG⟩, (Below.refl _ _).grown r2 (Nat.le_refl _) (fun k hk => by cases hk)⟩
      rw [Nat.zero_add, List.nil_append] at r1
      exact ⟨r1.1, r1.2.imp id (fun ⟨g, cap, cur, e, hb, rest⟩ => ⟨g, cap, cur, e, Nat.le_trans hB hb, rest⟩)⟩
theorem run_appL2 (ty : TypeId) (v : Value) (p : List (List Va)) (A : Option Addr) (c : Nat) (rs : List (List Va)) (W : World) (B : Nat) (hv : ListOwn W B v p) (hr : RowsIn W B A rs) (hA : A = none → c = 0) (hB : B ≤ W.heap.size) (hl : p.length + rs.length ≤ 65536) :
    ∃ v' w', (Builtin.append_ #[27, 27] ty #[v, .slice A rs.length c]).run Tryz.prog W = .ok v' w' ∧ ListOwn w' B v' (p ++ rs) ∧ Grows B W w' ∧ ∀ (k : Nat) (cs : Array Value) (T : TypeId) (fr : Nat × Nat), W.heap[k]? = some (.cells cs T fr) → T ≠ 38 → w'.heap[k]? = W.heap[k]? := by
  obtain ⟨i0, hi, hz0, hz1, hz2⟩ := info_parts info_rowT
  obtain ⟨xs, hown, hel⟩ := hv
  cases A with
  | none =>
    have hc := hA rfl
    subst hc
    have hrs : rs = [] := by
      rcases hr with h | ⟨_, _, _, h, _⟩
      · exact h
      · cases h
    subst hrs
    have h := run_append_owned_none (P := Tryz.prog) (w := W) B 27 ty 38 i0 1 Tryz.underlying27 hi v p.length xs hown
    exact ⟨v, W, h, by rw [List.append_nil]; exact ⟨xs, hown, hel⟩, Grows.refl _ _, fun _ _ _ _ _ _ => rfl⟩
  | some ad =>
    have hys : ∃ ys, Elems W B ys rs ∧ ∀ j u, ys[j]? = some u → W.cell? (ad.add j) = some u := by
      rcases hr with h | ⟨b, off, ys, h, hlt, hc, he⟩
      · subst h; exact ⟨[], Elems.nil _ _, fun j u h => by simp at h⟩
      · cases h
        refine ⟨ys, he, fun j u hu => ?_⟩
        have hadd : (⟨b, off, none⟩ : Addr).add j = ⟨b, off + j, none⟩ := by unfold Addr.add; split <;> simp_all
        rw [hadd]; exact hc j u hu
    obtain ⟨ys, he, hcell⟩ := hys
    obtain ⟨v', w', h, hown', hgr, _⟩ := run_append_own (P := Tryz.prog) W B 27 ty 38 i0 _ 1 24 Tryz.underlying27 hi hz0 hz1 hz2 rfl (by decide) v p.length xs hown ad rs.length c ys (by rw [he.1]; simp) hcell (oneCell_elems he) (by simp [maxLen]; omega) (by omega) hB
    have hG : Grows B W w' := Grows.grown hB hgr (fun k hk => by
      obtain ⟨hb, cs, fr, hcs⟩ := owns_typed hown k hk
      exact ⟨hb, cs, _, fr, hcs, by decide⟩)
    exact ⟨v', w', h, ⟨xs ++ ys, by simpa using hown', (hel.kept hG).append (he.kept hG)⟩, hG, fun k cs T fr hk hT => hgr.block k (lt_of_block hk) (fun e => by
      obtain ⟨_, cs', fr', hcs⟩ := owns_typed hown k e.symm
      rw [hk] at hcs
      cases hcs
      exact hT rfl)⟩
/-- An empty list of rows of one's own; one that holds rows. -/
def EmL (B : Nat) (v : Value) (w : World) : Prop := ∃ n0 : Nat, v = .slice (some ⟨n0, 0, none⟩) 0 0 ∧ ListOwn w B v [] ∧ B ≤ w.heap.size
theorem EmL.keeps (B : Nat) : Keeps Bel (EmL B) := fun _ _ _ hb ⟨n, e, h, hB⟩ => ⟨n, e, h.kept hB hb, Nat.le_trans hB hb.size⟩
def LO (B : Nat) (p : List (List Va)) (v : Value) (w : World) : Prop := ListOwn w B v p ∧ B ≤ w.heap.size
theorem LO.keeps (B : Nat) (p : List (List Va)) : Keeps Bel (LO B p) := fun _ _ _ hb ⟨h, hB⟩ => ⟨h.kept hB hb, Nat.le_trans hB hb.size⟩
theorem LO.ok {B : Nat} {p : List (List Va)} {v : Value} {w : World} (h : LO B p v w) : ∃ A c, v = .slice A p.length c ∧ RowsAt w A p ∧ p.length ≤ c ∧ c ≤ 9223372036854775807 ∧ (A = none → c = 0) := by
  obtain ⟨⟨xs, ho, he⟩, _⟩ := h
  obtain ⟨A, c, e, hr, hn⟩ := ListOwn.inB ⟨xs, ho, he⟩
  rcases ho.2 with ⟨rfl, h0⟩ | ⟨g, cap, cur, rfl, hb, hgg, hnc, hcm, _⟩
  · obtain rfl := List.eq_nil_of_length_eq_zero h0
    cases e; exact ⟨_, _, rfl, hr.rows, Nat.le_refl _, by omega, hn⟩
  · cases e; exact ⟨_, _, rfl, hr.rows, hnc, by simp only [maxLen] at hcm; omega, hn⟩
section
variable {o : Oper} {a : Act} {w : World} {Q : Exit → Act → World → Prop}
theorem run_bs0 (ho : o.op = .buildSlice 27 0 #[]) :
    (execOp a.eval o).run Tryz.prog w = .ok (.value (.slice (some ⟨w.heap.size, 0, none⟩) 0 0)) (w.alloc (.cells #[] 38)) := by
  unfold execOp
  simp only [ho, List.map_toArray, List.map_nil]
  go_simp
theorem wp_em (ho : o.op = .buildSlice 27 0 #[]) {B : Nat} (hB : B ≤ w.heap.size) :
    o.wp Tryz.prog a w (fun a' w' => ∃ v, a' = a.put o.dst v ∧ Bel w w' ∧ EmL B v w') Q :=
  wp_made (run_bs0 ho) ⟨_, rfl, owns_emptyL w _ B rfl hB, by rw [World.size_alloc]; omega⟩
theorem wp_appE13 {x y : Operand} (ho : o.op = .call { callee := .builtin .append, args := #[x, y], argTypes := #[27, 27] }) {B : Nat} (hx : EmL B (a.eval x) w) {A : Option Addr} {L c : Nat} {rs : List (List Va)} (hy : a.eval y = .slice A L c) (hL : rs.length = L) (hr : RowsIn w B A rs) (hA : A = none → c = 0) (hl : L ≤ 65536) :
    o.wp Tryz.prog a w (fun a' w' => ∃ v, a' = a.put o.dst v ∧ Bel w w' ∧ LO B rs v w') Q := by
  obtain ⟨n0, ex, hv, hB⟩ := hx
  rw [ex] at hv
  subst hL
  obtain ⟨v', w', hr', h2, h3⟩ := run_appE13 o.type n0 A c rs w B hv hr hA hB hl
  unfold Oper.wp execOp
  simp only [ho, resolve, invoke, builtin, Sem.run_bind, Sem.run_pure, Result.andThen_ok, List.map_toArray, List.map_cons, List.map_nil, ex, hy, hr']
  exact ⟨v', rfl, h3, h2, Nat.le_trans hB h3.size⟩
theorem wp_appL {K : Act → World → Prop} {x y : Operand} (ho : o.op = .call { callee := .builtin .append, args := #[x, y], argTypes := #[27, 27] }) {B : Nat} {p : List (List Va)} (hx : LO B p (a.eval x) w) {A : Option Addr} {L c : Nat} {rs : List (List Va)} (hy : a.eval y = .slice A L c) (hL : rs.length = L) (hr : RowsIn w B A rs) (hA : A = none → c = 0) (hl : p.length + L ≤ 65536)
    (h : ∀ v' w', LO B (p ++ rs) v' w' → Grows B w w' → (∀ (k : Nat) (cs : Array Value) (T : TypeId) (fr : Nat × Nat), w.heap[k]? = some (.cells cs T fr) → T ≠ 38 → w'.heap[k]? = w.heap[k]?) → K (a.put o.dst v') w') :
    o.wp Tryz.prog a w K Q := by
  subst hL
  obtain ⟨v', w', hr', h2, h3, h4⟩ := run_appL2 o.type (a.eval x) p A c rs w B hx.1 hr hA hx.2 hl
  unfold Oper.wp execOp
  simp only [ho, resolve, invoke, builtin, Sem.run_bind, Sem.run_pure, Result.andThen_ok, List.map_toArray, List.map_cons, List.map_nil, hy, hr']
  exact h v' w' ⟨h2, Nat.le_trans hx.2 h3.1.size⟩ h3 h4
theorem run_uptoL (A : Option Addr) (L c k : Nat) (hk : k ≤ c) (W : World) :
    (Instr.slice 27 (.slice A L c) none (some (.int .i64 (k : Int))) none).run Tryz.prog W = .ok (.slice A k c) W := by
  have ht := Tryz.underlying27
  have ht' : Tryz.prog.underlying 27 = some (.slice (Tryz.prog.elem 27)) := by simp [Program.elem, ht]
  have he : Tryz.prog.elem 27 = 38 := by simp [Program.elem, ht]
  rw [run_slice_h W _ _ _ _ ht' .i64 _ (by omega) (by omega), he, size_rowT]
  simp [Result.andThen, sliced, Addr.add]
theorem run_fromR {x y : Operand} (ho : o.op = .slice 27 x (some y) none none) {A : Option Addr} {L c k : Nat} (hk : k ≤ L) (hx : a.eval x = .slice A L c) (hy : a.eval y = .int .i64 (k : Nat)) : (execOp a.eval o).run Tryz.prog w = .ok (.value (.slice (adv A c k) (L - k) (c - k))) w := by
  unfold execOp
  simp only [ho, hx, Option.map_some, Option.map_none, hy]
  have h : (Instr.sliceAt 27 (.slice A L c) (some (.int .i64 (k : Int))) none none).run Tryz.prog w = .ok (.slice (adv A c k) (L - k) (c - k)) w := by
    have ht' : Tryz.prog.underlying 27 = some (.slice (Tryz.prog.elem 27)) := by simp [Program.elem, Tryz.underlying27]
    rw [run_sliceAt_slice (h := ht')]
    exact run_fromL A L c k hk w
  rw [Sem.run_bind, h]
  rfl
theorem run_uptoR {x y : Operand} (ho : o.op = .slice 27 x none (some y) none) {A : Option Addr} {L c k : Nat} (hk : k ≤ c) (hx : a.eval x = .slice A L c) (hy : a.eval y = .int .i64 (k : Nat)) : (execOp a.eval o).run Tryz.prog w = .ok (.value (.slice A k c)) w := by
  unfold execOp
  simp only [ho, hx, Option.map_some, Option.map_none, hy]
  have h : (Instr.sliceAt 27 (.slice A L c) none (some (.int .i64 (k : Int))) none).run Tryz.prog w = .ok (.slice A k c) w := by
    have ht' : Tryz.prog.underlying 27 = some (.slice (Tryz.prog.elem 27)) := by simp [Program.elem, Tryz.underlying27]
    rw [run_sliceAt_slice (h := ht')]
    exact run_uptoL A L c k hk w
  rw [Sem.run_bind, h]
  rfl
theorem wp_val {P : Program} {K : Act → World → Prop} {v : Value} (hrun : (execOp a.eval o).run P w = .ok (.value v) w) (h : K (a.put o.dst v) w) : o.wp P a w K Q := by
  unfold Oper.wp; rw [hrun]; exact h
theorem wp_skip {P : Program} {K : Act → World → Prop} {w' : World} (hrun : (execOp a.eval o).run P w = .ok .skip w') (h : K (a.put o.dst undef) w') : o.wp P a w K Q := by
  unfold Oper.wp; rw [hrun]; exact h
theorem run_stR {x y : Operand} (ho : o.op = .store 27 x y) {u n c : Nat} {A : Option Addr} {nm : ByteArray} {Ac R0 : Option Addr} {nc cc m0 d0 : Nat} (hx : a.eval x = .pointer (some ⟨u, 2, none⟩)) (hy : a.eval y = .slice A n c) (hu : w.heap[u]? = some (tbox nm Ac nc cc R0 m0 d0)) :
    (execOp a.eval o).run Tryz.prog w = .ok .skip (w.setCell ⟨u, 2, none⟩ (.slice A n c)) := by
  have c2 := (cell3 hu).2.2
  have f2 : w.frozen? ⟨u, 2, none⟩ = false := by unfold World.frozen?; rw [hu]; rfl
  unfold execOp
  simp only [ho, hx, hy]
  go_simp
end
/-- A table whose rows are replaced by a list of one's own. -/
theorem turn_ok {p0 u : Nat} {wz w : World} {t : Ta} {A R : Option Addr} {c d : Nat} {p : List (List Va)} {v : Value} (h : TaOk wz t A c R d) (hp : wz.heap.size = p0) (hb : Below p0 wz w) (hv : LO p0 p v w) (hlt : p0 < u)
    {nm : ByteArray} {Ac R0 : Option Addr} {nc cc m0 d0 : Nat} (hu : w.heap[u]? = some (tbox nm Ac nc cc R0 m0 d0)) :
    ∃ R2 d2, v = .slice R2 p.length d2 ∧ TaOk (w.setCell ⟨u, 2, none⟩ (.slice R2 p.length d2)) ⟨t.nm, t.cols, p⟩ A c R2 d2 ∧ Below p0 wz (w.setCell ⟨u, 2, none⟩ (.slice R2 p.length d2)) ∧
      (w.setCell ⟨u, 2, none⟩ (.slice R2 p.length d2)).heap[u]? = some (tbox nm Ac nc cc R2 p.length d2) ∧ (∀ k, k ≠ u → (w.setCell ⟨u, 2, none⟩ (.slice R2 p.length d2)).heap[k]? = w.heap[k]?) := by
  obtain ⟨R2, d2, rfl, _, _, _, _⟩ := hv.ok
  have hG : Grows p0 w (w.setCell ⟨u, 2, none⟩ (.slice R2 p.length d2)) := Grows.setCell 2 _ (Nat.le_of_lt hlt) hu (by decide)
  have hb' := hb.trans hG.1
  have hoth : ∀ k, k ≠ u → (w.setCell ⟨u, 2, none⟩ (.slice R2 p.length d2)).heap[k]? = w.heap[k]? := fun k hk => by simp [World.setCell, Array.getElem?_modify, Ne.symm hk]
  have hv' : LO p0 p (.slice R2 p.length d2) (w.setCell ⟨u, 2, none⟩ (.slice R2 p.length d2)) := by
    refine ⟨hv.1.same hG fun k hk => hoth k fun e => ?_, Nat.le_trans hv.2 hG.1.size⟩
    obtain ⟨xs, ho, _⟩ := hv.1
    obtain ⟨_, cs, fr, hcs⟩ := owns_typed ho k hk
    rw [e, hu] at hcs
    cases hcs
  obtain ⟨R3, d3, e3, hr3, hl3, hm3, hn3⟩ := hv'.ok
  cases e3
  refine ⟨R2, d2, rfl, ⟨h.co.kept (hp ▸ hb'), h.cl, h.cm, h.cn, hr3, hl3, hm3, hn3⟩, hb', ?_, hoth⟩
  simp [World.setCell, Array.getElem?_modify, hu]
end Go.Proofs.YtmjckdgomlppeaaGreatDoor
end
section
namespace Go.Proofs.YtmjckdgomlppeaaGreatDoor
open Go.RowKit Go.Shelf
attribute [local go_sem] Oper.semAt_some

theorem btp {p : Nat} {w w1 w2 : World} (h1 : Below p w w1) (hp : w.heap.size = p) (h2 : Below w1.heap.size w1 w2) : Below p w w2 := by subst hp; exact bt h1 h2
theorem tmod_lt {a : Int} {n : Nat} (hn : 0 < n) : a.tmod n < n := by
  have := Int.tmod_lt_of_pos a (show (0 : Int) < n by omega)
  omega
set_option maxRecDepth 100000 in
set_option maxHeartbeats 8000000 in
theorem orders_walk (p0 : Nat) (t : Ta) (A R : Option Addr) (c d : Nat) (turn : Int) (wz : World) (h : TaOk wz t A c R d) (hT : Tabs wz) (hp : wz.heap.size = p0) :
    Calls Tryz.prog 6 #[TV t.nm A t.cols.length c R t.rows.length d, .int .i64 turn] wz fun e w' => e = .returned (.bool true) ∧ Below p0 wz w' := by
  have HT := Lib.hid (show ∀ W, Below p0 wz W → Tabs W from fun W hb => hT.kept (hp ▸ hb))
  have HA := Lib.hid (show ∀ W, Below p0 wz W → TaOk W t A c R d from fun W hb => h.kept (hp ▸ hb))
  obtain ⟨q, hq⟩ : ∃ q, largeC [t] = q := ⟨_, rfl⟩
  have HQ := Lib.hid hq
  have h0 := ba wz (tbox t.nm A t.cols.length c R t.rows.length d)
  rw [hp] at h0
  have hx0 := (MapKept.heap_alloc wz (tbox t.nm A t.cols.length c R t.rows.length d)).1
  rw [hp] at hx0
  have HX0 := Lib.hid hx0
  have HB := Lib.hid h0
  have HP := Lib.hid hp
  clear hT h hq h0 hx0 hp
  go_enter Tryz.func6, Tryz.ntmps6
  go_upto_region 1 with fail
  generalize wz.alloc (tbox t.nm A t.cols.length c R t.rows.length d) = w1 at HX0 HB ⊢
  rw [HP.out]
  have hc1 := ct_one w1 t (HA.out _ HB.out)
  have h1 := ba w1 (tbox t.nm A t.cols.length c R t.rows.length d)
  have HX1 := Lib.hid ((h1.block p0 (Array.getElem?_eq_some_iff.1 HX0.out).1).trans HX0.out)
  have HB := Lib.hid (btp HB.out HP.out h1)
  obtain ⟨x0, x1, x2⟩ := cell3 HX0.out
  go_wp2_with fail
  refine (large13_any _ 1 [t] _ hc1 (show 1 ≤ 9223372036854775807 by decide) HQ.out).mono ?_
  clear x0 x1 x2 hc1 h1
  generalize w1.alloc (tbox t.nm A t.cols.length c R t.rows.length d) = w2 at HX1 HB ⊢
  rintro e w3 ⟨rfl, hb⟩
  have HX := Lib.hid ((hb.block p0 (Array.getElem?_eq_some_iff.1 HX1.out).1).trans HX1.out)
  have HB := Lib.hid (btp HB.out HP.out hb)
  clear hb
  cases q with
  | true =>
    go_wp2_with fail
    refine (lives13_yes w3 (HT.out _ HB.out)).mono ?_
    rintro e w4 ⟨rfl, hb⟩
    have HB := Lib.hid (btp HB.out HP.out hb)
    clear hb
    go_wp2_with fail
    go_ret
    exact ⟨rfl, HB.out⟩
  | false =>
    have HS := Lib.hid ((smls_of HQ.out).2 t (List.mem_singleton.2 rfl))
    obtain ⟨x0, x1, x2⟩ := cell3 HX.out
    have h1 := ba w3 (tbox t.nm A t.cols.length c R t.rows.length d)
    have HU := Lib.hid (MapKept.heap_alloc w3 (tbox t.nm A t.cols.length c R t.rows.length d)).1
    have HX0' := Lib.hid HX.out
    have HX := Lib.hid ((h1.block p0 (Array.getElem?_eq_some_iff.1 HX.out).1).trans HX.out)
    have HUl := Lib.hid (show p0 < w3.heap.size from (Array.getElem?_eq_some_iff.1 (show w3.heap[p0]? = some _ from HX0'.out)).1)
    have HB := Lib.hid (btp HB.out HP.out h1)
    go_upto_region 4 with fail
    clear x0 x1 x2 h1
    generalize w3.alloc (tbox t.nm A t.cols.length c R t.rows.length d) = w4 at HX HU HB ⊢
    generalize w3.heap.size = u at HU HUl ⊢
    obtain ⟨x0, x1, x2⟩ := cell3 HX.out
    go_upto_if 15 with fail
    go_cut [6] from 7 (fun v wx => ∃ k : Nat, v = .int .i64 k ∧ k ≤ t.rows.length ∧ Hid (Below p0 wz wx) ∧ Hid (wx.heap[p0]? = some (tbox t.nm A t.cols.length c R t.rows.length d)) ∧ Hid (wx.heap[u]? = some (tbox t.nm A t.cols.length c R t.rows.length d)))
    case first =>
      by_cases hn : 0 < (t.rows.length : Int)
      · by_cases hk : turn.tmod t.rows.length < 0
        · go_wp2_with fail
          go_meet
          exact ⟨0, rfl, Nat.zero_le _, HB, HX, HU⟩
        · go_wp2_with fail
          go_meet
          have hl := tmod_lt (a := turn) (n := t.rows.length) (by omega)
          exact ⟨(turn.tmod t.rows.length).toNat, by go_num, by omega, HB, HX, HU⟩
      · go_wp2_with fail
        go_meet
        exact ⟨0, rfl, Nat.zero_le _, HB, HX, HU⟩
    case rest =>
      obtain ⟨k, rfl, hk, HB, HX, HU⟩ := hcut
      clear x0 x1 x2
      obtain ⟨x0, x1, x2⟩ := cell3 HX.out
      have hul := (Array.getElem?_eq_some_iff.1 HX.out).1
      have HRI := Lib.hid (show ∀ W, Below p0 wz W → RowsIn W p0 (adv R d k) (t.rows.drop k) ∧ RowsIn W p0 R (t.rows.take k) from fun W hb => by
        have h := HA.out wz (Below.refl _ _)
        exact ⟨((h.ro.drop d k h.rl).inB (Nat.le_of_eq HP.out)).kept (Nat.le_of_eq HP.out.symm) (HP.out ▸ hb), ((h.ro.take k).inB (Nat.le_of_eq HP.out)).kept (Nat.le_of_eq HP.out.symm) (HP.out ▸ hb)⟩)
      have HRn := Lib.hid (show (adv R d k = none → d - k = 0) ∧ (R = none → d = 0) ∧ t.rows.length ≤ d ∧ t.rows.length ≤ 5000 from by
        have h := HA.out wz (Below.refl _ _)
        exact ⟨adv_none h.rn (by have := h.rl; omega), h.rn, h.rl, HS.out.n⟩)
      have hkd : k ≤ d := by have := HRn.out.2.2.1; omega
      have hB0 : p0 ≤ wc.heap.size := by have := HB.out.size; have := HP.out; omega
      go_upto_region 9 with fail
      refine wp_region_inv (n := 10) (ds := [some 23, some 24, some 25, some 26, some 27, some 28, some 29, some 30, some 31, some 32, some 33, some 34, none]) (need := [[], [], [1], [], [1, 2, 3], [0, 1, 2, 3, 4], [], [6], [], [6, 7, 8], [0, 1, 2, 3, 4, 5, 6, 7, 8, 9], [0, 1, 2, 3, 4, 5, 6, 7, 8, 9, 10], [0, 1, 2, 3, 4, 5, 6, 7, 8, 9, 10, 11]]) (R := Bel) (Gs := [
          (EmL p0),
          (fun v _ => v = .pointer (some ⟨p0, 2, none⟩)),
          (fun v _ => v = .slice R t.rows.length d),
          (fun v _ => v = .int .i64 (k : Nat)),
          (fun v _ => v = .slice (adv R d k) (t.rows.length - k) (d - k)),
          (LO p0 (t.rows.drop k)),
          (fun v _ => v = .pointer (some ⟨p0, 2, none⟩)),
          (fun v _ => v = .slice R t.rows.length d),
          (fun v _ => v = .int .i64 (k : Nat)),
          (fun v _ => v = .slice R k d)])
        (by kernel_rfl) (by kernel_rfl) (by decide) (by kernel_rfl) (by kernel_rfl) (by kernel_rfl) (fun x => Below.refl _ x) (fun _ _ _ h k => bt h k) ?_ ?_
      · refine Each.cons rfl (EmL.keeps _) (StepOk.plain (g := (EmL p0)) rfl rfl rfl (fun a w hs hR hr pre => ?_)) ?_
        · exact wp_em rfl (Nat.le_trans hB0 (bt (Below.drew (Below.refl _ _)) hR).size)
        refine Each.cons rfl (Keeps.const _) (StepOk.plain (g := (fun v _ => v = .pointer (some ⟨p0, 2, none⟩))) rfl rfl rfl (fun a w hs hR hr pre => ?_)) ?_
        · have ep : a.eval (.tmp 2) = .pointer (some ⟨p0, 0, none⟩) := hr 2 (by decide)
          exact wp_pure (run_faT2 rfl ep) rfl
        refine Each.cons rfl (Keeps.const _) (StepOk.plain (g := (fun v _ => v = .slice R t.rows.length d)) rfl rfl rfl (fun a w hs hR hr pre => ?_)) ?_
        · have e24 : a.eval (.tmp 24) = .pointer (some ⟨p0, 2, none⟩) := pre 1 (by decide)
          exact wp_pure (run_ldRs rfl e24 ((hR.cell (p := ⟨p0, _, none⟩) hul).trans x2)) rfl
        refine Each.cons rfl (Keeps.const _) (StepOk.plain (g := (fun v _ => v = .int .i64 (k : Nat))) rfl rfl rfl (fun a w hs hR hr pre => ?_)) ?_
        · have ep : a.eval (.tmp 6) = .int .i64 (k : Nat) := hr 6 (by decide)
          exact wp_pure (run_move rfl) ep
        refine Each.cons rfl (Keeps.const _) (StepOk.plain (g := (fun v _ => v = .slice (adv R d k) (t.rows.length - k) (d - k))) rfl rfl rfl (fun a w hs hR hr pre => ?_)) ?_
        · have e25 : a.eval (.tmp 25) = .slice R t.rows.length d := pre 2 (by decide)
          have e26 : a.eval (.tmp 26) = .int .i64 (k : Nat) := pre 3 (by decide)
          exact wp_pure (run_fromR rfl hk e25 e26) rfl
        refine Each.cons rfl (LO.keeps _ _) (StepOk.plain (g := (LO p0 (t.rows.drop k))) rfl rfl rfl (fun a w hs hR hr pre => ?_)) ?_
        · have h23 : EmL p0 (a.eval (.tmp 23)) w := pre 0 (by decide)
          have e27 : a.eval (.tmp 27) = .slice (adv R d k) (t.rows.length - k) (d - k) := pre 4 (by decide)
          exact wp_appE13 rfl h23 e27 (by rw [List.length_drop]) (HRI.out w (btp HB.out HP.out (bt (Below.drew (Below.refl _ _)) hR))).1 HRn.out.1 (by have := HRn.out.2.2.2; omega)
        refine Each.cons rfl (Keeps.const _) (StepOk.plain (g := (fun v _ => v = .pointer (some ⟨p0, 2, none⟩))) rfl rfl rfl (fun a w hs hR hr pre => ?_)) ?_
        · have ep : a.eval (.tmp 2) = .pointer (some ⟨p0, 0, none⟩) := hr 2 (by decide)
          exact wp_pure (run_faT2 rfl ep) rfl
        refine Each.cons rfl (Keeps.const _) (StepOk.plain (g := (fun v _ => v = .slice R t.rows.length d)) rfl rfl rfl (fun a w hs hR hr pre => ?_)) ?_
        · have e29 : a.eval (.tmp 29) = .pointer (some ⟨p0, 2, none⟩) := pre 6 (by decide)
          exact wp_pure (run_ldRs rfl e29 ((hR.cell (p := ⟨p0, _, none⟩) hul).trans x2)) rfl
        refine Each.cons rfl (Keeps.const _) (StepOk.plain (g := (fun v _ => v = .int .i64 (k : Nat))) rfl rfl rfl (fun a w hs hR hr pre => ?_)) ?_
        · have ep : a.eval (.tmp 6) = .int .i64 (k : Nat) := hr 6 (by decide)
          exact wp_pure (run_move rfl) ep
        refine Each.cons rfl (Keeps.const _) (StepOk.plain (g := (fun v _ => v = .slice R k d)) rfl rfl rfl (fun a w hs hR hr pre => ?_)) ?_
        · have e30 : a.eval (.tmp 30) = .slice R t.rows.length d := pre 7 (by decide)
          have e31 : a.eval (.tmp 31) = .int .i64 (k : Nat) := pre 8 (by decide)
          exact wp_pure (run_uptoR rfl hkd e30 e31) rfl
        exact Each.nil
      · intro v w1' hB hG
        have h5 : LO p0 (t.rows.drop k) (v 5) w1' := hG 5 (by decide)
        have e9 : v 9 = .slice R k d := hG 9 (by decide)
        clear hG
        simp only [List.take_succ_cons, List.take_zero, puts, Act.put, List.setIfInBounds_toArray, List.set_cons_zero, List.set_cons_succ, Nat.reduceAdd, e9]
        have hB1 := btp HB.out HP.out (bt (Below.drew (Below.refl _ _)) hB)
        have hX1 := ((bt (Below.drew (Below.refl _ _)) hB).block p0 hul).trans HX.out
        have hU1 := ((bt (Below.drew (Below.refl _ _)) hB).block u (Array.getElem?_eq_some_iff.1 HU.out).1).trans HU.out
        refine wpAny_next (i := 10) (fuel := 2) (by kernel_rfl) rfl rfl ?_
        refine wp_appL rfl (B := p0) (p := t.rows.drop k) (A := R) (L := k) (c := d) (rs := t.rows.take k) h5 rfl (by rw [List.length_take]; omega) (HRI.out w1' hB1).2 HRn.out.2.1 (by rw [List.length_drop]; have := HRn.out.2.2.2; omega) ?_
        intro v10 w8 hLO hG hO
        clear h5 e9
        have hB10 := hB1.trans hG.1
        have hU10 : w8.heap[u]? = some (tbox t.nm A t.cols.length c R t.rows.length d) := (hO u _ _ _ hU1 (by decide)).trans hU1
        have hX10 : w8.heap[p0]? = some (tbox t.nm A t.cols.length c R t.rows.length d) := (hO p0 _ _ _ hX1 (by decide)).trans hX1
        obtain ⟨R2, d2, rfl, hok2, hB2, hU2, hO2⟩ := turn_ok (HA.out wz (Below.refl _ _)) HP.out hB10 hLO HUl.out hU10
        have HX2 := Lib.hid ((hO2 p0 (Nat.ne_of_lt HUl.out)).trans hX10)
        refine wpAny_next (i := 11) (fuel := 1) (by kernel_rfl) rfl rfl ?_
        refine wp_val (run_faT2 rfl (u := u) rfl) ?_
        refine wpAny_next (i := 12) (fuel := 0) (by kernel_rfl) rfl rfl ?_
        refine wp_skip (run_stR (A := R2) (n := (t.rows.drop k ++ t.rows.take k).length) (c := d2) rfl rfl rfl hU10) ?_
        refine wpAny_done (by kernel_rfl) ?_ _
        have HB := Lib.hid hB2
        have HU := Lib.hid hU2
        have HK2 := Lib.hid hok2
        clear hok2 hB2 hU2 hO2 hLO hG hU10 hX10 hB10 hO
        generalize w8.setCell ⟨u, 2, none⟩ (.slice R2 (t.rows.drop k ++ t.rows.take k).length d2) = w9 at HB HU HK2 HX2 ⊢
        simp only [Act.put, List.setIfInBounds_toArray, List.set_cons_zero, List.set_cons_succ]
        obtain ⟨y0, y1, y2⟩ := cell3 HX2.out
        obtain ⟨z0, z1, z2⟩ := cell3 HU.out
        have hul2 := (Array.getElem?_eq_some_iff.1 HX2.out).1
        have huu := (Array.getElem?_eq_some_iff.1 HU.out).1
        have HF1 := Lib.hid (show ∀ x ∈ [t], Few x from fun x hx => by obtain rfl := List.mem_singleton.1 hx; exact HS.out.few)
        have HF2 := Lib.hid (show ∀ x ∈ [turnT t k], Few x from fun x hx => by
          obtain rfl := List.mem_singleton.1 hx
          have h := HS.out.few
          have hm : ∀ r, r ∈ (turnT t k).rows → r ∈ t.rows := fun r hr => by
            rcases List.mem_append.1 hr with h | h
            · exact List.mem_of_mem_drop h
            · exact List.mem_of_mem_take h
          exact ⟨h.co, by have := h.n; simp only [turnT, List.length_append, List.length_drop, List.length_take]; omega, fun r hr => h.l r (hm r hr)⟩)
        go_upto_region 10 with fail
        refine wp_region_seq (ds := [some 35, some 36, some 37, some 38, some 39, some 40, some 41, some 42, some 4]) (need := [[], [0], [0, 1], [0, 1, 2], [0, 1], [0, 1, 4], [0, 1, 2, 3, 4, 5], [0, 1, 2, 3, 4, 5, 6], [0, 1, 2, 3, 4, 5, 6, 7]]) (R := Bel) (Gs := [
            (fun v _ => v = .bool true),
            (fun v _ => v = .bool true),
            (fun v _ => v = TV t.nm A t.cols.length c R t.rows.length d),
            (OneT t),
            (fun v _ => v = TV t.nm A t.cols.length c R2 (t.rows.drop k ++ t.rows.take k).length d2),
            (OneT (turnT t k)),
            (fun v _ => v = .bool true),
            (fun v _ => v = .bool true),
            (fun v _ => v = .bool true)])
          (by kernel_rfl) (by kernel_rfl) (by kernel_rfl) (fun x => Below.refl _ x) (fun _ _ _ h k => bt h k) ?_ ?_
        · refine Each.cons rfl (Keeps.const _) (StepOk.plain (g := (fun v _ => v = .bool true)) rfl rfl rfl (fun a w hs hR hr pre => ?_)) ?_
          · exact wp_fn (vs := #[]) rfl Tryz.func9 (by kernel_rfl) (by kernel_rfl) (by simp only [List.map_toArray, List.map_nil]) ((lives13_yes w (HT.out _ (btp HB.out HP.out hR))).mono fun _ _ ⟨h1, h2⟩ => ⟨_, h1, h2, rfl⟩)
          refine Each.cons rfl (Keeps.const _) (StepOk.plain (g := (fun v _ => v = .bool true)) rfl rfl rfl (fun a w hs hR hr pre => ?_)) ?_
          · have e35 : a.eval (.tmp 35) = .bool true := pre 0 (by decide)
            exact wp_pure (run_move rfl) e35
          refine Each.cons rfl (Keeps.const _) (StepOk.guarded 1 36 true (g := (fun v _ => v = TV t.nm A t.cols.length c R t.rows.length d)) rfl rfl rfl rfl (fun a w hs hR hr pre => ⟨pre 1 (by decide), ?_⟩)) ?_
          · have ep : a.eval (.tmp 2) = .pointer (some ⟨p0, 0, none⟩) := hr 2 (by decide)
            exact wp_pure (run_ldT rfl ep ((hR.cell (p := ⟨p0, _, none⟩) hul2).trans y0) ((hR.cell (p := ⟨p0, _, none⟩) hul2).trans y1) ((hR.cell (p := ⟨p0, _, none⟩) hul2).trans y2)) rfl
          refine Each.cons rfl (OneT.keeps _) (StepOk.guarded 1 36 true (g := (OneT t)) rfl rfl rfl rfl (fun a w hs hR hr pre => ⟨pre 1 (by decide), ?_⟩)) ?_
          · have e37 : a.eval (.tmp 37) = TV t.nm A t.cols.length c R t.rows.length d := pre 2 (by decide)
            exact wp_one rfl ⟨_, _, _, _, e37, HA.out _ (btp HB.out HP.out hR)⟩
          refine Each.cons rfl (Keeps.const _) (StepOk.guarded 1 36 true (g := (fun v _ => v = TV t.nm A t.cols.length c R2 (t.rows.drop k ++ t.rows.take k).length d2)) rfl rfl rfl rfl (fun a w hs hR hr pre => ⟨pre 1 (by decide), ?_⟩)) ?_
          · have ep : a.eval (.tmp 5) = .pointer (some ⟨u, 0, none⟩) := hr 5 (by decide)
            exact wp_pure (run_ldT rfl ep ((hR.cell (p := ⟨u, _, none⟩) huu).trans z0) ((hR.cell (p := ⟨u, _, none⟩) huu).trans z1) ((hR.cell (p := ⟨u, _, none⟩) huu).trans z2)) rfl
          refine Each.cons rfl (OneT.keeps _) (StepOk.guarded 1 36 true (g := (OneT (turnT t k))) rfl rfl rfl rfl (fun a w hs hR hr pre => ⟨pre 1 (by decide), ?_⟩)) ?_
          · have e39 : a.eval (.tmp 39) = TV t.nm A t.cols.length c R2 (t.rows.drop k ++ t.rows.take k).length d2 := pre 4 (by decide)
            exact wp_one (t := turnT t k) rfl ⟨_, _, _, _, e39, HK2.out.kept hR⟩
          refine Each.cons rfl (Keeps.const _) (StepOk.guarded 1 36 true (g := (fun v _ => v = .bool true)) rfl rfl rfl rfl (fun a w hs hR hr pre => ⟨pre 1 (by decide), ?_⟩)) ?_
          · have h38 : OneT t (a.eval (.tmp 38)) w := pre 3 (by decide)
            have h40 : OneT (turnT t k) (a.eval (.tmp 40)) w := pre 5 (by decide)
            obtain ⟨g1, e38, hc1⟩ := h38
            obtain ⟨g2, e40, hc2⟩ := h40
            exact wp_fn (vs := #[.slice (some ⟨g1, 0, none⟩) 1 1, .slice (some ⟨g2, 0, none⟩) 1 1]) rfl Tryz.func24 (by kernel_rfl) (by kernel_rfl) (by simp only [List.map_toArray, List.map_cons, List.map_nil, e38, e40]) ((cSame_any _ _ 1 1 [t] [turnT t k] w hc1 hc2 (show 1 ≤ 9223372036854775807 by decide) HF1.out HF2.out (same_turn t k)).mono fun _ _ ⟨h1, h2⟩ => ⟨_, h1, h2, rfl⟩)
          refine Each.cons rfl (Keeps.const _) (StepOk.plain (g := (fun v _ => v = .bool true)) rfl rfl rfl (fun a w hs hR hr pre => ?_)) ?_
          · have e36 : a.eval (.tmp 36) = .bool true := pre 1 (by decide)
            have e41 : a.eval (.tmp 41) = .bool true := pre 6 (by decide)
            exact wp_pure (run_pick rfl true e36) (by simpa using e41)
          refine Each.cons rfl (Keeps.const _) (StepOk.plain (g := (fun v _ => v = .bool true)) rfl rfl rfl (fun a w hs hR hr pre => ?_)) ?_
          · have e42 : a.eval (.tmp 42) = .bool true := pre 7 (by decide)
            exact wp_pure (run_assign rfl) e42
          exact Each.nil
        · intro v w1 hB hG
          have e8 : v 8 = .bool true := hG 8 (by decide)
          clear hG
          simp only [puts, Act.put, List.setIfInBounds_toArray, List.set_cons_zero, List.set_cons_succ, Nat.reduceAdd, e8]
          have HB2 := Lib.hid (btp HB.out HP.out hB)
          clear hB
          go_wp2_with fail
          go_ret
          exact ⟨rfl, HB2.out⟩
end Go.Proofs.YtmjckdgomlppeaaGreatDoor
end
section
namespace Go.Proofs.YtmjckdgomlppeaaGreatDoor
open Go.RowKit Go.Shelf

theorem lenP_take_succ (rs : List (List Va)) (j : Nat) (h : j < rs.length) : lenP (rs.take (j + 1)) = lenP (rs.take j) + (1 + sumV rs[j]) := by
  rw [List.take_succ_eq_append_getElem h, lenP_snoc]
  rfl

set_option maxRecDepth 100000 in
set_option maxHeartbeats 1000000 in
theorem used_any (A : Option Addr) (c L : Nat) (rs : List (List Va)) (w : World) (h : RowsAt w A rs) (hL : rs.length = L) (hok : ∀ r ∈ rs, okR r = true) (hl : L ≤ 65536) :
    Calls Tryz.prog 51 #[.slice A L c] w fun e w' => e = .returned (.int .i64 ((1 + lenP rs + 2 * L : Nat) : Int)) ∧ Below w.heap.size w w' := by
  have HR := Lib.hid h
  have HK := Lib.hid hok
  have HL := Lib.hid hL
  clear h hok hL
  go_enter Tryz.func51, Tryz.ntmps51
  go_wp2_with fail
  go_loopw [3, 4] (fun s i wr => ∃ j S : Nat, j ≤ L ∧ i = .int .i64 j ∧ s = .int .i64 S ∧ Hid (S = 1 + lenP (rs.take j) + 2 * j) ∧ S ≤ 1 + 2200 * j ∧ Hid (Below w.heap.size w wr)) (fun _ i _ => L - (intOf i).toNat)
  case atStart => exact ⟨0, 1, by omega, rfl, rfl, Lib.hid rfl, by omega, Lib.hid (Below.refl _ _)⟩
  case round =>
    obtain ⟨j, S, hj, rfl, rfl, HS, hS, HB⟩ := hrel
    by_cases hlt : j < L
    · have hlt' : j < rs.length := by rw [HL.out]; exact hlt
      obtain ⟨b, off, rfl, A', c', c0, hr⟩ := (HR.out.kept HB.out).cellAt hlt'
      have hokj := HK.out rs[j] (List.getElem_mem hlt')
      have HN := Lib.hid (lenP_take_succ rs j hlt')
      have hs : sumV rs[j] ≤ 2112 := by
        obtain ⟨h32, hall⟩ := okR_parts hokj
        have := sumV_le _ hall
        omega
      generalize rs[j] = r at c0 hr hokj HN hs
      have HRj := Lib.hid hr
      clear hr
      go_wp2_with fail
      refine (refPut_any A' c' r _ HRj.out hokj).mono ?_
      rintro e w2 ⟨g, cap, rfl, _, hb2⟩
      have HB2 := Lib.hid (bt HB.out hb2)
      clear hb2 HRj c0
      go_wp2_with fail
      go_roundw
      case rel => exact ⟨j + 1, S + (1 + sumV r) + 2, by omega, by go_num, by go_num, Lib.hid (by have h1 := HN.out; have h2 := HS.out; omega), by omega, HB2⟩
      case measure => simp [intOf]; omega
    · have HE := Lib.hid (show S = 1 + lenP rs + 2 * L by rw [HS.out, List.take_of_length_le (by rw [HL.out]; omega), show j = L by omega])
      go_wp2_with fail
      go_ret
      exact ⟨congrArg (fun x : Int => Ending.returned (.int .i64 x)) (show (S : Int) = _ by have := HE.out; omega), HB.out⟩
end Go.Proofs.YtmjckdgomlppeaaGreatDoor
end
section
namespace Go.Proofs.YtmjckdgomlppeaaGreatDoor
open Go.RowKit Go.Shelf

theorem info_int : (Tryz.prog.info? 3).map (fun i => (i.zero, i.size, i.bytes)) = some (some (.int .i64 0), 1, 8) := by kernel_rfl
/-- Ints of the call's own. -/
def OwnI (w : World) (B : Nat) (v : Value) (l : List Int) : Prop := w.ownsRow B 3 1 v l.length (l.map (Value.int .i64))
theorem OwnI.nil (w : World) (B : Nat) : OwnI w B (.slice none 0 0) [] := World.ownsRow_nil _ _ _ _
theorem OwnI.kept {w w' : World} {B : Nat} {v : Value} {l : List Int} (h : OwnI w B v l) (hb : Below w.heap.size w w') : OwnI w' B v l := owns_same h (fun k hk => hb.block k (h.lt k hk).2)
theorem Buf.kept' {w w' : World} {B g cap N : Nat} {l : List Int} (h : Buf w B g cap N l) (hb : Below w.heap.size w w') : Buf w' B g cap N l := ⟨h.len, owns_same h.own (fun k hk => hb.block k (h.own.lt k hk).2)⟩
/-- An append to ints leaves bytes as they were, and the other way round. -/
theorem Buf.far {w w' : World} {B B' g cap N : Nat} {l ss : List Int} {v : Value} (h : Buf w B g cap N l) (hi : OwnI w B' v ss) (hg : w.grownBy w' v.ownBlock) : Buf w' B g cap N l := by
  refine ⟨h.len, owns_same h.own (fun k hk => ?_)⟩
  obtain ⟨_, cs, fr, hcs⟩ := owns_typed h.own k hk
  refine hg.block k (lt_of_block hcs) (fun e => ?_)
  obtain ⟨_, cs', fr', hcs'⟩ := owns_typed hi k e.symm
  rw [hcs] at hcs'
  cases hcs'
theorem OwnI.far {w w' : World} {B B' g cap N : Nat} {l ss : List Int} {v : Value} (h : OwnI w B' v ss) (hi : Buf w B g cap N l) (hg : w.grownBy w' (some g)) : OwnI w' B' v ss := by
  refine owns_same h (fun k hk => ?_)
  obtain ⟨_, cs, fr, hcs⟩ := owns_typed h k hk
  refine hg.block k (lt_of_block hcs) (fun e => ?_)
  obtain ⟨_, cs', fr', hcs'⟩ := owns_typed hi.own k (by rw [e]; rfl)
  rw [hcs] at hcs'
  cases hcs'
theorem OwnI.cell {w : World} {B : Nat} {v : Value} {l : List Int} (h : OwnI w B v l) (h0 : 0 < l.length) : ∃ g cap, v = .slice (some ⟨g, 0, none⟩) l.length cap ∧ ∀ i : Nat, i < l.length → w.cell? ⟨g, i, none⟩ = some (.int .i64 (l.getD i 0)) := by
  rcases h.2 with ⟨_, hn⟩ | ⟨g, cap, cur, hv, hb, hg, h1, _, h2, ht⟩
  · omega
  · refine ⟨g, cap, hv, fun i hi => ?_⟩
    have : (cur.toList.take (l.length * 1))[i]? = (l.map (Value.int .i64))[i]? := by rw [ht]
    rw [List.getElem?_take_of_lt (by omega), Array.getElem?_toList] at this
    simp [World.cell?, hg, this, List.getD, hi]

theorem run_pushI (ty : TypeId) (B : Nat) (v : Value) (l : List Int) (x : Int) (W : World) (nb : Nat) (hv : OwnI W B v l) (hnb : W.heap[nb]? = some (.cells #[.int .i64 x] 3 (0, 0))) (hB : B ≤ W.heap.size) (hl : l.length ≤ 65536) :
    ∃ v' w', (Builtin.append_ #[111, 111] ty #[v, .slice (some ⟨nb, 0, none⟩) 1 1]).run Tryz.prog W = .ok v' w' ∧ OwnI w' B v' (l ++ [x]) ∧ W.grownBy w' v.ownBlock := by
  obtain ⟨i0, hi, hz0, hz1, hz2⟩ := info_parts info_int
  obtain ⟨g, cap, w', h, hown', hgr, hat, hlt⟩ := run_append_lies (P := Tryz.prog) W 111 ty B 3 i0 _ 1 8 Tryz.underlying111 hi hz0 hz1 hz2 rfl (by decide) v l.length (l.map (Value.int .i64)) hv ⟨nb, 0, none⟩ 1 1 [.int .i64 x] rfl (World.news_of_block hnb) (by simp [Value.oneCell']) (by omega) (by simp [maxLen]; omega) (by omega) hB _ rfl
  exact ⟨_, w', h, by unfold OwnI; simpa using hown', hgr⟩
theorem wpList_pushI {ops : Array Oper} {rest : List Oper} {o : Oper} {a : Act} {Q : Exit → Act → World → Prop} (hgd : o.guard = none) (s x : Operand)
    (ho : o.op = .call { callee := .builtin .append, args := #[s, x], argTypes := #[111, 111] }) (B : Nat) (v : Value) (l : List Int) (y : Int) (W : World) (nb : Nat) (hs : a.eval s = v) (hx : a.eval x = .slice (some ⟨nb, 0, none⟩) 1 1) (hv : OwnI W B v l) (hnb : W.heap[nb]? = some (.cells #[.int .i64 y] 3 (0, 0))) (hB : B ≤ W.heap.size) (hl : l.length ≤ 65536)
    (h : ∀ v' w', OwnI w' B v' (l ++ [y]) → W.grownBy w' v.ownBlock → wpList Tryz.prog ops Q rest (a.put o.dst v') w') :
    wpList Tryz.prog ops Q (o :: rest) a W := by
  refine wpList_plain hgd fun K hK => ?_
  obtain ⟨v', w', hr', h2, h3⟩ := run_pushI o.type B v l y W nb hv hnb hB hl
  unfold Oper.wp execOp
  simp only [ho, resolve, invoke, builtin, Sem.run_bind, Sem.run_pure, Result.andThen_ok, List.map_toArray, List.map_cons, List.map_nil, hs, hx, hr']
  exact hK _ _ (h v' w' h2 h3)

theorem run_appO (ty : TypeId) (B g cap N : Nat) (l0 : List Int) (A : Option Addr) (L c : Nat) (l : List Int) (W : World) (hbuf : Buf W B g cap N l0) (hr : BytesAt W A l) (hL : l.length = L) (h0 : 0 < L) (hl : N + L ≤ 10000000) (hB : B ≤ W.heap.size) :
    ∃ g' cap' w', (Builtin.append_ #[49, 49] ty #[.slice (some ⟨g, 0, none⟩) N cap, .slice A L c]).run Tryz.prog W = .ok (.slice (some ⟨g', 0, none⟩) (N + L) cap') w' ∧ Buf w' B g' cap' (N + L) (l0 ++ l) ∧ W.grownBy w' (some g) := by
  obtain ⟨i0, hi, hz0, hz1, hz2⟩ := info_parts info_byte
  subst hL
  rcases hr.1 with h1 | ⟨ba, off, rfl, hlt, hc⟩
  · simp at h1; subst h1; simp at h0
  · obtain ⟨g', cap', w', h, hown, hg, hat, _⟩ := run_append_lies (P := Tryz.prog) W 49 ty B 5 i0 _ 1 1 Tryz.underlying49 hi hz0 hz1 hz2 rfl (by decide) _ N (l0.map (Value.int .u8)) hbuf.own ⟨ba, off, none⟩ l.length c (l.map (Value.int .u8)) (by simp) (news_of_bytes hr) (by intro u hu; obtain ⟨x, _, rfl⟩ := List.mem_map.1 hu; rfl) h0 (by simp [maxLen]; omega) (by omega) hB _ rfl
    exact ⟨g', cap', w', h, ⟨by simp [hbuf.len], by simpa using hown⟩, hg⟩
theorem wpList_appO {ops : Array Oper} {rest : List Oper} {o : Oper} {a : Act} {Q : Exit → Act → World → Prop} (hgd : o.guard = none) (s x : Operand)
    (ho : o.op = .call { callee := .builtin .append, args := #[s, x], argTypes := #[49, 49] }) (B g cap N : Nat) (l0 : List Int) (A : Option Addr) (L c : Nat) (l : List Int) (W : World) (hs : a.eval s = .slice (some ⟨g, 0, none⟩) N cap) (hx : a.eval x = .slice A L c) (hbuf : Buf W B g cap N l0) (hr : BytesAt W A l) (hL : l.length = L) (h0 : 0 < L) (hl : N + L ≤ 10000000) (hB : B ≤ W.heap.size)
    (h : ∀ g' cap' w', Buf w' B g' cap' (N + L) (l0 ++ l) → W.grownBy w' (some g) → wpList Tryz.prog ops Q rest (a.put o.dst (.slice (some ⟨g', 0, none⟩) (N + L) cap')) w') :
    wpList Tryz.prog ops Q (o :: rest) a W := by
  refine wpList_plain hgd fun K hK => ?_
  obtain ⟨g', cap', w', hr', h2, h3⟩ := run_appO o.type B g cap N l0 A L c l W hbuf hr hL h0 hl hB
  unfold Oper.wp execOp
  simp only [ho, resolve, invoke, builtin, Sem.run_bind, Sem.run_pure, Result.andThen_ok, List.map_toArray, List.map_cons, List.map_nil, hs, hx, hr']
  exact hK _ _ (h g' cap' w' h2 h3)
theorem step_appO {ops : Array Oper} {o : Oper} {a : Act} {K : Act → World → Prop} {Q : Exit → Act → World → Prop} {E : Prop} (hgd : o.guard = none) (s x : Operand)
    (ho : o.op = .call { callee := .builtin .append, args := #[s, x], argTypes := #[49, 49] }) (B g cap N : Nat) (l0 : List Int) (A : Option Addr) (L c : Nat) (l : List Int) (W : World) (hs : a.eval s = .slice (some ⟨g, 0, none⟩) N cap) (hx : a.eval x = .slice A L c) (hbuf : Buf W B g cap N l0) (hr : BytesAt W A l) (hL : l.length = L) (h0 : 0 < L) (hl : N + L ≤ 10000000) (hB : B ≤ W.heap.size)
    (h : ∀ g' cap' w', Buf w' B g' cap' (N + L) (l0 ++ l) → W.grownBy w' (some g) → K (a.put o.dst (.slice (some ⟨g', 0, none⟩) (N + L) cap')) w') :
    if Region.wanted o (yielded ops a.tmps) = true then Oper.wp Tryz.prog o a W K Q else E := by
  have hw : Region.wanted o (yielded ops a.tmps) = true := by simp [Region.wanted, hgd]
  rw [if_pos hw]
  obtain ⟨g', cap', w', hr', h2, h3⟩ := run_appO o.type B g cap N l0 A L c l W hbuf hr hL h0 hl hB
  unfold Oper.wp execOp
  simp only [ho, resolve, invoke, builtin, Sem.run_bind, Sem.run_pure, Result.andThen_ok, List.map_toArray, List.map_cons, List.map_nil, hs, hx, hr']
  exact h g' cap' w' h2 h3
theorem below_appO {w W w' : World} {B g cap N : Nat} {l : List Int} (h : Below B w W) (hbuf : Buf W B g cap N l) (hB : B ≤ W.heap.size) (hg : W.grownBy w' (some g)) : Below B w w' :=
  h.grown hg hB (fun k hk => by cases hk; exact hbuf.lt.1)
theorem below_pushI {w W w' : World} {B : Nat} {v : Value} {l : List Int} (h : Below B w W) (hi : OwnI W B v l) (hB : B ≤ W.heap.size) (hg : W.grownBy w' v.ownBlock) : Below B w w' :=
  h.grown hg hB (fun k hk => (owns_typed hi k hk).1)
theorem bytes_new (w : World) (n : Nat) (hn : w.heap.size = n) (l : List Int) (hl : ∀ x ∈ l, 0 ≤ x ∧ x < 256) : BytesAt (w.alloc (.cells (byteC l) 5)) (some ⟨n, 0, none⟩) l := by
  subst hn; exact (OwnB.new w l).bytes hl

def startsI (rs : List (List Va)) : List Int := (starts 1 rs).map (fun n : Nat => (n : Int))
theorem startsI_succ (rs : List (List Va)) (j : Nat) (h : j < rs.length) : startsI (rs.take (j + 1)) = startsI (rs.take j) ++ [((1 + lenP (rs.take j) : Nat) : Int)] := by
  unfold startsI
  rw [List.take_succ_eq_append_getElem h, starts_snoc, List.map_append]
  rfl
theorem bodyP_succ (rs : List (List Va)) (j : Nat) (h : j < rs.length) : bodyP (rs.take (j + 1)) = bodyP (rs.take j) ++ putR rs[j] := by
  rw [List.take_succ_eq_append_getElem h, bodyP_snoc]
theorem startsI_len (rs : List (List Va)) : (startsI rs).length = rs.length := by simp [startsI, starts_len]
end Go.Proofs.YtmjckdgomlppeaaGreatDoor
end
section
namespace Go.Proofs.YtmjckdgomlppeaaGreatDoor
open Go.RowKit Go.Shelf

def headP (L : Nat) : Int := (L : Int) % 256
theorem headP_le {L : Nat} (h : L ≤ 255) : headP L = (L : Int) := by
  unfold headP; omega
theorem headP_byte (L : Nat) : 0 ≤ headP L ∧ headP L < 256 := by
  unfold headP; omega
theorem buf_one (w : World) (n : Nat) (hn : w.heap.size = n) (b : Int) : Buf (w.alloc (.cells #[.int .u8 b] 5)) n n 1 1 [b] := by
  subst hn
  exact ⟨rfl, rfl, .inr ⟨w.heap.size, 1, #[.int .u8 b], rfl, Nat.le_refl _, heap_alloc_new w _, Nat.le_refl _, by simp [maxLen], rfl, rfl⟩⟩
def lenV : Value → Nat
  | .slice _ n _ => n
  | _ => 0

theorem bt' {B : Nat} {w w1 w2 : World} (h1 : Below B w w1) (hB : B ≤ w1.heap.size) (h2 : Below w1.heap.size w1 w2) : Below B w w2 := h1.trans (h2.mono hB)
def MakeEnd (w : World) (rs : List (List Va)) (e : Ending) (w' : World) : Prop :=
  Below w.heap.size w w' ∧ if fitsP rs = true then ∃ g cap, e = .returned (.tuple #[.slice (some ⟨g, 0, none⟩) 256 cap, .bool true]) ∧ Buf w' w.heap.size g cap 256 (makeP rs)
    else e = .returned (.tuple #[.slice none 0 0, .bool false])

set_option maxRecDepth 100000 in
set_option maxHeartbeats 2000000 in
theorem make_any (A : Option Addr) (c L : Nat) (rs : List (List Va)) (w : World) (h : RowsAt w A rs) (hL : rs.length = L) (hok : allOk rs) (hl : L ≤ 600) :
    Calls Tryz.prog 49 #[.slice A L c] w (MakeEnd w rs) := by
  have HR := Lib.hid h
  have HL := Lib.hid hL
  have HK := Lib.hid hok
  clear h hL hok
  go_enter Tryz.func49, Tryz.ntmps49
  go_wp2_with fail
  have hbuf := buf_one w _ rfl ((L : Int) % 256)
  have hB0 := ba w (.cells #[.int .u8 ((L : Int) % 256)] 5)
  generalize w.alloc (.cells #[.int .u8 ((L : Int) % 256)] 5) = W at hbuf hB0 ⊢
  have HBf := Lib.hid (show Buf W w.heap.size w.heap.size 1 1 [headP L] from hbuf)
  have HB0 := Lib.hid hB0
  clear hbuf hB0
  generalize hE : w.heap.size = B0 at HBf HB0 ⊢
  have HE := Lib.hid hE
  clear hE
  go_loopw [4, 5, 6] (fun o v i wr => ∃ j g cap N : Nat, j ≤ L ∧ i = .int .i64 j ∧ o = .slice (some ⟨g, 0, none⟩) N cap ∧ 1 ≤ N ∧ N ≤ 1 + 2113 * j ∧ Hid (N = 1 + lenP (rs.take j)) ∧ Hid (Buf wr B0 g cap N (headP L :: bodyP (rs.take j))) ∧ Hid (OwnI wr B0 v (startsI (rs.take j))) ∧ Hid (B0 ≤ wr.heap.size) ∧ Hid (Below B0 w wr)) (fun _ _ i _ => L - (intOf i).toNat)
  case atStart => exact ⟨0, B0, 1, 1, Nat.zero_le _, rfl, rfl, Nat.le_refl _, by omega, Lib.hid rfl, HBf, Lib.hid (OwnI.nil _ _), Lib.hid (by have := HBf.out.lt; omega), HB0⟩
  case round =>
    obtain ⟨j, g, cap, N, hj, rfl, rfl, hN1, hN2, HN, HBj, HI, HS, HB⟩ := hrel
    clear HBf HB0
    by_cases hlt : j < L
    · have hlt' : j < rs.length := by rw [HL.out]; exact hlt
      have HX := Lib.hid (startsI_succ rs j hlt')
      have HX2 := Lib.hid (bodyP_succ rs j hlt')
      have HX3 := Lib.hid (lenP_take_succ rs j hlt')
      have HJ := Lib.hid (show (startsI (rs.take j)).length ≤ 65536 by rw [startsI_len, List.length_take]; omega)
      go_wp2_with (at_builtin; refine wpList_pushI rfl (.tmp 18) (.tmp 21) rfl B0 u5 _ (N : Int) _ wr.heap.size rfl rfl (HI.out.kept (ba wr _)) (heap_alloc_new wr _) ?c3 HJ.out ?_)
      case c3 => have := HS.out; simp; omega
      intro v' w1 hI1 hg1
      have HI1 := Lib.hid (show OwnI w1 B0 v' (startsI (rs.take (j + 1))) by rw [HX.out, ← HN.out]; exact hI1)
      have HBf1 := Lib.hid ((HBj.out.alloc _).far (HI.out.kept (ba wr _)) hg1)
      have HS1 := Lib.hid (show B0 ≤ w1.heap.size by have := hg1.size; have := HS.out; simp at *; omega)
      have HB1 := Lib.hid (below_pushI (bt' HB.out HS.out (ba wr _)) (HI.out.kept (ba wr _)) (by have := HS.out; simp; omega) hg1)
      clear hI1 hg1 HI HBj HS HJ HX
      obtain ⟨b, off, rfl, A', c', c0, hr⟩ := (HR.out.kept (show Below w.heap.size w w1 by rw [HE.out]; exact HB1.out)).cellAt hlt'
      have hokj := HK.out rs[j] (List.getElem_mem hlt')
      have hs : sumV rs[j] ≤ 2112 := by
        obtain ⟨h32, hall⟩ := okR_parts hokj
        have := sumV_le _ hall
        omega
      generalize rs[j] = r at c0 hr hokj HX2 HX3 hs
      have HRj := Lib.hid hr
      clear hr
      go_wp2_with fail
      refine (refPut_any A' c' r w1 HRj.out hokj).mono ?_
      rintro e w2 ⟨g2, cap2, rfl, hbuf2, hb2⟩
      have HBy := Lib.hid (hbuf2.bytes (putR_byte r hokj))
      have HI2 := Lib.hid (HI1.out.kept hb2)
      have HBf2 := Lib.hid (HBf1.out.kept' hb2)
      have HB2 := Lib.hid (bt' HB1.out HS1.out hb2)
      have HS2 := Lib.hid (show B0 ≤ w2.heap.size by have := hb2.size; have := HS1.out; omega)
      have HPL := Lib.hid (show (putR r).length = 1 + sumV r from sizeR_len r)
      clear hbuf2 hb2 HRj c0 HI1 HBf1 HB1 HS1
      go_wp2_with (at_builtin; refine wpList_appO rfl (.tmp 23) (.tmp 28) rfl B0 g cap N _ (some ⟨g2, 0, none⟩) (1 + sumV r) cap2 (putR r) _ rfl rfl HBf2.out HBy.out HPL.out ?c4 ?c5 HS2.out ?_)
      case c4 => omega
      case c5 => omega
      intro g3 cap3 w3 hb3 hg3
      have HI3 := Lib.hid (HI2.out.far HBf2.out hg3)
      have HB3 := Lib.hid (below_appO HB2.out HBf2.out HS2.out hg3)
      have HS3 := Lib.hid (show B0 ≤ w3.heap.size by have := hg3.size; have := HS2.out; omega)
      have HBf3 := Lib.hid (show Buf w3 B0 g3 cap3 (N + (1 + sumV r)) (headP L :: bodyP (rs.take (j + 1))) by rw [HX2.out]; exact hb3)
      clear hb3 hg3 HI2 HBf2 HB2 HS2 HBy
      go_wp2_with fail
      go_roundw
      case rel => exact ⟨j + 1, g3, cap3, N + (1 + sumV r), by omega, by go_num, rfl, by omega, by omega, Lib.hid (by rw [HX3.out, HN.out]; omega), HBf3, HI3, HS3, HB3⟩
      case measure => simp [intOf]; omega
    · have hjL : j = L := by omega
      have HT := Lib.hid (show rs.take j = rs from List.take_of_length_le (by rw [HL.out]; omega))
      rw [HT.out] at HN HBj HI
      have HBe := Lib.hid (show Below w.heap.size w wr by rw [HE.out]; exact HB.out)
      by_cases h255 : (255 : Int) < (L : Int)
      · have HFt := Lib.hid (show ¬ fitsP rs = true by unfold fitsP; rw [HL.out]; simp; omega)
        go_wp2_with fail
        go_ret2
        refine ⟨HBe.out, ?_⟩
        rw [if_neg HFt.out]
        rfl
      · by_cases h256 : (256 : Int) < (N : Int) + 2 * (L : Int)
        · have HFt := Lib.hid (show ¬ fitsP rs = true by unfold fitsP; rw [HL.out, ← HN.out]; simp; omega)
          go_wp2_with fail
          go_ret2
          refine ⟨HBe.out, ?_⟩
          rw [if_neg HFt.out]
          rfl
        · have HFt := Lib.hid (show fitsP rs = true by unfold fitsP; rw [HL.out, ← HN.out]; simp; omega)
          have HhP := Lib.hid (headP_le (L := L) (by omega))
          generalize hfr : headP L :: bodyP rs = fr at HBj
          have HFr := Lib.hid hfr
          clear hfr
          go_wp2_with fail
          go_loopw [4] (fun o wq => ∃ g cap M : Nat, o = .slice (some ⟨g, 0, none⟩) M cap ∧ N ≤ M ∧ M + 2 * L ≤ 256 ∧ Hid (Buf wq B0 g cap M (fr ++ List.replicate (M - N) 0)) ∧ Hid (OwnI wq B0 u5 (startsI rs)) ∧ Hid (B0 ≤ wq.heap.size) ∧ Hid (Below B0 w wq)) (fun o _ => 256 - lenV o)
          case atStart => exact ⟨g, cap, N, rfl, Nat.le_refl _, by omega, Lib.hid (by simpa using HBj.out), HI, HS, HB⟩
          case round =>
            clear HBj HI HS HB HBe
            obtain ⟨g, cap, M, rfl, hM1, hM2, HBj, HI, HS, HB⟩ := hrel
            by_cases hM : (M : Int) < 256 - 2 * (L : Int)
            · have HNb := Lib.hid (bytes_new wr _ rfl [0] (by intro x hx; simp at hx; subst hx; omega))
              go_wp2_with (at_builtin; refine wpList_appO rfl (.tmp 49) (.tmp 50) rfl B0 g cap M _ (some ⟨wr.heap.size, 0, none⟩) 1 1 [0] _ rfl rfl (HBj.out.alloc _) HNb.out rfl (by omega) ?c4 ?c5 ?_)
              case c4 => omega
              case c5 => have := HS.out; simp; omega
              intro g3 cap3 w3 hb3 hg3
              have HI3 := Lib.hid ((HI.out.kept (ba wr _)).far (HBj.out.alloc _) hg3)
              have HB3 := Lib.hid (below_appO (bt' HB.out HS.out (ba wr _)) (HBj.out.alloc _) (by have := HS.out; simp; omega) hg3)
              have HS3 := Lib.hid (show B0 ≤ w3.heap.size by have := hg3.size; have := HS.out; simp at *; omega)
              have HBf3 := Lib.hid (show Buf w3 B0 g3 cap3 (M + 1) (fr ++ List.replicate (M + 1 - N) 0) by rw [show M + 1 - N = (M - N) + 1 by omega, List.replicate_succ']; simpa using hb3)
              clear hb3 hg3 HI HBj HB HS HNb
              go_wp2_with fail
              go_roundw
              case rel => exact ⟨g3, cap3, M + 1, rfl, by omega, by omega, HBf3, HI3, HS3, HB3⟩
              case measure => simp [lenV]; omega
            · have HBj := Lib.hid (show Buf wr B0 g cap M (frontP rs) by
                have e : frontP rs = fr ++ List.replicate (M - N) 0 := by
                  unfold frontP
                  have := HN.out
                  rw [HL.out, ← HFr.out, HhP.out, show 255 - 2 * L - lenP rs = M - N by omega]
                rw [e]; exact HBj.out)
              go_wp2_with fail
              go_loopw [4, 7] (fun o i wz => ∃ (k g cap M : Nat), k ≤ L ∧ i = .int .i64 ((k : Int) - 1) ∧ o = .slice (some ⟨g, 0, none⟩) M cap ∧ M + 2 * k = 256 ∧ Hid (Buf wz B0 g cap M (frontP rs ++ tailP ((starts 1 rs).drop k))) ∧ Hid (OwnI wz B0 u5 (startsI rs)) ∧ Hid (B0 ≤ wz.heap.size) ∧ Hid (Below B0 w wz)) (fun _ i _ => (intOf i + 1).toNat)
              case atStart => exact ⟨L, g, cap, M, Nat.le_refl _, rfl, rfl, by omega, Lib.hid (by rw [List.drop_of_length_le (by rw [starts_len, HL.out]; exact Nat.le_refl _)]; simpa [tailP] using HBj.out), HI, HS, HB⟩
              case round =>
                clear HBj HI HS HB
                obtain ⟨k, g, cap, M, hk, hi, rfl, hM, HBj, HI, HS, HB⟩ := hrel
                cases k with
                | zero =>
                  obtain rfl : u7 = .int .i64 (-1) := hi
                  obtain rfl : M = 256 := by omega
                  go_wp2_with fail
                  go_ret2
                  refine ⟨by rw [HE.out]; exact HB.out, ?_⟩
                  rw [if_pos HFt.out]
                  refine ⟨g, cap, rfl, ?_⟩
                  rw [HE.out, makeP_eq]
                  exact HBj.out
                | succ k =>
                  obtain rfl : u7 = .int .i64 (k : Int) := by rw [hi]; congr 1; omega
                  have hkl : k < (starts 1 rs).length := by rw [starts_len, HL.out]; omega
                  have HSl := Lib.hid (starts_le 1 rs _ (List.getElem_mem hkl))
                  have HDr := Lib.hid (List.drop_eq_getElem_cons hkl)
                  have hcell := HI.out.cell (by rw [startsI_len, HL.out]; omega)
                  rw [startsI_len, HL.out] at hcell
                  obtain ⟨ga, capa, rfl, hat⟩ := hcell
                  have ha := hat k (by omega)
                  have e0 : (startsI rs).getD k 0 = (((starts 1 rs)[k] : Nat) : Int) := by
                    unfold startsI
                    simp [List.getD, hkl]
                  rw [e0] at ha
                  have hs1 : (starts 1 rs)[k] ≤ N := by have := HSl.out; have := HN.out; omega
                  generalize (starts 1 rs)[k] = s at ha HSl HDr hs1
                  clear hat e0 hkl hi
                  have hN256 : N ≤ 256 := by omega
                  have v1 : IntKind.i64.wrap ((s : Int) / 256) = (s : Int) / 256 := IntWalk.i64_in _ (by omega)
                  have v2 : (s : Int).tmod 256 = (s : Int) % 256 := Int.tmod_eq_emod_of_nonneg (by omega)
                  have v3 : IntKind.u8.wrap ((s : Int) / 256) = (s : Int) / 256 := by unfold IntKind.wrap; simp [IntKind.signed, IntKind.bits]; omega
                  have v4 : IntKind.u8.wrap ((s : Int) % 256) = (s : Int) % 256 := by unfold IntKind.wrap; simp [IntKind.signed, IntKind.bits]
                  have hi0 : (0 : Int) ≤ (k : Int) := Int.natCast_nonneg _
                  have hi1 : (k : Int) < (L : Int) := by omega
                  go_wp2_with fail
                  have hne : ga ≠ g := fun e => by
                    obtain ⟨_, cs, fr', hcs⟩ := owns_typed HI.out ga rfl
                    obtain ⟨_, cs', fr'', hcs'⟩ := owns_typed HBj.out.own g rfl
                    rw [e, hcs'] at hcs
                    cases hcs
                  have hne2 : (some ga : Option Nat) ≠ some g := fun e => hne (Option.some.inj e)
                  have hga : ga < wr.heap.size := (HI.out.lt ga rfl).2
                  have HBd := Lib.hid (show Buf (wr.alloc (.cells #[.int .u8 ((s : Int) / 256), .int .u8 ((s : Int) % 256)] 5)).drew B0 g cap M (frontP rs ++ tailP ((starts 1 rs).drop (k + 1))) from ⟨HBj.out.len, (HBj.out.alloc _).own⟩)
                  have HNb := Lib.hid (show BytesAt (wr.alloc (.cells #[.int .u8 ((s : Int) / 256), .int .u8 ((s : Int) % 256)] 5)).drew (some ⟨wr.heap.size, 0, none⟩) [(s : Int) / 256, (s : Int) % 256] from bytes_new wr wr.heap.size rfl [(s : Int) / 256, (s : Int) % 256] (by intro x hx; simp at hx; rcases hx with rfl | rfl <;> omega))
                  have HSd := Lib.hid (show B0 ≤ (wr.alloc (.cells #[.int .u8 ((s : Int) / 256), .int .u8 ((s : Int) % 256)] 5)).drew.heap.size by have := HS.out; simp; omega)
                  have HCd := Lib.hid (show (wr.alloc (.cells #[.int .u8 ((s : Int) / 256), .int .u8 ((s : Int) % 256)] 5)).drew.cell? ⟨ga, k, none⟩ = some (.int .i64 s) from (World.cell?_alloc_lt wr _ ⟨ga, k, none⟩ hga).trans ha)
                  have HGa := Lib.hid (show ga < (wr.alloc (.cells #[.int .u8 ((s : Int) / 256), .int .u8 ((s : Int) % 256)] 5)).drew.heap.size by simp; omega)
                  go_region_held3 (fun w' => w'.cell? ⟨ga, k, none⟩ = some (.int .i64 s)) (first | exact k3 | go_keep)
                    ((refine step_appO (by rfl) _ _ (by rfl) B0 g cap M (frontP rs ++ tailP ((starts 1 rs).drop (k + 1))) (some ⟨wr.heap.size, 0, none⟩) 2 2 [(s : Int) / 256, (s : Int) % 256] _ (by rfl) (by rfl) (by exact HBd.out) (by exact HNb.out) rfl (by decide) (by omega) (by exact HSd.out) ?_; intro g3 cap3 w3 hb3 hg3; have k3 := (hg3.cell_far ⟨ga, k, none⟩ HGa.out hne2).trans HCd.out))
                  have HI3 := Lib.hid ((show OwnI (wr.alloc (.cells #[.int .u8 ((s : Int) / 256), .int .u8 ((s : Int) % 256)] 5)).drew B0 (.slice (some ⟨ga, 0, none⟩) L capa) (startsI rs) from HI.out.kept (ba wr _).drew).far HBd.out hg3)
                  have HB3 := Lib.hid (below_appO (show Below B0 w (wr.alloc (.cells #[.int .u8 ((s : Int) / 256), .int .u8 ((s : Int) % 256)] 5)).drew from (bt' HB.out HS.out (ba wr _)).drew) HBd.out HSd.out hg3)
                  have HS3 := Lib.hid (show B0 ≤ w3.heap.size from Nat.le_trans HSd.out hg3.size)
                  have HBf3 := Lib.hid (show Buf w3 B0 g3 cap3 (M + 2) (frontP rs ++ tailP ((starts 1 rs).drop k)) by
                    rw [HDr.out, tailP, ← List.append_assoc, Int.natCast_ediv, Int.natCast_emod]
                    exact hb3)
                  clear hb3 hg3 HI HBj HB HS HNb HBd HSd HCd HGa k3 ha hga hne hne2 v1 v2 v3 v4
                  go_wp2_with fail
                  go_roundw
                  case rel => exact ⟨k, g3, cap3, M + 2, by omega, by go_num, rfl, by omega, HBf3, HI3, HS3, HB3⟩
                  case measure => simp [intOf]
end Go.Proofs.YtmjckdgomlppeaaGreatDoor
end
section
namespace Go.Proofs.YtmjckdgomlppeaaGreatDoor
open Go.RowKit Go.Shelf

/-- Two boxes, one behind the other. -/
def Box2 (w : World) (S : Nat) (r v : Va) : Prop :=
  w.heap[S]? = some (.cells #[.int .i64 r.k, .int .i64 r.n, .string r.s] 69 (0, 0)) ∧ w.heap[S + 1]? = some (.cells #[.int .i64 v.k, .int .i64 v.n, .string v.s] 69 (0, 0))
theorem Box2.lt {w : World} {S : Nat} {r v : Va} (h : Box2 w S r v) : S + 1 < w.heap.size := by
  rcases Nat.lt_or_ge (S + 1) w.heap.size with hl | hg
  · exact hl
  · have := h.2; rw [Array.getElem?_eq_none hg] at this; cases this
theorem Box2.made (w : World) (r v : Va) : Box2 ((w.alloc (.cells #[.int .i64 r.k, .int .i64 r.n, .string r.s] 69)).alloc (.cells #[.int .i64 v.k, .int .i64 v.n, .string v.s] 69)) w.heap.size r v := by
  refine ⟨?_, ?_⟩
  · rw [Below.heap_alloc _ _ _ (by simp)]; exact heap_alloc_new w _
  · have := heap_alloc_new (w.alloc (.cells #[.int .i64 r.k, .int .i64 r.n, .string r.s] 69)) (.cells #[.int .i64 v.k, .int .i64 v.n, .string v.s] 69)
    rwa [World.size_alloc] at this
theorem Box2.kept {w w' : World} {S : Nat} {r v : Va} (h : Box2 w S r v) (hb : Below w.heap.size w w') : Box2 w' S r v :=
  ⟨(hb.block S (by have := h.lt; omega)).trans h.1, (hb.block (S + 1) h.lt).trans h.2⟩
theorem Box2.cells {w : World} {S : Nat} {r v : Va} (h : Box2 w S r v) :
    w.cell? ⟨S, 0, none⟩ = some (.int .i64 r.k) ∧ w.cell? ⟨S, 1, none⟩ = some (.int .i64 r.n) ∧ w.cell? ⟨S, 2, none⟩ = some (.string r.s) ∧
    w.frozen? ⟨S, 0, none⟩ = false ∧ w.frozen? ⟨S, 1, none⟩ = false ∧ w.frozen? ⟨S, 2, none⟩ = false ∧
    w.cell? ⟨S + 1, 0, none⟩ = some (.int .i64 v.k) ∧ w.cell? ⟨S + 1, 1, none⟩ = some (.int .i64 v.n) ∧ w.cell? ⟨S + 1, 2, none⟩ = some (.string v.s) ∧ w.frozen? ⟨S + 1, 1, none⟩ = false := by
  obtain ⟨h1, h2⟩ := h
  simp [World.cell?, World.frozen?, h1, h2]
theorem Box2.num {w : World} {S : Nat} {r v : Va} (h : Box2 w S r v) (n : Int) : Box2 (w.setCell ⟨S + 1, 1, none⟩ (.int .i64 n)) S r ⟨v.k, n, v.s⟩ := by
  obtain ⟨h1, h2⟩ := h
  refine ⟨?_, ?_⟩
  · rw [Below.heap_setCell _ _ _ _ (by simp)]; exact h1
  · simp [World.setCell, Array.getElem?_modify, h2]
theorem Box2.drew {w : World} {S : Nat} {r v : Va} (h : Box2 w S r v) : Box2 w.drew S r v := h

theorem str_small (t : List Int) (h : t.length ≤ 255) : (strOfNums t).size ≤ 9223372036854775807 := by
  have : (strOfNums t).size = t.length := by
    show (strOfNums t).data.size = _
    rw [← Array.length_toList, strOfNums_data]; simp
  omega
theorem BytesAt.heap' {w w' : World} {A : Option Addr} {l : List Int} (h : BytesAt w A l) (hh : w'.heap = w.heap) : BytesAt w' A l := by
  refine ⟨?_, h.2⟩
  rcases h.1 with h0 | ⟨b, off, rfl, hb, hc⟩
  · exact .inl h0
  · exact .inr ⟨b, off, rfl, by rw [hh]; exact hb, fun i v hv => by unfold World.cell?; rw [hh]; exact hc i v hv⟩
theorem str_atc {w : World} {A : Option Addr} {l : List Int} {L : Nat} (h : BytesAt w A l) (hL : l.length = L) (c : Nat) :
    (convert 49 9 (.slice A L c)).run Tryz.prog w = .ok (.string (strOfNums l)) w := by
  subst hL; exact h.str c

def gotN : Option (Va × Nat) → Array Value
  | some (v, n) => #[VV v.k v.n v.s, .int .i64 n]
  | none => #[VV 0 0 ⟨#[]⟩, .int .i64 0]
theorem gotN_keep (v : Va) (n : Nat) : gotN (keepOk v n) = if v.ok then #[VV v.k v.n v.s, .int .i64 n] else #[VV 0 0 ⟨#[]⟩, .int .i64 0] := by
  unfold keepOk; cases v.ok <;> rfl

set_option maxRecDepth 100000 in
set_option maxHeartbeats 2000000 in
theorem rgv_nil (A : Option Addr) (c : Nat) (w : World) :
    Calls Tryz.prog 76 #[.slice A 0 c] w fun e w' => e = .returned (.tuple #[VV 0 0 ⟨#[]⟩, .int .i64 0]) ∧ Below w.heap.size w w' := by
  go_enter Tryz.func76, Tryz.ntmps76
  go_wp2_with fail
  refine bodyPost_ret (v := .tuple #[VV 0 0 ⟨#[]⟩, .int .i64 0]) (by simp [results, Tryz.results76, go_sem]) rfl ⟨rfl, ?_⟩
  exact ba _ _

set_option maxRecDepth 100000 in
set_option maxHeartbeats 2000000 in
theorem rgv_null (b off L c : Nat) (w : World) (hb : b < w.heap.size) (hL : 1 ≤ L) (c0 : w.cell? ⟨b, off, none⟩ = some (.int .u8 0)) :
    Calls Tryz.prog 76 #[.slice (some ⟨b, off, none⟩) L c] w fun e w' => e = .returned (.tuple #[VV 0 0 ⟨#[]⟩, .int .i64 1]) ∧ Below w.heap.size w w' := by
  have _u : True := (fun _ _ => trivial) hb hL
  clear _u
  have hL0 : ((L : Int) == 0) = false := beq_eq_false_iff_ne.2 (by omega)
  have hbn : b ≠ w.heap.size := by omega
  have hbn1 : b ≠ w.heap.size + 1 := by omega
  go_enter Tryz.func76, Tryz.ntmps76
  go_wp2_with fail
  refine bodyPost_ret (v := .tuple #[VV 0 0 ⟨#[]⟩, .int .i64 1]) (by simp [results, Tryz.results76, go_sem]) rfl ⟨rfl, ?_⟩
  exact ba2 _ _ _

set_option maxRecDepth 100000 in
set_option maxHeartbeats 2000000 in
theorem rgv_odd (b off L c : Nat) (k : Int) (hk : 4 ≤ k) (hk2 : k < 256) (w : World) (hb : b < w.heap.size) (hL : 1 ≤ L) (c0 : w.cell? ⟨b, off, none⟩ = some (.int .u8 k)) :
    Calls Tryz.prog 76 #[.slice (some ⟨b, off, none⟩) L c] w fun e w' => e = .returned (.tuple #[VV 0 0 ⟨#[]⟩, .int .i64 0]) ∧ Below w.heap.size w w' := by
  have _u : True := (fun _ _ _ _ => trivial) hk hk2 hb hL
  clear _u
  have hL0 : ((L : Int) == 0) = false := beq_eq_false_iff_ne.2 (by omega)
  have hbn : b ≠ w.heap.size := by omega
  have hbn1 : b ≠ w.heap.size + 1 := by omega
  have e0 : (k == 0) = false := beq_eq_false_iff_ne.2 (by omega)
  have e1 : (k == 1) = false := beq_eq_false_iff_ne.2 (by omega)
  have e2 : (k == 2) = false := beq_eq_false_iff_ne.2 (by omega)
  have e3 : (k == 3) = false := beq_eq_false_iff_ne.2 (by omega)
  go_enter Tryz.func76, Tryz.ntmps76
  go_wp2_with fail
  refine bodyPost_ret (v := .tuple #[VV 0 0 ⟨#[]⟩, .int .i64 0]) (by simp [results, Tryz.results76, go_sem]) rfl ⟨rfl, ?_⟩
  exact ba2 _ _ _

set_option maxRecDepth 100000 in
set_option maxHeartbeats 2000000 in
theorem rgv_short1 (b off L c : Nat) (h2 : ¬ (2 : Int) ≤ L) (w : World) (hb : b < w.heap.size) (hL : 1 ≤ L) (c0 : w.cell? ⟨b, off, none⟩ = some (.int .u8 1)) :
    Calls Tryz.prog 76 #[.slice (some ⟨b, off, none⟩) L c] w fun e w' => e = .returned (.tuple #[VV 0 0 ⟨#[]⟩, .int .i64 0]) ∧ Below w.heap.size w w' := by
  have _u : True := (fun _ _ _ => trivial) h2 hb hL
  clear _u
  have hL0 : ((L : Int) == 0) = false := beq_eq_false_iff_ne.2 (by omega)
  have hbn : b ≠ w.heap.size := by omega
  have hbn1 : b ≠ w.heap.size + 1 := by omega
  go_enter Tryz.func76, Tryz.ntmps76
  go_wp2_with fail
  refine bodyPost_ret (v := .tuple #[VV 0 0 ⟨#[]⟩, .int .i64 0]) (by simp [results, Tryz.results76, go_sem]) rfl ⟨rfl, ?_⟩
  exact ba2 _ _ _

set_option maxRecDepth 100000 in
set_option maxHeartbeats 2000000 in
theorem rgv_short2 (b off L c : Nat) (h2 : ¬ (8 : Int) ≤ L) (w : World) (hb : b < w.heap.size) (hL : 1 ≤ L) (c0 : w.cell? ⟨b, off, none⟩ = some (.int .u8 2)) :
    Calls Tryz.prog 76 #[.slice (some ⟨b, off, none⟩) L c] w fun e w' => e = .returned (.tuple #[VV 0 0 ⟨#[]⟩, .int .i64 0]) ∧ Below w.heap.size w w' := by
  have _u : True := (fun _ _ _ => trivial) h2 hb hL
  clear _u
  have hL0 : ((L : Int) == 0) = false := beq_eq_false_iff_ne.2 (by omega)
  have hbn : b ≠ w.heap.size := by omega
  have hbn1 : b ≠ w.heap.size + 1 := by omega
  go_enter Tryz.func76, Tryz.ntmps76
  go_wp2_with fail
  refine bodyPost_ret (v := .tuple #[VV 0 0 ⟨#[]⟩, .int .i64 0]) (by simp [results, Tryz.results76, go_sem]) rfl ⟨rfl, ?_⟩
  exact ba2 _ _ _

set_option maxRecDepth 100000 in
set_option maxHeartbeats 2000000 in
theorem rgv_short3 (b off L c : Nat) (h2 : ¬ (2 : Int) ≤ L) (w : World) (hb : b < w.heap.size) (hL : 1 ≤ L) (c0 : w.cell? ⟨b, off, none⟩ = some (.int .u8 3)) :
    Calls Tryz.prog 76 #[.slice (some ⟨b, off, none⟩) L c] w fun e w' => e = .returned (.tuple #[VV 0 0 ⟨#[]⟩, .int .i64 0]) ∧ Below w.heap.size w w' := by
  have _u : True := (fun _ _ _ => trivial) h2 hb hL
  clear _u
  have hL0 : ((L : Int) == 0) = false := beq_eq_false_iff_ne.2 (by omega)
  have hbn : b ≠ w.heap.size := by omega
  have hbn1 : b ≠ w.heap.size + 1 := by omega
  go_enter Tryz.func76, Tryz.ntmps76
  go_wp2_with fail
  refine bodyPost_ret (v := .tuple #[VV 0 0 ⟨#[]⟩, .int .i64 0]) (by simp [results, Tryz.results76, go_sem]) rfl ⟨rfl, ?_⟩
  exact ba2 _ _ _

set_option maxRecDepth 100000 in
set_option maxHeartbeats 2000000 in
theorem rgv_short4 (b off L c : Nat) (x : Int) (h2 : (2 : Int) ≤ L) (hx0 : 0 ≤ x) (hx1 : x < 256) (h3 : ¬ x ≤ L - 2) (h63 : L ≤ 9223372036854775807) (w : World) (hb : b < w.heap.size) (hL : 1 ≤ L) (c0 : w.cell? ⟨b, off, none⟩ = some (.int .u8 3)) (c1 : w.cell? ⟨b, off + 1, none⟩ = some (.int .u8 x)) :
    Calls Tryz.prog 76 #[.slice (some ⟨b, off, none⟩) L c] w fun e w' => e = .returned (.tuple #[VV 0 0 ⟨#[]⟩, .int .i64 0]) ∧ Below w.heap.size w w' := by
  have _u : True := (fun _ _ _ _ _ _ _ => trivial) h2 hx0 hx1 h3 h63 hb hL
  clear _u
  have hL0 : ((L : Int) == 0) = false := beq_eq_false_iff_ne.2 (by omega)
  have hbn : b ≠ w.heap.size := by omega
  have hbn1 : b ≠ w.heap.size + 1 := by omega
  go_enter Tryz.func76, Tryz.ntmps76
  go_wp2_with fail
  refine bodyPost_ret (v := .tuple #[VV 0 0 ⟨#[]⟩, .int .i64 0]) (by simp [results, Tryz.results76, go_sem]) rfl ⟨rfl, ?_⟩
  exact ba2 _ _ _

set_option maxRecDepth 100000 in
set_option maxHeartbeats 2000000 in
theorem rgv_bool (b off L c : Nat) (x : Int) (h2 : (2 : Int) ≤ L) (hx0 : 0 ≤ x) (hx1 : x < 256) (ok : Bool) (w : World) (hb : b < w.heap.size) (hL : 1 ≤ L) (c0 : w.cell? ⟨b, off, none⟩ = some (.int .u8 1)) (c1 : w.cell? ⟨b, off + 1, none⟩ = some (.int .u8 x)) (hok : badA ⟨1, x, ⟨#[]⟩⟩ = !ok) :
    Calls Tryz.prog 76 #[.slice (some ⟨b, off, none⟩) L c] w fun e w' => e = .returned (.tuple (if ok then #[VV 1 x ⟨#[]⟩, .int .i64 2] else #[VV 0 0 ⟨#[]⟩, .int .i64 0])) ∧ Below w.heap.size w w' := by
  have _u : True := (fun _ _ _ _ _ _ => trivial) h2 hx0 hx1 hb hL hok
  clear _u
  have hL0 : ((L : Int) == 0) = false := beq_eq_false_iff_ne.2 (by omega)
  have hbn : b ≠ w.heap.size := by omega
  have hbn1 : b ≠ w.heap.size + 1 := by omega
  have HC := Lib.hid (fun W => refCheckA (!ok) ⟨1, x, ⟨#[]⟩⟩ W empty_small hok)
  rw [Bool.not_not] at HC
  clear hok
  go_enter Tryz.func76, Tryz.ntmps76
  go_wp2_with fail
  have hX := Box2.made w nullA ⟨1, x, ⟨#[]⟩⟩
  refine (HC.out _).mono ?_
  rintro e w1 ⟨rfl, hb1⟩
  have hX1 := hX.kept hb1
  obtain ⟨d0, d1, d2, f0, f1, f2, v0, v1, v2, _⟩ := hX1.cells
  have HB := Lib.hid (bt (ba2 _ _ _) hb1)
  clear hb1 hX hX1
  cases ok
  · go_wp2_with fail
    refine bodyPost_ret (v := .tuple #[VV 0 0 ⟨#[]⟩, .int .i64 0]) (by simp [results, Tryz.results76, go_sem, d0, d1, d2]) rfl ⟨rfl, ?_⟩
    exact ((HB.out.setCell (Nat.le_refl _) _).setCell (Nat.le_refl _) _).setCell (Nat.le_refl _) _
  · go_wp2_with fail
    refine bodyPost_ret (v := .tuple #[VV 1 x ⟨#[]⟩, .int .i64 2]) (by simp [results, Tryz.results76, go_sem, d0, d1, d2]) rfl ⟨rfl, ?_⟩
    exact ((HB.out.setCell (Nat.le_refl _) _).setCell (Nat.le_refl _) _).setCell (Nat.le_refl _) _

set_option maxRecDepth 100000 in
set_option maxHeartbeats 2000000 in
theorem rgv_text (b off L c : Nat) (X : Nat) (t : List Int) (h2 : (2 : Int) ≤ L) (hx1 : X < 256) (h3 : (X : Int) ≤ L - 2) (hc : L ≤ c) (h63 : L ≤ 9223372036854775807) (ok : Bool) (w : World) (hb : b < w.heap.size) (hL : 1 ≤ L) (c0 : w.cell? ⟨b, off, none⟩ = some (.int .u8 3)) (c1 : w.cell? ⟨b, off + 1, none⟩ = some (.int .u8 X)) (ht : BytesAt w (some ⟨b, off + 2, none⟩) t) (htl : t.length = X) (hc2 : c ≠ 2) (hok : badA ⟨3, 0, strOfNums t⟩ = !ok) :
    Calls Tryz.prog 76 #[.slice (some ⟨b, off, none⟩) L c] w fun e w' => e = .returned (.tuple (if ok then #[VV 3 0 (strOfNums t), .int .i64 (2 + (X : Int))] else #[VV 0 0 ⟨#[]⟩, .int .i64 0])) ∧ Below w.heap.size w w' := by
  have _u : True := (fun _ _ _ _ _ _ _ _ _ _ _ => trivial) h2 hx1 h3 hc h63 hb hL ht htl hc2 hok
  clear _u
  have hL0 : ((L : Int) == 0) = false := beq_eq_false_iff_ne.2 (by omega)
  have hbn : b ≠ w.heap.size := by omega
  have hbn1 : b ≠ w.heap.size + 1 := by omega
  have HC := Lib.hid (fun W => refCheckA (!ok) ⟨3, 0, strOfNums t⟩ W (str_small t (by omega)) hok)
  rw [Bool.not_not] at HC
  clear hok
  have hcv := fun (o1 o2 : Obj) => (str_atc ((ht.kept (ba w o1)).kept (ba _ o2)) htl (c - 2)).trans rfl
  have hX0 : (X : Int) ≤ 255 := by omega
  have hcc : (2 : Int) + X ≤ c := by omega
  have HT := Lib.hid htl
  clear htl ht
  generalize strOfNums t = str at HC hcv ⊢
  go_enter Tryz.func76, Tryz.ntmps76
  go_wp2_with fail
  have hX := Box2.made w nullA ⟨3, 0, str⟩
  refine (HC.out _).mono ?_
  rintro e w1 ⟨rfl, hb1⟩
  have hX1 := hX.kept hb1
  obtain ⟨d0, d1, d2, f0, f1, f2, v0, v1, v2, _⟩ := hX1.cells
  have HB := Lib.hid (bt (ba2 _ _ _) hb1)
  clear hb1 hX hX1
  cases ok
  · go_wp2_with fail
    refine bodyPost_ret (v := .tuple #[VV 0 0 ⟨#[]⟩, .int .i64 0]) (by simp [results, Tryz.results76, go_sem, d0, d1, d2]) rfl ⟨rfl, ?_⟩
    exact ((HB.out.setCell (Nat.le_refl _) _).setCell (Nat.le_refl _) _).setCell (Nat.le_refl _) _
  · go_wp2_with fail
    refine bodyPost_ret (v := .tuple #[VV 3 0 str, .int .i64 (2 + (X : Int))]) (by simp [results, Tryz.results76, go_sem, d0, d1, d2]) rfl ⟨rfl, ?_⟩
    exact ((HB.out.setCell (Nat.le_refl _) _).setCell (Nat.le_refl _) _).setCell (Nat.le_refl _) _

set_option maxRecDepth 100000 in
set_option maxHeartbeats 2000000 in
theorem rgv_text0 (b off L c : Nat) (ok : Bool) (w : World) (hb : b < w.heap.size) (hL : 1 ≤ L) (c0 : w.cell? ⟨b, off, none⟩ = some (.int .u8 3)) (c1 : w.cell? ⟨b, off + 1, none⟩ = some (.int .u8 0)) (h2 : L = 2) (hc : c = 2) (hok : badA ⟨3, 0, ⟨#[]⟩⟩ = !ok) :
    Calls Tryz.prog 76 #[.slice (some ⟨b, off, none⟩) L c] w fun e w' => e = .returned (.tuple (if ok then #[VV 3 0 ⟨#[]⟩, .int .i64 2] else #[VV 0 0 ⟨#[]⟩, .int .i64 0])) ∧ Below w.heap.size w w' := by
  have _u : True := (fun _ _ _ _ _ => trivial) hb hL h2 hc hok
  clear _u
  have hL0 : ((L : Int) == 0) = false := beq_eq_false_iff_ne.2 (by omega)
  have hbn : b ≠ w.heap.size := by omega
  have hbn1 : b ≠ w.heap.size + 1 := by omega
  have HC := Lib.hid (fun W => refCheckA (!ok) ⟨3, 0, ⟨#[]⟩⟩ W empty_small hok)
  rw [Bool.not_not] at HC
  clear hok
  subst h2 hc
  have hcv : ∀ o1 o2 : Obj, (convert 49 9 (.slice (some ⟨b, off, none⟩) 0 0)).run Tryz.prog ((w.alloc o1).alloc o2) = .ok (.string ⟨#[]⟩) ((w.alloc o1).alloc o2) := fun o1 o2 => str_atc (l := []) ⟨.inl rfl, by simp⟩ rfl 0
  go_enter Tryz.func76, Tryz.ntmps76
  go_wp2_with fail
  have hX := Box2.made w nullA ⟨3, 0, ⟨#[]⟩⟩
  refine (HC.out _).mono ?_
  rintro e w1 ⟨rfl, hb1⟩
  have hX1 := hX.kept hb1
  obtain ⟨d0, d1, d2, f0, f1, f2, v0, v1, v2, _⟩ := hX1.cells
  have HB := Lib.hid (bt (ba2 _ _ _) hb1)
  clear hb1 hX hX1
  cases ok
  · go_wp2_with fail
    refine bodyPost_ret (v := .tuple #[VV 0 0 ⟨#[]⟩, .int .i64 0]) (by simp [results, Tryz.results76, go_sem, d0, d1, d2]) rfl ⟨rfl, ?_⟩
    exact ((HB.out.setCell (Nat.le_refl _) _).setCell (Nat.le_refl _) _).setCell (Nat.le_refl _) _
  · go_wp2_with fail
    refine bodyPost_ret (v := .tuple #[VV 3 0 ⟨#[]⟩, .int .i64 2]) (by simp [results, Tryz.results76, go_sem, d0, d1, d2]) rfl ⟨rfl, ?_⟩
    exact ((HB.out.setCell (Nat.le_refl _) _).setCell (Nat.le_refl _) _).setCell (Nat.le_refl _) _

set_option maxRecDepth 100000 in
set_option maxHeartbeats 2000000 in
theorem rgv_int (b off L c : Nat) (t : List Int) (h2 : (8 : Int) ≤ L) (ok : Bool) (w : World) (hb : b < w.heap.size) (hL : 1 ≤ L) (c0 : w.cell? ⟨b, off, none⟩ = some (.int .u8 2)) (ht : BytesAt w (some ⟨b, off + 1, none⟩) t) (htl : 7 ≤ t.length) (hok : badA ⟨2, num (t.take 7) - 9007199254740992, ⟨#[]⟩⟩ = !ok) :
    Calls Tryz.prog 76 #[.slice (some ⟨b, off, none⟩) L c] w fun e w' => e = .returned (.tuple (if ok then #[VV 2 (num (t.take 7) - 9007199254740992) ⟨#[]⟩, .int .i64 8] else #[VV 0 0 ⟨#[]⟩, .int .i64 0])) ∧ Below w.heap.size w w' := by
  have _u : True := (fun _ _ _ _ _ _ => trivial) h2 hb hL ht htl hok
  clear _u
  have hL0 : ((L : Int) == 0) = false := beq_eq_false_iff_ne.2 (by omega)
  have hbn : b ≠ w.heap.size := by omega
  have hbn1 : b ≠ w.heap.size + 1 := by omega
  have HC := Lib.hid (fun W => refCheckA (!ok) ⟨2, num (t.take 7) - 9007199254740992, ⟨#[]⟩⟩ W empty_small hok)
  rw [Bool.not_not] at HC
  clear hok
  have hr := Lib.hid (num_take_le t ht.2)
  have HT := Lib.hid ht
  clear ht
  go_enter Tryz.func76, Tryz.ntmps76
  go_wp2_with fail
  have hX0 := Lib.hid (Box2.made w nullA ⟨2, 0, ⟨#[]⟩⟩)
  have hB0 := Lib.hid (ba2 w (.cells #[.int .i64 0, .int .i64 0, .string ⟨#[]⟩] 69) (.cells #[.int .i64 2, .int .i64 0, .string ⟨#[]⟩] 69))
  change Hid (Box2 ((w.alloc (.cells #[.int .i64 0, .int .i64 0, .string ⟨#[]⟩] 69)).alloc (.cells #[.int .i64 2, .int .i64 0, .string ⟨#[]⟩] 69)) w.heap.size nullA ⟨2, 0, ⟨#[]⟩⟩) at hX0
  generalize (w.alloc (.cells #[.int .i64 0, .int .i64 0, .string ⟨#[]⟩] 69)).alloc (.cells #[.int .i64 2, .int .i64 0, .string ⟨#[]⟩] 69) = W at hX0 hB0 ⊢
  go_loopw [6] (fun i wr => ∃ j : Nat, j ≤ 7 ∧ i = .int .i64 (1 + (j : Int)) ∧ Hid (Below w.heap.size w wr) ∧ Hid (Box2 wr w.heap.size nullA ⟨2, num (t.take j), ⟨#[]⟩⟩)) (fun i _ => (8 - intOf i).toNat)
  case atStart => exact ⟨0, by omega, rfl, hB0, Lib.hid (by simpa [num] using hX0.out)⟩
  case round =>
    obtain ⟨j, hj, rfl, HB, HX⟩ := hrel
    clear hX0 hB0
    by_cases hlt : j < 7
    · have hjl : j < t.length := by omega
      obtain ⟨b', off', e', hb', c1, x0, x1⟩ := (HT.out.kept HB.out).at (List.getElem?_eq_getElem hjl)
      cases e'
      have HS := Lib.hid (num_succ t j hjl)
      have hrj := hr.out j
      have hp : (256 : Int) ^ j ≤ 256 ^ 6 := by
        have : j = 0 ∨ j = 1 ∨ j = 2 ∨ j = 3 ∨ j = 4 ∨ j = 5 ∨ j = 6 := by omega
        rcases this with rfl | rfl | rfl | rfl | rfl | rfl | rfl <;> decide
      generalize t[j] = x at c1 x0 x1 HS
      generalize num (t.take j) = m at HS hrj HX
      have hm0 : 0 ≤ m := hrj.1
      have hm1 : m < 281474976710656 := by have := hrj.2; omega
      clear hrj hp
      obtain ⟨d0, d1, d2, f0, f1, f2, v0, v1, v2, f4⟩ := HX.out.cells
      have e1 : off + 1 + j = off + (1 + j) := by omega
      rw [e1] at c1
      have hbn' : b ≠ w.heap.size + 1 := by omega
      have hi0 : (0 : Int) ≤ 1 + (j : Int) := by omega
      have hi1 : 1 + (j : Int) < (L : Int) := by omega
      go_wp2_with fail
      go_region
      all_goals
        go_wp2_with fail
        refine ⟨⟨j + 1, by omega, ?_, Lib.hid (HB.out.setCell (p := ⟨w.heap.size + 1, 1, none⟩) (by simp) _).drew, Lib.hid ?_⟩, ?_⟩
        · rw [show (1 + (j : Int) + 1) = 1 + ((j + 1 : Nat) : Int) by omega]
        · rw [HS.out, Int.mul_comm m 256]
          exact (HX.out.num (256 * m + x)).drew
        · simp [intOf]; omega
    · obtain rfl : j = 7 := by omega
      have hr7 := hr.out 7
      have hm0 : 0 ≤ num (t.take 7) := hr7.1
      have hm1 : num (t.take 7) < 72057594037927936 := by have := hr7.2; omega
      generalize hmm : num (t.take 7) = m at HX hm0 hm1 HC ⊢
      have HM := Lib.hid hmm
      clear hmm
      clear hr7
      obtain ⟨d0, d1, d2, f0, f1, f2, v0, v1, v2, f4⟩ := HX.out.cells
      have hX := HX.out.num (m - 9007199254740992)
      have HB2 := Lib.hid (HB.out.setCell (p := ⟨w.heap.size + 1, 1, none⟩) (by simp) (.int .i64 (m - 9007199254740992)))
      go_wp2_with fail
      refine (HC.out _).mono ?_
      rintro e w1 ⟨rfl, hb1⟩
      have hX1 := hX.kept hb1
      obtain ⟨d0, d1, d2, f0, f1, f2, v0, v1, v2, _⟩ := hX1.cells
      have HB := Lib.hid (bt HB2.out hb1)
      clear hb1 hX hX1
      cases ok
      · go_wp2_with fail
        refine bodyPost_ret (v := .tuple #[VV 0 0 ⟨#[]⟩, .int .i64 0]) (by simp [results, Tryz.results76, go_sem, d0, d1, d2]) rfl ⟨rfl, ?_⟩
        exact ((HB.out.setCell (Nat.le_refl _) _).setCell (Nat.le_refl _) _).setCell (Nat.le_refl _) _
      · go_wp2_with fail
        refine bodyPost_ret (v := .tuple #[VV 2 (m - 9007199254740992) ⟨#[]⟩, .int .i64 8]) (by simp [results, Tryz.results76, go_sem, d0, d1, d2]) rfl ⟨by rw [HM.out], ?_⟩
        exact ((HB.out.setCell (Nat.le_refl _) _).setCell (Nat.le_refl _) _).setCell (Nat.le_refl _) _

theorem gv_ok {v : Va} {b : Bool} (h : v.ok = b) : badA v = !b := by rw [← h]; rfl
set_option maxRecDepth 10000 in
theorem refGetValue_any (A : Option Addr) (L c : Nat) (bs : List Int) (w : World) (h : BytesAt w A bs) (hL : bs.length = L) (hc : L ≤ c) (h63 : L ≤ 9223372036854775807) :
    Calls Tryz.prog 76 #[.slice A L c] w fun e w' => e = .returned (.tuple (gotN (getV bs))) ∧ Below w.heap.size w w' := by
  cases bs with
  | nil => subst hL; exact rgv_nil A c w
  | cons k t =>
    obtain ⟨b, off, rfl, hb, c0, k0, k1⟩ := at_nil h rfl
    have hL' : t.length + 1 = L := by simpa using hL
    by_cases e0 : k = 0
    · subst e0
      have := rgv_null b off L c w hb (by omega) c0
      have e : getV (0 :: t) = some (nullA, 1) := by simp [getV]
      rw [e]
      exact this
    by_cases e1 : k = 1
    · subst e1
      cases t with
      | nil =>
        have := rgv_short1 b off L c (by simp at hL'; omega) w hb (by omega) c0
        simpa [getV, gotN] using this
      | cons x u =>
        simp only [List.length_cons] at hL'
        obtain ⟨b', off', e', _, c1, x0, x1⟩ := h.at (i := 1) (x := x) rfl
        cases e'
        have := rgv_bool b off L c x (by omega) x0 x1 _ w hb (by omega) c0 c1 (gv_ok rfl)
        have e : getV (1 :: x :: u) = keepOk ⟨1, x, ⟨#[]⟩⟩ 2 := by simp [getV]
        rw [e, gotN_keep]
        exact this
    by_cases e2 : k = 2
    · subst e2
      by_cases h7 : t.length < 7
      · have e : getV (2 :: t) = none := by simp [getV, h7]
        rw [e]
        exact rgv_short2 b off L c (by omega) w hb (by omega) c0
      · have hd := h.drop c 1 (by simp; omega)
        have hc1 : c ≠ 1 := by omega
        rw [show adv (some ⟨b, off, none⟩) c 1 = some ⟨b, off + 1, none⟩ by simp [adv, hc1, Addr.add]] at hd
        have := rgv_int b off L c t (by omega) _ w hb (by omega) c0 hd (by omega) (gv_ok rfl)
        have e : getV (2 :: t) = keepOk ⟨2, num (t.take 7) - 9007199254740992, ⟨#[]⟩⟩ 8 := by simp [getV, h7]
        rw [e, gotN_keep]
        exact this
    by_cases e3 : k = 3
    · subst e3
      cases t with
      | nil =>
        have := rgv_short3 b off L c (by simp at hL'; omega) w hb (by omega) c0
        simpa [getV, gotN] using this
      | cons x u =>
        simp only [List.length_cons] at hL'
        obtain ⟨b', off', e', _, c1, x0, x1⟩ := h.at (i := 1) (x := x) rfl
        cases e'
        obtain ⟨X, rfl⟩ := Int.eq_ofNat_of_zero_le x0
        by_cases hu : u.length < X
        · have e : getV (3 :: (X : Int) :: u) = none := by simp [getV, hu]
          rw [e]
          exact rgv_short4 b off L c X (by omega) (by omega) (by omega) (by omega) h63 w hb (by omega) c0 c1
        · have e : getV (3 :: (X : Int) :: u) = keepOk ⟨3, 0, strOfNums (u.take X)⟩ (2 + X) := by simp [getV, hu]
          rw [e, gotN_keep]
          by_cases hc2 : c = 2
          · have hX0 : X = 0 := by omega
            subst hX0
            have := rgv_text0 b off L c _ w hb (by omega) c0 c1 (by omega) hc2 (gv_ok rfl)
            exact this
          · have hd := (h.drop c 2 (by simp; omega)).take X
            rw [show adv (some ⟨b, off, none⟩) c 2 = some ⟨b, off + 2, none⟩ by simp [adv, hc2, Addr.add]] at hd
            have := rgv_text b off L c X (u.take X) (by omega) (by omega) (by omega) hc h63 _ w hb (by omega) c0 c1 hd (by simp; omega) hc2 (gv_ok rfl)
            rw [show ((2 + X : Nat) : Int) = 2 + (X : Int) by omega]
            exact this
    have e : getV (k :: t) = none := by simp [getV, e0, e1, e2, e3]
    rw [e]
    exact rgv_odd b off L c k (by omega) k1 w hb (by omega) c0

end Go.Proofs.YtmjckdgomlppeaaGreatDoor
end
