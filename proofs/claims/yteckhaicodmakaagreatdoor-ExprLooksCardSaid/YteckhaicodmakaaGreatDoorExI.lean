/-
  Columns, Aggs: pick's wrappers.
  The contracts of package expr, of values that hold expressions; operations upon them.
-/
import Derived.Test.YteckhaicodmakaaGreatDoorExo
import Derived.Test.YteckhaicodmakaaGreatDoorExi
import Derived.Test.YteckhaicodmakaaGreatDoorExa
import Derived.Test.YteckhaicodmakaaGreatDoorStp
import Derived.Deep.MidRow
import Derived.Great.BuildSlice
namespace Go.Proofs.YteckhaicodmakaaGreatDoor
section
open Go.RowKit Go.Shelf
attribute [local go_sem] Oper.semAt_some

theorem columns_any (h : Hd) (lk : List Ex) (A : Option Addr) (cap : Nat) (w : World) (hX : XsAt w.heap.size w lk A) (hcap : lk.length ≤ cap) (hsm : AllSm (.mk h lk)) (hc : cnt (.mk h lk) ≤ 999999) (hT : Tabs w) :
    Calls Tryz.prog 28 #[XV h A lk.length cap] w (ListBack w (if okX (.mk h lk) = true then kndX 2 (.mk h lk) else [])) := by
  have hb0 := ba w (xbox h A lk.length cap)
  have HC := Lib.hid (pick2_any h lk A cap _ (XsAt.next hX hb0) hcap hsm hc (hT.kept hb0))
  have HX1 := Lib.hid (MapKept.heap_alloc w (xbox h A lk.length cap)).1
  obtain ⟨⟨y0, y1, y2, y3, y4, y5, y6, y7⟩, _⟩ := cell8 HX1.out
  have HB0 := Lib.hid hb0
  obtain ⟨L, hL⟩ : ∃ L, (if okX (.mk h lk) = true then kndX 2 (.mk h lk) else []) = L := ⟨_, rfl⟩
  rw [hL] at HC ⊢
  clear hX hT hb0 hsm hL
  go_enter Tryz.func28, Tryz.ntmps28
  go_wp2_with fail
  refine HC.out.mono ?_
  rintro e w1 ⟨A1, c1, rfl, hl, hx, hb⟩
  have HX := Lib.hid hx
  have HB := Lib.hid (bt HB0.out hb)
  clear hb hx
  go_wp2_with fail
  go_ret
  exact ⟨A1, c1, rfl, hl, HX.out, HB.out⟩
theorem aggs_any (h : Hd) (lk : List Ex) (A : Option Addr) (cap : Nat) (w : World) (hX : XsAt w.heap.size w lk A) (hcap : lk.length ≤ cap) (hsm : AllSm (.mk h lk)) (hc : cnt (.mk h lk) ≤ 999999) (hT : Tabs w) :
    Calls Tryz.prog 29 #[XV h A lk.length cap] w (ListBack w (if okX (.mk h lk) = true then kndX 4 (.mk h lk) else [])) := by
  have hb0 := ba w (xbox h A lk.length cap)
  have HC := Lib.hid (pick4_any h lk A cap _ (XsAt.next hX hb0) hcap hsm hc (hT.kept hb0))
  have HX1 := Lib.hid (MapKept.heap_alloc w (xbox h A lk.length cap)).1
  obtain ⟨⟨y0, y1, y2, y3, y4, y5, y6, y7⟩, _⟩ := cell8 HX1.out
  have HB0 := Lib.hid hb0
  obtain ⟨L, hL⟩ : ∃ L, (if okX (.mk h lk) = true then kndX 4 (.mk h lk) else []) = L := ⟨_, rfl⟩
  rw [hL] at HC ⊢
  clear hX hT hb0 hsm hL
  go_enter Tryz.func29, Tryz.ntmps29
  go_wp2_with fail
  refine HC.out.mono ?_
  rintro e w1 ⟨A1, c1, rfl, hl, hx, hb⟩
  have HX := Lib.hid hx
  have HB := Lib.hid (bt HB0.out hb)
  clear hb hx
  go_wp2_with fail
  go_ret
  exact ⟨A1, c1, rfl, hl, HX.out, HB.out⟩
end
section
open Go.RowKit Go.Shelf
attribute [local go_sem] Oper.semAt_some

def EV (x : Ex) (v : Value) (w : World) : Prop := ∃ A cap, v = XV x.hd A x.kids.length cap ∧ x.kids.length ≤ cap ∧ XsAt w.heap.size w x.kids A
def LV (l : List Ex) (v : Value) (w : World) : Prop := ∃ A cap, v = .slice A l.length cap ∧ l.length ≤ cap ∧ XsAt w.heap.size w l A
theorem EV.next {x : Ex} {v : Value} {w w' : World} (hb : Bel w w') (h : EV x v w) : EV x v w' := by
  obtain ⟨A, cap, e, hl, hx⟩ := h
  exact ⟨A, cap, e, hl, XsAt.next hx hb⟩
theorem LV.next {l : List Ex} {v : Value} {w w' : World} (hb : Bel w w') (h : LV l v w) : LV l v w' := by
  obtain ⟨A, cap, e, hl, hx⟩ := h
  exact ⟨A, cap, e, hl, XsAt.next hx hb⟩
theorem EV.keeps (x : Ex) : Keeps Bel (EV x) := fun _ _ _ hb h => EV.next hb h
theorem LV.keeps (l : List Ex) : Keeps Bel (LV l) := fun _ _ _ hb h => LV.next hb h
theorem EV.leaf (h : Hd) (w : World) : EV (.mk h []) (XV h none 0 0) w := ⟨none, 0, rfl, Nat.le_refl _, by show XsB _ _ [] _; rw [XsB]; trivial⟩
theorem LV.nil (w : World) : LV [] (.slice none 0 0) w := ⟨none, 0, rfl, Nat.le_refl _, by rw [XsAt, XsB]; trivial⟩
theorem EV.mk' {l : List Ex} {v : Value} {w : World} (h : Hd) (hl : LV l v w) : ∃ A cap, v = .slice A l.length cap ∧ EV (.mk h l) (XV h A l.length cap) w := by
  obtain ⟨A, cap, e, hle, hx⟩ := hl
  exact ⟨A, cap, e, A, cap, rfl, hle, hx⟩
theorem LV.ofBack {w w' : World} {l : List Ex} {e : Ending} (h : ListBack w l e w') : ∃ v, e = .returned v ∧ Bel w w' ∧ LV l v w' := by
  obtain ⟨A, cap, rfl, hl, hx, hb⟩ := h
  exact ⟨_, rfl, hb, A, cap, rfl, hl, hx⟩
theorem EV.ofCopy {w w' : World} {x : Ex} {e : Ending} (h : CopyE w x e w') : ∃ v, e = .returned v ∧ Bel w w' ∧ EV x v w' := by
  obtain ⟨A, cap, rfl, hl, hx, hb⟩ := h
  exact ⟨_, rfl, hb, A, cap, rfl, hl, XsB.go (fun _ _ => rfl) (fun k hk => hk.2) _ _ hx⟩

/-! The program's own. -/
theorem ev_check {x : Ex} {v : Value} {w : World} (h : EV x v w) (hsm : AllSm x) (hc : cnt x ≤ 999999) (hT : Tabs w) {c : Int} (e : chkI x = c) :
    Calls Tryz.prog 10 #[v] w fun e w' => ∃ u, e = .returned u ∧ Bel w w' ∧ u = .int .i64 c := by
  obtain ⟨hd, l⟩ := x
  obtain ⟨A, cap, rfl, hl, hx⟩ := h
  refine (xcheck_any hd l A cap w hx hl hsm hc hT).mono ?_
  rintro _ w' ⟨rfl, hb⟩
  exact ⟨_, rfl, hb, by rw [e]⟩
theorem ev_size {x : Ex} {v : Value} {w : World} (h : EV x v w) (hsm : AllSm x) (hc : cnt x ≤ 999999) (hT : Tabs w) {c : Int} (e : sizI x = c) :
    Calls Tryz.prog 11 #[v] w fun e w' => ∃ u, e = .returned u ∧ Bel w w' ∧ u = .int .i64 c := by
  obtain ⟨hd, l⟩ := x
  obtain ⟨A, cap, rfl, hl, hx⟩ := h
  refine (size_any hd l A cap w hx hl hsm hc hT).mono ?_
  rintro _ w' ⟨rfl, hb⟩
  exact ⟨_, rfl, hb, by rw [e]⟩
theorem ev_depth {x : Ex} {v : Value} {w : World} (h : EV x v w) (hsm : AllSm x) (hc : cnt x ≤ 999999) (hT : Tabs w) {c : Int} (e : depI x = c) :
    Calls Tryz.prog 12 #[v] w fun e w' => ∃ u, e = .returned u ∧ Bel w w' ∧ u = .int .i64 c := by
  obtain ⟨hd, l⟩ := x
  obtain ⟨A, cap, rfl, hl, hx⟩ := h
  refine (depth_any hd l A cap w hx hl hsm hc hT).mono ?_
  rintro _ w' ⟨rfl, hb⟩
  exact ⟨_, rfl, hb, by rw [e]⟩
theorem ev_show {x : Ex} {v : Value} {w : World} (h : EV x v w) (hsm : AllSm x) (hc : cnt x ≤ 999999) (hT : TbX w) {c : List UInt8} (e : shoX x = c) :
    Calls Tryz.prog 13 #[v] w fun e w' => ∃ u, e = .returned u ∧ Bel w w' ∧ u = .string (bstr c) := by
  obtain ⟨hd, l⟩ := x
  obtain ⟨A, cap, rfl, hl, hx⟩ := h
  refine (xshow_any hd l A cap w hx hl hsm hc hT).mono ?_
  rintro _ w' ⟨rfl, hb⟩
  exact ⟨_, rfl, hb, by rw [e]⟩
theorem ev_safe {x : Ex} {v : Value} {w : World} (h : EV x v w) (hsm : AllSm x) (hc : cnt x ≤ 999999) (hT : Tabs w) {c : Bool} (e : safeB x = c) :
    Calls Tryz.prog 31 #[v] w fun e w' => ∃ u, e = .returned u ∧ Bel w w' ∧ u = .bool c := by
  obtain ⟨hd, l⟩ := x
  obtain ⟨A, cap, rfl, hl, hx⟩ := h
  refine (safe_any hd l A cap w hx hl hsm hc hT).mono ?_
  rintro _ w' ⟨rfl, hb⟩
  exact ⟨_, rfl, hb, by rw [e]⟩
theorem ev_columns {x : Ex} {v : Value} {w : World} (h : EV x v w) (hsm : AllSm x) (hc : cnt x ≤ 999999) (hT : Tabs w) :
    Calls Tryz.prog 28 #[v] w fun e w' => ∃ u, e = .returned u ∧ Bel w w' ∧ LV (if okX x = true then kndX 2 x else []) u w' := by
  obtain ⟨hd, l⟩ := x
  obtain ⟨A, cap, rfl, hl, hx⟩ := h
  exact (columns_any hd l A cap w hx hl hsm hc hT).mono fun _ _ h => LV.ofBack h
theorem ev_aggs {x : Ex} {v : Value} {w : World} (h : EV x v w) (hsm : AllSm x) (hc : cnt x ≤ 999999) (hT : Tabs w) :
    Calls Tryz.prog 29 #[v] w fun e w' => ∃ u, e = .returned u ∧ Bel w w' ∧ LV (if okX x = true then kndX 4 x else []) u w' := by
  obtain ⟨hd, l⟩ := x
  obtain ⟨A, cap, rfl, hl, hx⟩ := h
  exact (aggs_any hd l A cap w hx hl hsm hc hT).mono fun _ _ h => LV.ofBack h
theorem ev_parts {x : Ex} {v : Value} {w : World} (h : EV x v w) (hsm : AllSm x) (hc : cnt x ≤ 999999) (hT : Tabs w) :
    Calls Tryz.prog 30 #[v] w fun e w' => ∃ u, e = .returned u ∧ Bel w w' ∧ LV (if okX x = true then prtX x else []) u w' := by
  obtain ⟨hd, l⟩ := x
  obtain ⟨A, cap, rfl, hl, hx⟩ := h
  exact (xparts_any hd l A cap w hx hl hsm hc hT).mono fun _ _ h => LV.ofBack h
theorem ev_same {x y : Ex} {v u : Value} {w : World} (h : EV x v w) (h' : EV y u w) (hc : cnt x ≤ 1000000) (hc' : cnt y ≤ 1000000) {c : Bool} (e : sameX x y = c) :
    Calls Tryz.prog 25 #[v, u] w fun e w' => ∃ u, e = .returned u ∧ Bel w w' ∧ u = .bool c := by
  obtain ⟨hd, l⟩ := x
  obtain ⟨hd', l'⟩ := y
  obtain ⟨A, cap, rfl, hl, hx⟩ := h
  obtain ⟨A', cap', rfl, hl', hx'⟩ := h'
  refine (xsame_any hd hd' l l' w A cap A' cap' hx hl hx' hl' hc hc').mono ?_
  rintro _ w' ⟨rfl, hb⟩
  exact ⟨_, rfl, hb, by rw [e]⟩
theorem ev_op {n : Int} {l : List Ex} {v : Value} {w : World} (h : LV l v w) (hc : cntL l ≤ 1000000) :
    Calls Tryz.prog 22 #[.int .i64 n, v] w fun e w' => ∃ u, e = .returned u ∧ Bel w w' ∧ EV (.mk (hdO n) l) u w' := by
  obtain ⟨A, cap, rfl, hl, hx⟩ := h
  exact (op_any n l w A cap hc hx).mono fun _ _ h => EV.ofCopy h
theorem ev_agg {n : Int} {l : List Ex} {v : Value} {w : World} (h : LV l v w) (hc : cntL l ≤ 1000000) :
    Calls Tryz.prog 24 #[.int .i64 n, v] w fun e w' => ∃ u, e = .returned u ∧ Bel w w' ∧ EV (.mk (hdA n) l) u w' := by
  obtain ⟨A, cap, rfl, hl, hx⟩ := h
  exact (agg_any n l w A cap hc hx).mono fun _ _ h => EV.ofCopy h
theorem ev_lit {k n : Int} {s : ByteArray} {w : World} :
    Calls Tryz.prog 18 #[VV k n s] w fun e w' => ∃ u, e = .returned u ∧ Bel w w' ∧ u = XV (hdL k n s) none 0 0 :=
  (lit_any k n s w).mono fun _ _ ⟨h1, h2⟩ => ⟨_, h1, h2, rfl⟩
theorem ev_column {t c : ByteArray} {w : World} :
    Calls Tryz.prog 20 #[.string t, .string c] w fun e w' => ∃ u, e = .returned u ∧ Bel w w' ∧ u = XV (hdC t c) none 0 0 :=
  (column_any t c w).mono fun _ _ ⟨h1, h2⟩ => ⟨_, h1, h2, rfl⟩
theorem ev_arity {n : Int} {w : World} {c : Int} (e : arI n = c) :
    Calls Tryz.prog 26 #[.int .i64 n] w fun e w' => ∃ u, e = .returned u ∧ Bel w w' ∧ u = .int .i64 c :=
  (arity_any n w).mono fun _ w' ⟨h1, h2⟩ => ⟨_, h1, by rw [h2]; exact Below.refl _ _, by rw [e]⟩

/-! Operations. -/
section
variable {o : Oper} {a : Act} {w : World}
theorem info_is : ∃ i, Tryz.prog.info? 26 = some i ∧ i.zero = some (XV ⟨0, 0, 0, 0, ⟨#[]⟩, ⟨#[]⟩, ⟨#[]⟩⟩ none 0 0) ∧ i.size = 8 ∧ i.bytes = 104 := infoE_parts info_expr
theorem XC.range {g p : Nat} {h : Hd} {A : Option Addr} {len cap : Nat} (c : XC w g p h A len cap) : w.rangeAt g p [.int .i64 h.k, .int .i64 h.n, .int .i64 h.vk, .int .i64 h.vn, .string h.vs, .string h.tab, .string h.col, .slice A len cap] := by
  intro j v hj
  obtain ⟨c0, c1, c2, c3, c4, c5, c6, c7⟩ := c
  have hl : j < 8 := by have := (List.getElem?_eq_some_iff.1 hj).1; simpa using this
  rcases (show j = 0 ∨ j = 1 ∨ j = 2 ∨ j = 3 ∨ j = 4 ∨ j = 5 ∨ j = 6 ∨ j = 7 by omega) with rfl | rfl | rfl | rfl | rfl | rfl | rfl | rfl
  all_goals
    simp only [List.getElem?_cons_zero, List.getElem?_cons_succ, Option.some.injEq] at hj
    subst hj
    assumption
theorem run_ldE {x : Operand} (ho : o.op = .load 26 x) {g p : Nat} {h : Hd} {A : Option Addr} {len cap : Nat} (hx : a.eval x = .pointer (some ⟨g, p, none⟩)) (hc : XC w g p h A len cap) :
    (execOp a.eval o).run Tryz.prog w = .ok (.value (XV h A len cap)) w := by
  unfold execOp
  simp only [ho, hx]
  rw [Sem.run_bind, run_loadAt_mid w g p 26 _ _ hc.range Tryz.underlying26 rfl (by kernel_rfl)]
  rfl
theorem XC.ofBox {u : Nat} {h : Hd} {A : Option Addr} {len cap : Nat} (e : w.heap[u]? = some (xbox h A len cap)) : XC w u 0 h A len cap := by
  obtain ⟨⟨c0, c1, c2, c3, c4, c5, c6, c7⟩, _⟩ := cell8 e
  exact ⟨c0, c1, c2, c3, c4, c5, c6, c7⟩
theorem run_alloc8 (ho : o.op = .alloc 26) : (execOp a.eval o).run Tryz.prog w = .ok (.value (.pointer (some ⟨w.heap.size, 0, none⟩))) (w.alloc x0) := by
  unfold execOp
  simp only [ho]
  go_simp
theorem run_zeroE (ho : o.op = .build 26 #[]) : (execOp a.eval o).run Tryz.prog w = .ok (.value (XV ⟨0, 0, 0, 0, ⟨#[]⟩, ⟨#[]⟩, ⟨#[]⟩⟩ none 0 0)) w := by
  unfold execOp
  simp only [ho]
  go_simp
theorem bs1_run (h : Hd) (A : Option Addr) (len cap : Nat) : (Instr.buildSlice 24 1 #[(0, XV h A len cap)]).run Tryz.prog w = .ok (.slice (some ⟨w.heap.size, 0, none⟩) 1 1) (w.alloc (.cells (xcell (h, A, len, cap)).toArray 26)) := by
  go_simp
  rfl
theorem bs2_run (h h' : Hd) (A A' : Option Addr) (len cap len' cap' : Nat) : (Instr.buildSlice 24 2 #[(0, XV h A len cap), (1, XV h' A' len' cap')]).run Tryz.prog w = .ok (.slice (some ⟨w.heap.size, 0, none⟩) 2 2) (w.alloc (.cells (xcell (h, A, len, cap) ++ xcell (h', A', len', cap')).toArray 26)) := by
  go_simp
  rfl
theorem run_bs1 {x : Operand} (ho : o.op = .buildSlice 24 1 #[(0, x)]) {h : Hd} {A : Option Addr} {len cap : Nat} (hx : a.eval x = XV h A len cap) :
    (execOp a.eval o).run Tryz.prog w = .ok (.value (.slice (some ⟨w.heap.size, 0, none⟩) 1 1)) (w.alloc (.cells (xcell (h, A, len, cap)).toArray 26)) := by
  unfold execOp
  simp only [ho, List.map_toArray, List.map_cons, List.map_nil, hx]
  rw [Sem.run_bind, bs1_run]
  rfl
theorem run_bs2 {x y : Operand} (ho : o.op = .buildSlice 24 2 #[(0, x), (1, y)]) {h h' : Hd} {A A' : Option Addr} {len cap len' cap' : Nat} (hx : a.eval x = XV h A len cap) (hy : a.eval y = XV h' A' len' cap') :
    (execOp a.eval o).run Tryz.prog w = .ok (.value (.slice (some ⟨w.heap.size, 0, none⟩) 2 2)) (w.alloc (.cells (xcell (h, A, len, cap) ++ xcell (h', A', len', cap')).toArray 26)) := by
  unfold execOp
  simp only [ho, List.map_toArray, List.map_cons, List.map_nil, hx, hy]
  rw [Sem.run_bind, bs2_run]
  rfl
end
theorem LV.made {w : World} {l : List Ex} {q : List XQ} (hq : XRs (fun k => k < w.heap.size) w l q) : LV l (.slice (some ⟨w.heap.size, 0, none⟩) l.length l.length) (w.alloc (.cells (xcells q).toArray 26)) := by
  refine ⟨_, _, rfl, Nat.le_refl _, ?_⟩
  refine XRs.xsB (B := fun k => k < (w.alloc (.cells (xcells q).toArray 26)).heap.size) (by simp) (hq.go (fun k hk => (ba w _).block k hk) (fun k hk => by rw [World.size_alloc]; omega)) fun j u hj => ?_
  have hn := (MapKept.heap_alloc w (.cells (xcells q).toArray 26)).1
  rw [Nat.zero_add]
  unfold World.cell?
  rw [hn]
  simp [hj]
theorem EV.row {x : Ex} {v : Value} {w : World} (h : EV x v w) : ∃ A cap, v = XV x.hd A x.kids.length cap ∧ XR (fun k => k < w.heap.size) w x (x.hd, A, x.kids.length, cap) := by
  obtain ⟨A, cap, e, hl, hx⟩ := h
  exact ⟨A, cap, e, rfl, rfl, hl, hx⟩
theorem wp_bs1 {o : Oper} {a : Act} {w : World} {Q : Exit → Act → World → Prop} {p : Operand} (ho : o.op = .buildSlice 24 1 #[(0, p)]) {x : Ex} (h : EV x (a.eval p) w) :
    o.wp Tryz.prog a w (fun a' w' => ∃ v, a' = a.put o.dst v ∧ Bel w w' ∧ LV [x] v w') Q := by
  obtain ⟨A, cap, e, hr⟩ := h.row
  have hq : XRs (fun k => k < w.heap.size) w [x] [(x.hd, A, x.kids.length, cap)] := .cons hr .nil
  have := LV.made hq
  refine wp_made (run_bs1 ho e) ?_
  simpa [xcells] using this
theorem wp_bs2 {o : Oper} {a : Act} {w : World} {Q : Exit → Act → World → Prop} {p p' : Operand} (ho : o.op = .buildSlice 24 2 #[(0, p), (1, p')]) {x y : Ex} (h : EV x (a.eval p) w) (h' : EV y (a.eval p') w) :
    o.wp Tryz.prog a w (fun a' w' => ∃ v, a' = a.put o.dst v ∧ Bel w w' ∧ LV [x, y] v w') Q := by
  obtain ⟨A, cap, e, hr⟩ := h.row
  obtain ⟨A', cap', e', hr'⟩ := h'.row
  have hq : XRs (fun k => k < w.heap.size) w [x, y] [(x.hd, A, x.kids.length, cap), (y.hd, A', y.kids.length, cap')] := .cons hr (.cons hr' .nil)
  have := LV.made hq
  refine wp_made (run_bs2 ho e e') ?_
  simpa [xcells] using this
end
end Go.Proofs.YteckhaicodmakaaGreatDoor
