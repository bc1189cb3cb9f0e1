/-
  The walk of ExprMakes.
-/
import Derived.Test.YteckhaicodmakaaGreatDoorExJ
namespace Go.Proofs.YteckhaicodmakaaGreatDoor
open Go.RowKit Go.Shelf
attribute [local go_sem] Oper.semAt_some

section
variable {o : Oper} {a : Act} {w : World}
theorem run_eqB {P : Program} {x y : Operand} {t t' : TypeId} (ho : o.op = .binOp .eql t x y t') (hu : P.underlying t = some .bool) {m n : Bool} (hx : a.eval x = .bool m) (hy : a.eval y = .bool n) : (execOp a.eval o).run P w = .ok (.value (.bool (m == n))) w := by
  unfold execOp
  simp only [ho, hx, hy]
  simp [eqGuard, run_eql_bool w t m n hu]
abbrev vbox (k n : Int) (s : ByteArray) : Obj := .cells #[.int .i64 k, .int .i64 n, .string s] 23
theorem run_ldV {x : Operand} (ho : o.op = .load 23 x) {u : Nat} {k n : Int} {s : ByteArray} (hx : a.eval x = .pointer (some ⟨u, 0, none⟩)) (hb : w.heap[u]? = some (vbox k n s)) :
    (execOp a.eval o).run Tryz.prog w = .ok (.value (VV k n s)) w := by
  have hr : w.rangeAt u 0 [.int .i64 k, .int .i64 n, .string s] := by
    intro j v hj
    rw [Nat.zero_add]
    simp only [World.cell?, hb, List.getElem?_toArray]
    exact hj
  unfold execOp
  simp only [ho, hx]
  rw [Sem.run_bind, run_loadAt_mid w u 0 23 _ _ hr Tryz.underlying23 rfl (by kernel_rfl)]
  rfl
theorem run_mkA {x y : Operand} (ho : o.op = .build 26 #[(0, .const (.int .i64 4)), (1, x), (5, y)]) {m : Int} {A : Option Addr} {n c : Nat} (hx : a.eval x = .int .i64 m) (hy : a.eval y = .slice A n c) :
    (execOp a.eval o).run Tryz.prog w = .ok (.value (XV (hdA m) A n c)) w := by
  have h : (Instr.build 26 #[(0, .int .i64 4), (1, .int .i64 m), (5, .slice A n c)]).run Tryz.prog w = .ok (XV (hdA m) A n c) w := by
    go_simp
  have e1 : a.eval (.const (.int .i64 4)) = .int .i64 4 := rfl
  unfold execOp
  simp only [ho, List.map_toArray, List.map_cons, List.map_nil, hx, hy, e1]
  rw [Sem.run_bind, h]
  rfl
end
theorem rv_op {n : Int} {l : List Ex} {v : Value} {w : World} (h : LV l v w) :
    Calls Tryz.prog 23 #[.int .i64 n, v] w fun e w' => ∃ u, e = .returned u ∧ Bel w w' ∧ EV (.mk (hdO n) l) u w' := by
  obtain ⟨A, cap, rfl, hl, hx⟩ := h
  exact (refOp_any n A l.length cap w).mono fun _ _ ⟨h1, h2⟩ => ⟨_, h1, h2, A, cap, rfl, hl, XsAt.next hx h2⟩
set_option maxRecDepth 100000 in
set_option maxHeartbeats 8000000 in
theorem makes_walk (h : Hd) (l : List Ex) (A : Option Addr) (cap : Nat) (h' : Hd) (l' : List Ex) (A' : Option Addr) (cap' : Nat) (m k n : Int) (s tab col : ByteArray) (w : World) (hX : XsAt w.heap.size w l A) (hcap : l.length ≤ cap) (hX' : XsAt w.heap.size w l' A') (hcap' : l'.length ≤ cap') (hT : TbX w) :
    Calls Tryz.prog 4 #[XV h A l.length cap, XV h' A' l'.length cap', .int .i64 m, VV k n s, .string tab, .string col] w fun e w' => e = .returned (.bool true) ∧ Below w.heap.size w w' := by
  have hb6 := ba w (xbox h A l.length cap)
  have hb7 := ba (w.alloc (xbox h A l.length cap)) (xbox h' A' l'.length cap')
  have hb9 := ba ((w.alloc (xbox h A l.length cap)).alloc (xbox h' A' l'.length cap')) (vbox k n s)
  have HX6 := Lib.hid ((hb9.block w.heap.size (by simp; omega)).trans ((hb7.block w.heap.size (by simp)).trans (MapKept.heap_alloc w (xbox h A l.length cap)).1))
  have h7 := (hb9.block (w.heap.size + 1) (by simp)).trans (show ((w.alloc (xbox h A l.length cap)).alloc (xbox h' A' l'.length cap')).heap[w.heap.size + 1]? = some (xbox h' A' l'.length cap') by
    have := (MapKept.heap_alloc (w.alloc (xbox h A l.length cap)) (xbox h' A' l'.length cap')).1
    rwa [World.size_alloc] at this)
  have HX7 := Lib.hid h7
  have HX9 := Lib.hid (show (((w.alloc (xbox h A l.length cap)).alloc (xbox h' A' l'.length cap')).alloc (vbox k n s)).heap[w.heap.size + 1 + 1]? = some (vbox k n s) by
    have := (MapKept.heap_alloc ((w.alloc (xbox h A l.length cap)).alloc (xbox h' A' l'.length cap')) (vbox k n s)).1
    rwa [World.size_alloc, World.size_alloc] at this)
  have HE6 := Lib.hid (show EV (.mk h l) (XV h A l.length cap) _ from EV.next hb9 (EV.next hb7 (EV.next hb6 ⟨A, cap, rfl, hcap, hX⟩)))
  have HE7 := Lib.hid (show EV (.mk h' l') (XV h' A' l'.length cap') _ from EV.next hb9 (EV.next hb7 (EV.next hb6 ⟨A', cap', rfl, hcap', hX'⟩)))
  have HB0 := Lib.hid (bt hb6 (bt hb7 hb9))
  have HT := Lib.hid hT
  clear hX hX' hT hb6 hb7 hb9 h7
  obtain ⟨a', ha'⟩ : ∃ x, Ex.mk h l = x := ⟨_, rfl⟩
  obtain ⟨b', hb'⟩ : ∃ x, Ex.mk h' l' = x := ⟨_, rfl⟩
  rw [ha'] at HE6
  rw [hb'] at HE7
  clear ha' hb'
  obtain ⟨⟨y0, y1, y2, y3, y4, y5, y6, y7⟩, _⟩ := cell8 HX6.out
  obtain ⟨⟨z0, z1, z2, z3, z4, z5, z6, z7⟩, _⟩ := cell8 HX7.out
  have HV := Lib.hid (fun w1 (hb : Below w.heap.size w w1) => lives_yes w1 (HT.out.kept hb))
  have HL := Lib.hid (rv_large HE6.out rfl)
  go_enter Tryz.func4, Tryz.ntmps4
  go_wp2_with fail
  refine HL.out.mono ?_
  rintro e w1 ⟨_, rfl, hb, rfl⟩
  have HB1 := Lib.hid (bt HB0.out hb)
  have HX61 := Lib.hid ((hb.block w.heap.size (Array.getElem?_eq_some_iff.1 HX6.out).1).trans HX6.out)
  have HX71 := Lib.hid ((hb.block (w.heap.size + 1) (Array.getElem?_eq_some_iff.1 HX7.out).1).trans HX7.out)
  have HX91 := Lib.hid ((hb.block (w.heap.size + 1 + 1) (Array.getElem?_eq_some_iff.1 HX9.out).1).trans HX9.out)
  have HE61 := Lib.hid (EV.next hb HE6.out)
  have HE71 := Lib.hid (EV.next hb HE7.out)
  clear hb y0 y1 y2 y3 y4 y5 y6 y7 z0 z1 z2 z3 z4 z5 z6 z7 HB0 HX6 HX7 HX9 HE6 HE7
  cases hla : largeB a'
  rotate_left 1
  · clear HX61 HX71 HX91 HE61 HE71
    go_wp2_with fail
    refine (HV.out _ HB1.out).mono ?_
    rintro e w9 ⟨rfl, hb⟩
    have HB9 := Lib.hid (bt HB1.out hb)
    clear hb
    go_wp2_with fail
    go_ret
    exact ⟨rfl, HB9.out⟩
  obtain ⟨hsa, hca⟩ := large_no hla
  clear hla
  obtain ⟨⟨z0, z1, z2, z3, z4, z5, z6, z7⟩, _⟩ := cell8 HX71.out
  have HL2 := Lib.hid (rv_large HE71.out rfl)
  go_wp2_with fail
  refine HL2.out.mono ?_
  rintro e w2 ⟨_, rfl, hb, rfl⟩
  have HB2 := Lib.hid (bt HB1.out hb)
  have HX6 := Lib.hid ((hb.block w.heap.size (Array.getElem?_eq_some_iff.1 HX61.out).1).trans HX61.out)
  have HX7 := Lib.hid ((hb.block (w.heap.size + 1) (Array.getElem?_eq_some_iff.1 HX71.out).1).trans HX71.out)
  have hx9 := (hb.block (w.heap.size + 1 + 1) (Array.getElem?_eq_some_iff.1 HX91.out).1).trans HX91.out
  have HX9 := Lib.hid hx9
  have s2 : w2.cell? ⟨w.heap.size + 1 + 1, 2, none⟩ = some (.string s) := by simp only [World.cell?, hx9]; rfl
  have HE6 := Lib.hid (EV.next hb HE61.out)
  have HE7 := Lib.hid (EV.next hb HE71.out)
  clear hb z0 z1 z2 z3 z4 z5 z6 z7 HB1 HX61 HX71 HX91 HE61 HE71 hx9
  cases hlb : largeB b'
  rotate_left 1
  · clear HX6 HX7 HX9 HE6 HE7
    go_wp2_with fail
    refine (HV.out _ HB2.out).mono ?_
    rintro e w9 ⟨rfl, hb⟩
    have HB9 := Lib.hid (bt HB2.out hb)
    clear hb
    go_wp2_with fail
    go_ret
    exact ⟨rfl, HB9.out⟩
  obtain ⟨hsb, hcb⟩ := large_no hlb
  clear hlb
  by_cases ht : (200 : Int) < (tab.size : Int)
  · clear HX6 HX7 HX9 HE6 HE7
    go_wp2_with fail
    refine (HV.out _ HB2.out).mono ?_
    rintro e w9 ⟨rfl, hb⟩
    have HB9 := Lib.hid (bt HB2.out hb)
    clear hb
    go_wp2_with fail
    go_ret
    exact ⟨rfl, HB9.out⟩
  by_cases hc : (200 : Int) < (col.size : Int)
  · clear HX6 HX7 HX9 HE6 HE7
    go_wp2_with fail
    refine (HV.out _ HB2.out).mono ?_
    rintro e w9 ⟨rfl, hb⟩
    have HB9 := Lib.hid (bt HB2.out hb)
    clear hb
    go_wp2_with fail
    go_ret
    exact ⟨rfl, HB9.out⟩
  by_cases hs : (500 : Int) < (s.size : Int)
  · clear HX6 HX7 HX9 HE6 HE7
    go_wp2_with fail
    refine (HV.out _ HB2.out).mono ?_
    rintro e w9 ⟨rfl, hb⟩
    have HB9 := Lib.hid (bt HB2.out hb)
    clear hb
    go_wp2_with fail
    go_ret
    exact ⟨rfl, HB9.out⟩
  have HT3 := Lib.hid (HT.out.kept (bt HB2.out (Below.drew (Below.refl w2.heap.size w2))))
  have HB3 := HB2
  go_upto_region 3 with fail
  obtain ⟨u9, hu9⟩ : ∃ u, w.heap.size + 1 + 1 = u := ⟨_, rfl⟩
  obtain ⟨u7, hu7⟩ : ∃ u, w.heap.size + 1 = u := ⟨_, rfl⟩
  obtain ⟨u6, hu6⟩ : ∃ u, w.heap.size = u := ⟨_, rfl⟩
  rw [hu9] at HX9 ⊢
  rw [hu7] at HX7 ⊢
  rw [hu6] at HX6
  try rw [hu6]
  clear hu9 hu7 hu6 s2
  have HU6 := Lib.hid (Array.getElem?_eq_some_iff.1 HX6.out).1
  have HU7 := Lib.hid (Array.getElem?_eq_some_iff.1 HX7.out).1
  have HU9 := Lib.hid (Array.getElem?_eq_some_iff.1 HX9.out).1
  refine wp_region_inv (n := 58) (ds := [some 36, some 37, some 38, some 39, some 40, some 41, some 42, some 43, some 44, some 45, some 46, some 47, some 48, some 49, some 50, some 51, some 52, some 53, some 54, some 55, some 56, some 57, some 58, some 59, some 60, some 61, some 62, some 63, some 64, some 65, some 66, some 67, some 68, some 69, some 70, some 71, some 72, some 73, some 74, some 75, some 76, some 77, some 78, some 79, some 80, some 81, some 82, some 83, some 84, some 85, some 86, some 87, some 88, some 89, some 90, some 91, some 92, some 12]) (need := [[], [0], [1], [1, 2], [1], [1, 3, 4], [1, 3, 5], [1, 6], [6, 7], [8], [8], [8, 9, 10], [8], [8], [8, 11, 12, 13], [8, 11, 14], [8, 15], [15, 16], [17], [17], [17], [17, 19, 20], [17, 18, 21], [17], [17], [17], [17, 24, 25], [17, 22, 23, 26], [17, 22, 27], [17, 28], [28, 29], [30], [30], [30, 32], [30, 31, 33], [30], [30], [30, 36], [30, 35, 37], [30, 34, 38], [30, 39], [39, 40], [41], [41], [41, 42, 43], [41], [41], [41, 44, 45, 46], [41, 44, 47], [41, 48], [47, 49], [50], [50, 51], [50], [50, 52, 53], [50, 52, 54], [50, 55], [0, 1, 2, 3, 4, 5, 6, 7, 8, 9, 10, 11, 12, 13, 14, 15, 16, 17, 18, 19, 20, 21, 22, 23, 24, 25, 26, 27, 28, 29, 30, 31, 32, 33, 34, 35, 36, 37, 38, 39, 40, 41, 42, 43, 44, 45, 46, 47, 48, 49, 50, 51, 52, 53, 54, 55, 56]]) (R := Bel) (Gs := [
      (fun v _ => v = .bool true),
      (fun v _ => v = .bool true),
      (fun v _ => v = VV k n s),
      (EV (.mk (hdL k n s) [])),
      (fun v _ => v = VV k n s),
      (EV (.mk (hdL k n s) [])),
      (fun v _ => v = .bool true),
      (fun v _ => v = .bool true),
      (fun v _ => v = .bool true),
      (fun v _ => v = .string tab),
      (fun v _ => v = .string col),
      (EV (.mk (hdC tab col) [])),
      (fun v _ => v = .string tab),
      (fun v _ => v = .string col),
      (EV (.mk (hdC tab col) [])),
      (fun v _ => v = .bool true),
      (fun v _ => v = .bool true),
      (fun v _ => v = .bool true),
      (fun v _ => v = .int .i64 m),
      (EV a'),
      (EV b'),
      (LV [a', b']),
      (EV (.mk (hdO m) [a', b'])),
      (fun v _ => v = .int .i64 m),
      (EV a'),
      (EV b'),
      (LV [a', b']),
      (EV (.mk (hdO m) [a', b'])),
      (fun v _ => v = .bool true),
      (fun v _ => v = .bool true),
      (fun v _ => v = .bool true),
      (fun v _ => v = .int .i64 m),
      (EV a'),
      (LV [a']),
      (EV (.mk (hdA m) [a'])),
      (fun v _ => v = .int .i64 m),
      (EV a'),
      (LV [a']),
      (EV (.mk (hdA m) [a'])),
      (fun v _ => v = .bool true),
      (fun v _ => v = .bool true),
      (fun v _ => v = .bool true),
      (EV a'),
      (EV b'),
      (fun v _ => v = .bool (sameX a' b')),
      (EV a'),
      (EV b'),
      (fun v _ => v = .bool (sameX a' b')),
      (fun v _ => v = .bool true),
      (fun v _ => v = .bool true),
      (fun v _ => v = .bool true),
      (fun v _ => v = .int .i64 m),
      (fun v _ => v = .int .i64 (arI m)),
      (fun v _ => v = .int .i64 m),
      (fun v _ => v = .int .i64 (arI m)),
      (fun v _ => v = .bool true),
      (fun v _ => v = .bool true),
      (fun v _ => v = .bool true)])
    (by kernel_rfl) (by kernel_rfl) (by decide) (by kernel_rfl) (by kernel_rfl) (by kernel_rfl) (fun x => Below.refl _ x) (fun _ _ _ h k => bt h k) ?_ ?_
  · refine Each.cons rfl (Keeps.const _) (StepOk.plain (g := (fun v _ => v = .bool true)) rfl rfl rfl (fun a w hs hR hr pre => ?_)) ?_
    · exact wp_fn (vs := #[]) rfl Tryz.func8 (by kernel_rfl) (by kernel_rfl) (by simp) ((lives_yes w (HT3.out.kept hR)).mono fun _ _ ⟨h1, h2⟩ => ⟨_, h1, h2, rfl⟩)
    refine Each.cons rfl (Keeps.const _) (StepOk.plain (g := (fun v _ => v = .bool true)) rfl rfl rfl (fun a w hs hR hr pre => ?_)) ?_
    · have e36 : a.eval (.tmp 36) = .bool true := pre 0 (by decide)
      exact wp_pure (run_move rfl) e36
    refine Each.cons rfl (Keeps.const _) (StepOk.guarded 1 37 true (g := (fun v _ => v = VV k n s)) rfl rfl rfl rfl (fun a w hs hR hr pre => ⟨pre 1 (by decide), ?_⟩)) ?_
    · have ep : a.eval (.tmp 9) = .pointer (some ⟨u9, 0, none⟩) := hr 9 (by decide)
      exact wp_pure (run_ldV rfl ep ((hR.block u9 HU9.out).trans HX9.out)) rfl
    refine Each.cons rfl (EV.keeps _) (StepOk.guarded 1 37 true (g := (EV (.mk (hdL k n s) []))) rfl rfl rfl rfl (fun a w hs hR hr pre => ⟨pre 1 (by decide), ?_⟩)) ?_
    · have e38 : a.eval (.tmp 38) = VV k n s := pre 2 (by decide)
      exact wp_fn (vs := #[VV k n s]) rfl Tryz.func18 (by kernel_rfl) (by kernel_rfl) (by simp only [List.map_toArray, List.map_cons, List.map_nil, e38]) ((ev_lit).mono fun _ _ ⟨u, h1, h2, h3⟩ => ⟨u, h1, h2, by rw [h3]; exact EV.leaf _ _⟩)
    refine Each.cons rfl (Keeps.const _) (StepOk.guarded 1 37 true (g := (fun v _ => v = VV k n s)) rfl rfl rfl rfl (fun a w hs hR hr pre => ⟨pre 1 (by decide), ?_⟩)) ?_
    · have ep : a.eval (.tmp 9) = .pointer (some ⟨u9, 0, none⟩) := hr 9 (by decide)
      exact wp_pure (run_ldV rfl ep ((hR.block u9 HU9.out).trans HX9.out)) rfl
    refine Each.cons rfl (EV.keeps _) (StepOk.guarded 1 37 true (g := (EV (.mk (hdL k n s) []))) rfl rfl rfl rfl (fun a w hs hR hr pre => ⟨pre 1 (by decide), ?_⟩)) ?_
    · have e40 : a.eval (.tmp 40) = VV k n s := pre 4 (by decide)
      exact wp_fn (vs := #[VV k n s]) rfl Tryz.func19 (by kernel_rfl) (by kernel_rfl) (by simp only [List.map_toArray, List.map_cons, List.map_nil, e40]) ((refLit_any _ _ _ _).mono fun _ _ ⟨h1, h2⟩ => ⟨_, h1, h2, EV.leaf _ _⟩)
    refine Each.cons rfl (Keeps.const _) (StepOk.guarded 1 37 true (g := (fun v _ => v = .bool true)) rfl rfl rfl rfl (fun a w hs hR hr pre => ⟨pre 1 (by decide), ?_⟩)) ?_
    · have h39 : EV (.mk (hdL k n s) []) (a.eval (.tmp 39)) w := pre 3 (by decide)
      have h41 : EV (.mk (hdL k n s) []) (a.eval (.tmp 41)) w := pre 5 (by decide)
      exact wp_fn (vs := #[a.eval (.tmp 39), a.eval (.tmp 41)]) rfl Tryz.func17 (by kernel_rfl) (by kernel_rfl) (by simp only [List.map_toArray, List.map_cons, List.map_nil]) (rv_same h39 h41 (by rw [cnt_mk]; simp only [cntL]; omega) (by rw [cnt_mk]; simp only [cntL]; omega) (same_self _))
    refine Each.cons rfl (Keeps.const _) (StepOk.plain (g := (fun v _ => v = .bool true)) rfl rfl rfl (fun a w hs hR hr pre => ?_)) ?_
    · have e37 : a.eval (.tmp 37) = .bool true := pre 1 (by decide)
      have e42 : a.eval (.tmp 42) = .bool true := pre 6 (by decide)
      exact wp_pure (run_pick rfl true e37) (by simpa using e42)
    refine Each.cons rfl (Keeps.const _) (StepOk.plain (g := (fun v _ => v = .bool true)) rfl rfl rfl (fun a w hs hR hr pre => ?_)) ?_
    · have e43 : a.eval (.tmp 43) = .bool true := pre 7 (by decide)
      exact wp_pure (run_move rfl) e43
    refine Each.cons rfl (Keeps.const _) (StepOk.guarded 8 44 true (g := (fun v _ => v = .string tab)) rfl rfl rfl rfl (fun a w hs hR hr pre => ⟨pre 8 (by decide), ?_⟩)) ?_
    · have ep : a.eval (.tmp 4) = .string tab := hr 4 (by decide)
      exact wp_pure (run_move rfl) ep
    refine Each.cons rfl (Keeps.const _) (StepOk.guarded 8 44 true (g := (fun v _ => v = .string col)) rfl rfl rfl rfl (fun a w hs hR hr pre => ⟨pre 8 (by decide), ?_⟩)) ?_
    · have ep : a.eval (.tmp 5) = .string col := hr 5 (by decide)
      exact wp_pure (run_move rfl) ep
    refine Each.cons rfl (EV.keeps _) (StepOk.guarded 8 44 true (g := (EV (.mk (hdC tab col) []))) rfl rfl rfl rfl (fun a w hs hR hr pre => ⟨pre 8 (by decide), ?_⟩)) ?_
    · have e45 : a.eval (.tmp 45) = .string tab := pre 9 (by decide)
      have e46 : a.eval (.tmp 46) = .string col := pre 10 (by decide)
      exact wp_fn (vs := #[.string tab, .string col]) rfl Tryz.func20 (by kernel_rfl) (by kernel_rfl) (by simp only [List.map_toArray, List.map_cons, List.map_nil, e45, e46]) ((ev_column).mono fun _ _ ⟨u, h1, h2, h3⟩ => ⟨u, h1, h2, by rw [h3]; exact EV.leaf _ _⟩)
    refine Each.cons rfl (Keeps.const _) (StepOk.guarded 8 44 true (g := (fun v _ => v = .string tab)) rfl rfl rfl rfl (fun a w hs hR hr pre => ⟨pre 8 (by decide), ?_⟩)) ?_
    · have ep : a.eval (.tmp 4) = .string tab := hr 4 (by decide)
      exact wp_pure (run_move rfl) ep
    refine Each.cons rfl (Keeps.const _) (StepOk.guarded 8 44 true (g := (fun v _ => v = .string col)) rfl rfl rfl rfl (fun a w hs hR hr pre => ⟨pre 8 (by decide), ?_⟩)) ?_
    · have ep : a.eval (.tmp 5) = .string col := hr 5 (by decide)
      exact wp_pure (run_move rfl) ep
    refine Each.cons rfl (EV.keeps _) (StepOk.guarded 8 44 true (g := (EV (.mk (hdC tab col) []))) rfl rfl rfl rfl (fun a w hs hR hr pre => ⟨pre 8 (by decide), ?_⟩)) ?_
    · have e48 : a.eval (.tmp 48) = .string tab := pre 12 (by decide)
      have e49 : a.eval (.tmp 49) = .string col := pre 13 (by decide)
      exact wp_fn (vs := #[.string tab, .string col]) rfl Tryz.func21 (by kernel_rfl) (by kernel_rfl) (by simp only [List.map_toArray, List.map_cons, List.map_nil, e48, e49]) ((refColumn_any _ _ _).mono fun _ _ ⟨h1, h2⟩ => ⟨_, h1, h2, EV.leaf _ _⟩)
    refine Each.cons rfl (Keeps.const _) (StepOk.guarded 8 44 true (g := (fun v _ => v = .bool true)) rfl rfl rfl rfl (fun a w hs hR hr pre => ⟨pre 8 (by decide), ?_⟩)) ?_
    · have h47 : EV (.mk (hdC tab col) []) (a.eval (.tmp 47)) w := pre 11 (by decide)
      have h50 : EV (.mk (hdC tab col) []) (a.eval (.tmp 50)) w := pre 14 (by decide)
      exact wp_fn (vs := #[a.eval (.tmp 47), a.eval (.tmp 50)]) rfl Tryz.func17 (by kernel_rfl) (by kernel_rfl) (by simp only [List.map_toArray, List.map_cons, List.map_nil]) (rv_same h47 h50 (by rw [cnt_mk]; simp only [cntL]; omega) (by rw [cnt_mk]; simp only [cntL]; omega) (same_self _))
    refine Each.cons rfl (Keeps.const _) (StepOk.plain (g := (fun v _ => v = .bool true)) rfl rfl rfl (fun a w hs hR hr pre => ?_)) ?_
    · have e44 : a.eval (.tmp 44) = .bool true := pre 8 (by decide)
      have e51 : a.eval (.tmp 51) = .bool true := pre 15 (by decide)
      exact wp_pure (run_pick rfl true e44) (by simpa using e51)
    refine Each.cons rfl (Keeps.const _) (StepOk.plain (g := (fun v _ => v = .bool true)) rfl rfl rfl (fun a w hs hR hr pre => ?_)) ?_
    · have e52 : a.eval (.tmp 52) = .bool true := pre 16 (by decide)
      exact wp_pure (run_move rfl) e52
    refine Each.cons rfl (Keeps.const _) (StepOk.guarded 17 53 true (g := (fun v _ => v = .int .i64 m)) rfl rfl rfl rfl (fun a w hs hR hr pre => ⟨pre 17 (by decide), ?_⟩)) ?_
    · have ep : a.eval (.tmp 2) = .int .i64 m := hr 2 (by decide)
      exact wp_pure (run_move rfl) ep
    refine Each.cons rfl (EV.keeps _) (StepOk.guarded 17 53 true (g := (EV a')) rfl rfl rfl rfl (fun a w hs hR hr pre => ⟨pre 17 (by decide), ?_⟩)) ?_
    · have ep : a.eval (.tmp 6) = .pointer (some ⟨u6, 0, none⟩) := hr 6 (by decide)
      exact wp_pure (run_ldE rfl ep (XC.ofBox ((hR.block u6 HU6.out).trans HX6.out))) (EV.next (bt (Below.drew (Below.refl _ _)) hR) HE6.out)
    refine Each.cons rfl (EV.keeps _) (StepOk.guarded 17 53 true (g := (EV b')) rfl rfl rfl rfl (fun a w hs hR hr pre => ⟨pre 17 (by decide), ?_⟩)) ?_
    · have ep : a.eval (.tmp 7) = .pointer (some ⟨u7, 0, none⟩) := hr 7 (by decide)
      exact wp_pure (run_ldE rfl ep (XC.ofBox ((hR.block u7 HU7.out).trans HX7.out))) (EV.next (bt (Below.drew (Below.refl _ _)) hR) HE7.out)
    refine Each.cons rfl (LV.keeps _) (StepOk.guarded 17 53 true (g := (LV [a', b'])) rfl rfl rfl rfl (fun a w hs hR hr pre => ⟨pre 17 (by decide), ?_⟩)) ?_
    · have h55 : EV a' (a.eval (.tmp 55)) w := pre 19 (by decide)
      have h56 : EV b' (a.eval (.tmp 56)) w := pre 20 (by decide)
      exact wp_bs2 rfl h55 h56
    refine Each.cons rfl (EV.keeps _) (StepOk.guarded 17 53 true (g := (EV (.mk (hdO m) [a', b']))) rfl rfl rfl rfl (fun a w hs hR hr pre => ⟨pre 17 (by decide), ?_⟩)) ?_
    · have e54 : a.eval (.tmp 54) = .int .i64 m := pre 18 (by decide)
      have h57 : LV [a', b'] (a.eval (.tmp 57)) w := pre 21 (by decide)
      exact wp_fn (vs := #[.int .i64 m, a.eval (.tmp 57)]) rfl Tryz.func22 (by kernel_rfl) (by kernel_rfl) (by simp only [List.map_toArray, List.map_cons, List.map_nil, e54]) (ev_op h57 (by simp only [cntL]; omega))
    refine Each.cons rfl (Keeps.const _) (StepOk.guarded 17 53 true (g := (fun v _ => v = .int .i64 m)) rfl rfl rfl rfl (fun a w hs hR hr pre => ⟨pre 17 (by decide), ?_⟩)) ?_
    · have ep : a.eval (.tmp 2) = .int .i64 m := hr 2 (by decide)
      exact wp_pure (run_move rfl) ep
    refine Each.cons rfl (EV.keeps _) (StepOk.guarded 17 53 true (g := (EV a')) rfl rfl rfl rfl (fun a w hs hR hr pre => ⟨pre 17 (by decide), ?_⟩)) ?_
    · have ep : a.eval (.tmp 6) = .pointer (some ⟨u6, 0, none⟩) := hr 6 (by decide)
      exact wp_pure (run_ldE rfl ep (XC.ofBox ((hR.block u6 HU6.out).trans HX6.out))) (EV.next (bt (Below.drew (Below.refl _ _)) hR) HE6.out)
    refine Each.cons rfl (EV.keeps _) (StepOk.guarded 17 53 true (g := (EV b')) rfl rfl rfl rfl (fun a w hs hR hr pre => ⟨pre 17 (by decide), ?_⟩)) ?_
    · have ep : a.eval (.tmp 7) = .pointer (some ⟨u7, 0, none⟩) := hr 7 (by decide)
      exact wp_pure (run_ldE rfl ep (XC.ofBox ((hR.block u7 HU7.out).trans HX7.out))) (EV.next (bt (Below.drew (Below.refl _ _)) hR) HE7.out)
    refine Each.cons rfl (LV.keeps _) (StepOk.guarded 17 53 true (g := (LV [a', b'])) rfl rfl rfl rfl (fun a w hs hR hr pre => ⟨pre 17 (by decide), ?_⟩)) ?_
    · have h60 : EV a' (a.eval (.tmp 60)) w := pre 24 (by decide)
      have h61 : EV b' (a.eval (.tmp 61)) w := pre 25 (by decide)
      exact wp_bs2 rfl h60 h61
    refine Each.cons rfl (EV.keeps _) (StepOk.guarded 17 53 true (g := (EV (.mk (hdO m) [a', b']))) rfl rfl rfl rfl (fun a w hs hR hr pre => ⟨pre 17 (by decide), ?_⟩)) ?_
    · have e59 : a.eval (.tmp 59) = .int .i64 m := pre 23 (by decide)
      have h62 : LV [a', b'] (a.eval (.tmp 62)) w := pre 26 (by decide)
      exact wp_fn (vs := #[.int .i64 m, a.eval (.tmp 62)]) rfl Tryz.func23 (by kernel_rfl) (by kernel_rfl) (by simp only [List.map_toArray, List.map_cons, List.map_nil, e59]) (rv_op h62)
    refine Each.cons rfl (Keeps.const _) (StepOk.guarded 17 53 true (g := (fun v _ => v = .bool true)) rfl rfl rfl rfl (fun a w hs hR hr pre => ⟨pre 17 (by decide), ?_⟩)) ?_
    · have h58 : EV (.mk (hdO m) [a', b']) (a.eval (.tmp 58)) w := pre 22 (by decide)
      have h63 : EV (.mk (hdO m) [a', b']) (a.eval (.tmp 63)) w := pre 27 (by decide)
      exact wp_fn (vs := #[a.eval (.tmp 58), a.eval (.tmp 63)]) rfl Tryz.func17 (by kernel_rfl) (by kernel_rfl) (by simp only [List.map_toArray, List.map_cons, List.map_nil]) (rv_same h58 h63 (by rw [cnt_mk]; simp only [cntL]; omega) (by rw [cnt_mk]; simp only [cntL]; omega) (same_self _))
    refine Each.cons rfl (Keeps.const _) (StepOk.plain (g := (fun v _ => v = .bool true)) rfl rfl rfl (fun a w hs hR hr pre => ?_)) ?_
    · have e53 : a.eval (.tmp 53) = .bool true := pre 17 (by decide)
      have e64 : a.eval (.tmp 64) = .bool true := pre 28 (by decide)
      exact wp_pure (run_pick rfl true e53) (by simpa using e64)
    refine Each.cons rfl (Keeps.const _) (StepOk.plain (g := (fun v _ => v = .bool true)) rfl rfl rfl (fun a w hs hR hr pre => ?_)) ?_
    · have e65 : a.eval (.tmp 65) = .bool true := pre 29 (by decide)
      exact wp_pure (run_move rfl) e65
    refine Each.cons rfl (Keeps.const _) (StepOk.guarded 30 66 true (g := (fun v _ => v = .int .i64 m)) rfl rfl rfl rfl (fun a w hs hR hr pre => ⟨pre 30 (by decide), ?_⟩)) ?_
    · have ep : a.eval (.tmp 2) = .int .i64 m := hr 2 (by decide)
      exact wp_pure (run_move rfl) ep
    refine Each.cons rfl (EV.keeps _) (StepOk.guarded 30 66 true (g := (EV a')) rfl rfl rfl rfl (fun a w hs hR hr pre => ⟨pre 30 (by decide), ?_⟩)) ?_
    · have ep : a.eval (.tmp 6) = .pointer (some ⟨u6, 0, none⟩) := hr 6 (by decide)
      exact wp_pure (run_ldE rfl ep (XC.ofBox ((hR.block u6 HU6.out).trans HX6.out))) (EV.next (bt (Below.drew (Below.refl _ _)) hR) HE6.out)
    refine Each.cons rfl (LV.keeps _) (StepOk.guarded 30 66 true (g := (LV [a'])) rfl rfl rfl rfl (fun a w hs hR hr pre => ⟨pre 30 (by decide), ?_⟩)) ?_
    · have h68 : EV a' (a.eval (.tmp 68)) w := pre 32 (by decide)
      exact wp_bs1 rfl h68
    refine Each.cons rfl (EV.keeps _) (StepOk.guarded 30 66 true (g := (EV (.mk (hdA m) [a']))) rfl rfl rfl rfl (fun a w hs hR hr pre => ⟨pre 30 (by decide), ?_⟩)) ?_
    · have e67 : a.eval (.tmp 67) = .int .i64 m := pre 31 (by decide)
      have h69 : LV [a'] (a.eval (.tmp 69)) w := pre 33 (by decide)
      exact wp_fn (vs := #[.int .i64 m, a.eval (.tmp 69)]) rfl Tryz.func24 (by kernel_rfl) (by kernel_rfl) (by simp only [List.map_toArray, List.map_cons, List.map_nil, e67]) (ev_agg h69 (by simp only [cntL]; omega))
    refine Each.cons rfl (Keeps.const _) (StepOk.guarded 30 66 true (g := (fun v _ => v = .int .i64 m)) rfl rfl rfl rfl (fun a w hs hR hr pre => ⟨pre 30 (by decide), ?_⟩)) ?_
    · have ep : a.eval (.tmp 2) = .int .i64 m := hr 2 (by decide)
      exact wp_pure (run_move rfl) ep
    refine Each.cons rfl (EV.keeps _) (StepOk.guarded 30 66 true (g := (EV a')) rfl rfl rfl rfl (fun a w hs hR hr pre => ⟨pre 30 (by decide), ?_⟩)) ?_
    · have ep : a.eval (.tmp 6) = .pointer (some ⟨u6, 0, none⟩) := hr 6 (by decide)
      exact wp_pure (run_ldE rfl ep (XC.ofBox ((hR.block u6 HU6.out).trans HX6.out))) (EV.next (bt (Below.drew (Below.refl _ _)) hR) HE6.out)
    refine Each.cons rfl (LV.keeps _) (StepOk.guarded 30 66 true (g := (LV [a'])) rfl rfl rfl rfl (fun a w hs hR hr pre => ⟨pre 30 (by decide), ?_⟩)) ?_
    · have h72 : EV a' (a.eval (.tmp 72)) w := pre 36 (by decide)
      exact wp_bs1 rfl h72
    refine Each.cons rfl (EV.keeps _) (StepOk.guarded 30 66 true (g := (EV (.mk (hdA m) [a']))) rfl rfl rfl rfl (fun a w hs hR hr pre => ⟨pre 30 (by decide), ?_⟩)) ?_
    · have e71 : a.eval (.tmp 71) = .int .i64 m := pre 35 (by decide)
      obtain ⟨A, c, e73, hl, hx⟩ : LV [a'] (a.eval (.tmp 73)) w := pre 37 (by decide)
      exact wp_pure (run_mkA rfl e71 e73) ⟨A, c, rfl, hl, hx⟩
    refine Each.cons rfl (Keeps.const _) (StepOk.guarded 30 66 true (g := (fun v _ => v = .bool true)) rfl rfl rfl rfl (fun a w hs hR hr pre => ⟨pre 30 (by decide), ?_⟩)) ?_
    · have h70 : EV (.mk (hdA m) [a']) (a.eval (.tmp 70)) w := pre 34 (by decide)
      have h74 : EV (.mk (hdA m) [a']) (a.eval (.tmp 74)) w := pre 38 (by decide)
      exact wp_fn (vs := #[a.eval (.tmp 70), a.eval (.tmp 74)]) rfl Tryz.func17 (by kernel_rfl) (by kernel_rfl) (by simp only [List.map_toArray, List.map_cons, List.map_nil]) (rv_same h70 h74 (by rw [cnt_mk]; simp only [cntL]; omega) (by rw [cnt_mk]; simp only [cntL]; omega) (same_self _))
    refine Each.cons rfl (Keeps.const _) (StepOk.plain (g := (fun v _ => v = .bool true)) rfl rfl rfl (fun a w hs hR hr pre => ?_)) ?_
    · have e66 : a.eval (.tmp 66) = .bool true := pre 30 (by decide)
      have e75 : a.eval (.tmp 75) = .bool true := pre 39 (by decide)
      exact wp_pure (run_pick rfl true e66) (by simpa using e75)
    refine Each.cons rfl (Keeps.const _) (StepOk.plain (g := (fun v _ => v = .bool true)) rfl rfl rfl (fun a w hs hR hr pre => ?_)) ?_
    · have e76 : a.eval (.tmp 76) = .bool true := pre 40 (by decide)
      exact wp_pure (run_move rfl) e76
    refine Each.cons rfl (EV.keeps _) (StepOk.guarded 41 77 true (g := (EV a')) rfl rfl rfl rfl (fun a w hs hR hr pre => ⟨pre 41 (by decide), ?_⟩)) ?_
    · have ep : a.eval (.tmp 6) = .pointer (some ⟨u6, 0, none⟩) := hr 6 (by decide)
      exact wp_pure (run_ldE rfl ep (XC.ofBox ((hR.block u6 HU6.out).trans HX6.out))) (EV.next (bt (Below.drew (Below.refl _ _)) hR) HE6.out)
    refine Each.cons rfl (EV.keeps _) (StepOk.guarded 41 77 true (g := (EV b')) rfl rfl rfl rfl (fun a w hs hR hr pre => ⟨pre 41 (by decide), ?_⟩)) ?_
    · have ep : a.eval (.tmp 7) = .pointer (some ⟨u7, 0, none⟩) := hr 7 (by decide)
      exact wp_pure (run_ldE rfl ep (XC.ofBox ((hR.block u7 HU7.out).trans HX7.out))) (EV.next (bt (Below.drew (Below.refl _ _)) hR) HE7.out)
    refine Each.cons rfl (Keeps.const _) (StepOk.guarded 41 77 true (g := (fun v _ => v = .bool (sameX a' b'))) rfl rfl rfl rfl (fun a w hs hR hr pre => ⟨pre 41 (by decide), ?_⟩)) ?_
    · have h78 : EV a' (a.eval (.tmp 78)) w := pre 42 (by decide)
      have h79 : EV b' (a.eval (.tmp 79)) w := pre 43 (by decide)
      exact wp_fn (vs := #[a.eval (.tmp 78), a.eval (.tmp 79)]) rfl Tryz.func25 (by kernel_rfl) (by kernel_rfl) (by simp only [List.map_toArray, List.map_cons, List.map_nil]) (ev_same h78 h79 (by omega) (by omega) rfl)
    refine Each.cons rfl (EV.keeps _) (StepOk.guarded 41 77 true (g := (EV a')) rfl rfl rfl rfl (fun a w hs hR hr pre => ⟨pre 41 (by decide), ?_⟩)) ?_
    · have ep : a.eval (.tmp 6) = .pointer (some ⟨u6, 0, none⟩) := hr 6 (by decide)
      exact wp_pure (run_ldE rfl ep (XC.ofBox ((hR.block u6 HU6.out).trans HX6.out))) (EV.next (bt (Below.drew (Below.refl _ _)) hR) HE6.out)
    refine Each.cons rfl (EV.keeps _) (StepOk.guarded 41 77 true (g := (EV b')) rfl rfl rfl rfl (fun a w hs hR hr pre => ⟨pre 41 (by decide), ?_⟩)) ?_
    · have ep : a.eval (.tmp 7) = .pointer (some ⟨u7, 0, none⟩) := hr 7 (by decide)
      exact wp_pure (run_ldE rfl ep (XC.ofBox ((hR.block u7 HU7.out).trans HX7.out))) (EV.next (bt (Below.drew (Below.refl _ _)) hR) HE7.out)
    refine Each.cons rfl (Keeps.const _) (StepOk.guarded 41 77 true (g := (fun v _ => v = .bool (sameX a' b'))) rfl rfl rfl rfl (fun a w hs hR hr pre => ⟨pre 41 (by decide), ?_⟩)) ?_
    · have h81 : EV a' (a.eval (.tmp 81)) w := pre 45 (by decide)
      have h82 : EV b' (a.eval (.tmp 82)) w := pre 46 (by decide)
      exact wp_fn (vs := #[a.eval (.tmp 81), a.eval (.tmp 82)]) rfl Tryz.func17 (by kernel_rfl) (by kernel_rfl) (by simp only [List.map_toArray, List.map_cons, List.map_nil]) (rv_same h81 h82 (by omega) (by omega) rfl)
    refine Each.cons rfl (Keeps.const _) (StepOk.guarded 41 77 true (g := (fun v _ => v = .bool true)) rfl rfl rfl rfl (fun a w hs hR hr pre => ⟨pre 41 (by decide), ?_⟩)) ?_
    · have e80 : a.eval (.tmp 80) = .bool (sameX a' b') := pre 44 (by decide)
      have e83 : a.eval (.tmp 83) = .bool (sameX a' b') := pre 47 (by decide)
      exact wp_pure (run_eqB rfl Tryz.underlying4 e80 e83) (by simp)
    refine Each.cons rfl (Keeps.const _) (StepOk.plain (g := (fun v _ => v = .bool true)) rfl rfl rfl (fun a w hs hR hr pre => ?_)) ?_
    · have e77 : a.eval (.tmp 77) = .bool true := pre 41 (by decide)
      have e84 : a.eval (.tmp 84) = .bool true := pre 48 (by decide)
      exact wp_pure (run_pick rfl true e77) (by simpa using e84)
    refine Each.cons rfl (Keeps.const _) (StepOk.plain (g := (fun v _ => v = .bool true)) rfl rfl rfl (fun a w hs hR hr pre => ?_)) ?_
    · have e85 : a.eval (.tmp 85) = .bool true := pre 49 (by decide)
      exact wp_pure (run_move rfl) e85
    refine Each.cons rfl (Keeps.const _) (StepOk.guarded 50 86 true (g := (fun v _ => v = .int .i64 m)) rfl rfl rfl rfl (fun a w hs hR hr pre => ⟨pre 50 (by decide), ?_⟩)) ?_
    · have ep : a.eval (.tmp 2) = .int .i64 m := hr 2 (by decide)
      exact wp_pure (run_move rfl) ep
    refine Each.cons rfl (Keeps.const _) (StepOk.guarded 50 86 true (g := (fun v _ => v = .int .i64 (arI m))) rfl rfl rfl rfl (fun a w hs hR hr pre => ⟨pre 50 (by decide), ?_⟩)) ?_
    · have e87 : a.eval (.tmp 87) = .int .i64 m := pre 51 (by decide)
      exact wp_fn (vs := #[.int .i64 m]) rfl Tryz.func26 (by kernel_rfl) (by kernel_rfl) (by simp only [List.map_toArray, List.map_cons, List.map_nil, e87]) (ev_arity rfl)
    refine Each.cons rfl (Keeps.const _) (StepOk.guarded 50 86 true (g := (fun v _ => v = .int .i64 m)) rfl rfl rfl rfl (fun a w hs hR hr pre => ⟨pre 50 (by decide), ?_⟩)) ?_
    · have ep : a.eval (.tmp 2) = .int .i64 m := hr 2 (by decide)
      exact wp_pure (run_move rfl) ep
    refine Each.cons rfl (Keeps.const _) (StepOk.guarded 50 86 true (g := (fun v _ => v = .int .i64 (arI m))) rfl rfl rfl rfl (fun a w hs hR hr pre => ⟨pre 50 (by decide), ?_⟩)) ?_
    · have e89 : a.eval (.tmp 89) = .int .i64 m := pre 53 (by decide)
      exact wp_fn (vs := #[.int .i64 m]) rfl Tryz.func27 (by kernel_rfl) (by kernel_rfl) (by simp only [List.map_toArray, List.map_cons, List.map_nil, e89]) ((refArity_any m w).mono fun _ w' ⟨h1, h2⟩ => ⟨_, h1, by rw [h2]; exact Below.refl _ _, rfl⟩)
    refine Each.cons rfl (Keeps.const _) (StepOk.guarded 50 86 true (g := (fun v _ => v = .bool true)) rfl rfl rfl rfl (fun a w hs hR hr pre => ⟨pre 50 (by decide), ?_⟩)) ?_
    · have e88 : a.eval (.tmp 88) = .int .i64 (arI m) := pre 52 (by decide)
      have e90 : a.eval (.tmp 90) = .int .i64 (arI m) := pre 54 (by decide)
      exact wp_pure (run_eqI rfl e88 e90) (by simp)
    refine Each.cons rfl (Keeps.const _) (StepOk.plain (g := (fun v _ => v = .bool true)) rfl rfl rfl (fun a w hs hR hr pre => ?_)) ?_
    · have e86 : a.eval (.tmp 86) = .bool true := pre 50 (by decide)
      have e91 : a.eval (.tmp 91) = .bool true := pre 55 (by decide)
      exact wp_pure (run_pick rfl true e86) (by simpa using e91)
    refine Each.cons rfl (Keeps.const _) (StepOk.plain (g := (fun v _ => v = .bool true)) rfl rfl rfl (fun a w hs hR hr pre => ?_)) ?_
    · have e92 : a.eval (.tmp 92) = .bool true := pre 56 (by decide)
      exact wp_pure (run_assign rfl) e92
    exact Each.nil
  · intro v w1 hB hG
    have e57 : v 57 = .bool true := hG 57 (by decide)
    clear hG
    simp only [List.take_succ_cons, List.take_zero, puts, Act.put, List.setIfInBounds_toArray, List.set_cons_zero, List.set_cons_succ, Nat.reduceAdd, e57]
    refine wpAny_done (by kernel_rfl) ?_ _
    have HB9 := Lib.hid (bt HB3.out (bt (Below.drew (Below.refl _ _)) hB))
    clear hB
    go_wp2_with fail
    go_ret
    exact ⟨rfl, HB9.out⟩
end Go.Proofs.YteckhaicodmakaaGreatDoor
