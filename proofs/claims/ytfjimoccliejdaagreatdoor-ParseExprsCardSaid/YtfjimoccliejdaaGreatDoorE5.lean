/-
  pick, Columns, Aggs.
-/
import Derived.Test.YtfjimoccliejdaaGreatDoorE4
section
namespace Go.Proofs.YtfjimoccliejdaaGreatDoor
open Go.RowKit Go.Shelf
attribute [local go_sem] Oper.semAt_some

theorem wp_append_run {P : Program} {o : Oper} {a : Act} {K : Act → World → Prop} {Q : Exit → Act → World → Prop} {W w' : World} (s x : Operand) (t : TypeId) (ho : o.op = .call { callee := .builtin .append, args := #[s, x], argTypes := #[t, t] }) {v y v' : Value} (hs : a.eval s = v) (hx : a.eval x = y)
  (hr : (Builtin.append_ #[t, t] o.type #[v, y]).run P W = .ok v' w') (hK : K (a.put o.dst v') w') : Oper.wp P o a W K Q := by
 unfold Oper.wp execOp
 simp only [ho, resolve, invoke, builtin, Sem.run_bind, Sem.run_pure, Result.andThen_ok, List.map_toArray, List.map_cons, List.map_nil, hs, hx, hr]
 exact hK
theorem wp_put8 {op : Oper} {a : Act} {w : World} {K : Act → World → Prop} {Q : Exit → Act → World → Prop} (x y : Operand) (ho : op.op = .store 37 x y) (g o : Nat) (q : XQ)
  (hx : a.eval x = .pointer (some ⟨g, o, none⟩)) (hy : a.eval y = XV q.1 q.2.1 q.2.2.1 q.2.2.2) (hc : ∀ i, i < 8 → ∃ u, w.cell? ⟨g, o + i, none⟩ = some u) (hf : ∀ o, w.frozen? ⟨g, o, none⟩ = false)
  (h : K (a.put op.dst undef) (put8 w g o q)) : op.wp Tryz.prog a w K Q := by
 refine wp_store_mid (P := Tryz.prog) 37 x y ho g o #[.int .i64 q.1.k, .int .i64 q.1.n, .int .i64 q.1.vk, .int .i64 q.1.vn, .string q.1.vs, .string q.1.tab, .string q.1.col, .slice q.2.1 q.2.2.1 q.2.2.2] hx hy ?_ (by kernel_rfl) (by simp [Value.oneCell']) ?_
 ·intro j hj
  obtain ⟨u, hu⟩ := hc j hj
  exact ⟨by rw [hu]; rfl, hf _⟩
 ·exact h
theorem wp_putsl {op : Oper} {a : Act} {w : World} {K : Act → World → Prop} {Q : Exit → Act → World → Prop} (x y : Operand) (ho : op.op = .store 35 x y) (u : Nat) (p : Option Addr) (l c : Nat)
  (hx : a.eval x = .pointer (some ⟨u, 0, none⟩)) (hy : a.eval y = .slice p l c) {v0 : Value} (hc : w.cell? ⟨u, 0, none⟩ = some v0) (hf : w.frozen? ⟨u, 0, none⟩ = false)
  (h : K (a.put op.dst undef) (w.setCell ⟨u, 0, none⟩ (.slice p l c))) : op.wp Tryz.prog a w K Q := by
 have hi : (Tryz.prog.info? 35).map (·.size) = some 1 := by kernel_rfl
 unfold Oper.wp execOp
 cases hq : Tryz.prog.info? 35 with
 | none => simp [hq] at hi
 | some i =>
  have hs : i.size = 1 := by simp [hq] at hi; omega
  simp only [ho, hx, hy, Instr.storeAt, Instr.sureAddr, Sem.run_bind, Sem.run_pure, Result.andThen_ok]
  have hadd : (⟨u, 0, none⟩ : Addr).add 0 = ⟨u, 0, none⟩ := by unfold Addr.add; rfl
  simp [storeVar, sizeOf, typeInfo, hq, Value.cells, hs, storeCells, hadd, run_store_slice, stored, hc, hf]
  exact h
theorem setc_os (W : World) (a : Addr) (v : Value) : (W.setCell a v).os = W.os := rfl
theorem setc_tape (W : World) (a : Addr) (v : Value) : (W.setCell a v).tape = W.tape := rfl
theorem setc_output (W : World) (a : Addr) (v : Value) : (W.setCell a v).output = W.output := rfl
theorem put8_os (W : World) (g o : Nat) (x : XQ) : (put8 W g o x).os = W.os := by simp only [put8, setc_os]
theorem put8_tape (W : World) (g o : Nat) (x : XQ) : (put8 W g o x).tape = W.tape := by simp only [put8, setc_tape]
theorem put8_output (W : World) (g o : Nat) (x : XQ) : (put8 W g o x).output = W.output := by simp only [put8, setc_output]
theorem row_cells {b g n cap : Nat} {xs : List Value} {W : World} (h : W.ownsRow b 37 8 (.slice (some ⟨g, 0, none⟩) (n + 1) cap) (n + 1) (xs ++ zcell)) (hx : xs.length = n * 8) :
  (∀ i, i < 8 → ∃ u, W.cell? ⟨g, n * 8 + i, none⟩ = some u) ∧ (∀ o, W.frozen? ⟨g, o, none⟩ = false) ∧ g < W.heap.size := by
 rcases h.2 with ⟨hbad, _⟩ | ⟨g', cap', cur, hv, hb, hg, hc, hm, hs, ht⟩
 ·cases hbad
 have e2 : g = g' := by have := congrArg Value.ownBlock hv; simpa [Value.ownBlock] using this
 subst e2
 refine ⟨fun i hi => ?_, fun o => by simp only [World.frozen?, hg]; rfl, (Array.getElem?_eq_some_iff.1 hg).1⟩
 have := h.cells (g := g) rfl (n * 8 + i)
 rw [List.getElem?_append_right (by omega), hx, Nat.add_sub_cancel_left] at this
 obtain ⟨u, hu⟩ : ∃ u, zcell[i]? = some u := ⟨_, List.getElem?_eq_getElem (by simpa using hi)⟩
 have := this u hu
 rw [show (⟨g, 0, none⟩ : Addr).add (n * 8 + i) = ⟨g, n * 8 + i, none⟩ by simp only [Addr.add]; split <;> simp_all] at this
 exact ⟨u, this⟩
theorem boxed_cells {W : World} {u : Nat} {t : TypeId} {v : Value} (h : Boxed W u t v) : W.cell? ⟨u, 0, none⟩ = some v ∧ W.frozen? ⟨u, 0, none⟩ = false := ⟨h.cell, h.frozen⟩
theorem op8_next {b : Nat} {v : Value} {W W' : World} {l : List Ex} {A : Option Addr} (h : XsB (Op8 b W v) W l A) (hb : Below W.heap.size W W') : XsB (Op8 b W' v) W' l A :=
 XsB.go (fun k hk => hb.block k hk.2.1) (fun k hk => ⟨hk.1, Nat.lt_of_lt_of_le hk.2.1 hb.size, hk.2.2.1, hk.2.2.2.of (hb.block k hk.2.1)⟩) _ _ h
theorem copy_op8 {b u : Nat} {W Wc W' : World} {v : Value} {q : List XQ} {L l : List Ex} {A : Option Addr} (h : PK b u W v q L) (hc : Below W.heap.size W Wc) (hx : XsB (Bn Wc.heap.size W') W' l A) : XsB (Op8 b W' v) W' l A :=
 XsB.go (fun _ _ => rfl) (fun k hk => ⟨by have := h.le; have := hc.size; have := hk.1.1; omega, hk.1.2, fun e => by have := h.blk k e; have := hc.size; have := hk.1.1; omega, hk.2⟩) _ _ (XsB.isC hx)
theorem zero_news {W : World} {z : Nat} (h : W.heap[z]? = some (.cells zcell.toArray 37 (0, 0))) : ∀ j u, zcell[j]? = some u → W.cell? ((⟨z, 0, none⟩ : Addr).add j) = some u := by
 intro j u hj
 rw [show (⟨z, 0, none⟩ : Addr).add j = ⟨z, j, none⟩ by simp only [Addr.add]; split <;> simp_all]
 simp only [World.cell?, h, List.getElem?_toArray]
 exact hj
theorem put8_comm {w : World} {g u n : Nat} {x : XQ} {v : Value} (hug : u ≠ g) {cs : Array Value} {T : TypeId} (hg : w.heap[g]? = some (.cells cs T (0, 0))) (k : Nat) (hk : k ≠ u) : (put8 (w.setCell ⟨u, 0, none⟩ v) g n x).heap[k]? = (put8 w g n x).heap[k]? := by
 by_cases hkg : k = g
 ·subst hkg
  have e0 : (w.setCell ⟨u, 0, none⟩ v).heap[k]? = some (.cells cs T (0, 0)) := (setc_other (W := w) (U := u) (j := 0) hk v).trans hg
  have e1 := put8_box (W := w.setCell ⟨u, 0, none⟩ v) (g := k) (o := n) e0 x
  have e2 := put8_box (W := w) (g := k) (o := n) hg x
  rw [e1, e2]
 ·rw [put8_other hkg, put8_other hkg, setc_other hk]
theorem round_keep {u g' : Nat} {W Wc w1 F : World} {v : Value} (hb : Below W.heap.size W Wc) (hg : Wc.grownBy w1 (some g')) (hold : g' < Wc.heap.size → v.ownBlock = some g' ∧ ∃ o, Wc.heap[g']? = some o ∧ Big o) {n : Nat} {x : XQ}
  (hF : ∀ k, k ≠ u → F.heap[k]? = (put8 w1 g' (n * 8) x).heap[k]?) (k : Nat) (hk : k < W.heap.size) (hku : k ≠ u) (hbg : ∀ o, W.heap[k]? = some o → ¬ Big o) : F.heap[k]? = W.heap[k]? :=
 (PK.kept hg hold hF k (Nat.lt_of_lt_of_le hk hb.size) hku (fun o ho => hbg o ((hb.block k hk).symm.trans ho))).trans (hb.block k hk)
theorem not_big {o : Obj} (h : o.isCells = false) : ¬ Big o := by
 rintro ⟨cs, t, f, rfl, _⟩
 cases h
theorem round_from {B u : Nat} {W F : World} (keep : ∀ k, k < W.heap.size → k ≠ u → (∀ o, W.heap[k]? = some o → ¬ Big o) → F.heap[k]? = W.heap[k]?) (hsz : W.heap.size ≤ F.heap.size) (hu : IsC W u) : KeepsFrom B W F := by
 constructor
 ·exact hsz
 ·intro k o _ hk hc
  have hne : k ≠ u := by
   rintro rfl
   obtain ⟨o', h1, h2⟩ := hu
   have e := hk.symm.trans h1
   cases e
   rw [hc] at h2
   cases h2
  have hnb : ∀ o', W.heap[k]? = some o' → ¬ Big o' := fun o' h1 => by
   have e := hk.symm.trans h1
   cases e
   exact not_big hc
  exact (keep k (Array.getElem?_eq_some_iff.1 hk).1 hne hnb).trans hk
theorem round_kp {n₀ u g' : Nat} {S : Nat → Prop} {W Wc w1 F : World} (hS : S u) (hb : Below W.heap.size W Wc) (hg : Wc.grownBy w1 (some g')) {n : Nat} {x : XQ}
  (hF : ∀ k, k ≠ u → F.heap[k]? = (put8 w1 g' (n * 8) x).heap[k]?) (hsz : F.heap.size = w1.heap.size) (ho : F.os = w1.os) (ht : F.tape = w1.tape) (hp : F.output = w1.output) (hn : n₀ ≤ u) (hng : n₀ ≤ g') (hnW : n₀ ≤ W.heap.size)
  (keep : ∀ k, k < W.heap.size → k ≠ u → (∀ o, W.heap[k]? = some o → ¬ Big o) → F.heap[k]? = W.heap[k]?) : KpS n₀ S Big W F := by
 have hs1 := hb.size
 have hs2 := hg.size
 constructor
 ·refine ⟨ho.trans (hg.os.trans hb.os), ht.trans (hg.tape.trans hb.tape), hp.trans (hg.output.trans hb.output), by omega, fun k hk => ?_⟩
  have h1 : k ≠ g' := by omega
  have h2 : k ≠ u := by omega
  exact (hF k h2).trans ((put8_other h1 x).trans ((hg.block k (by omega) (fun e => h1 (by cases e; rfl))).trans (hb.block k (by omega))))
 ·omega
 ·intro k o hk _ hSk hbg
  have hne : k ≠ u := fun e => hSk (by rw [e]; exact hS)
  have hnb : ∀ o', W.heap[k]? = some o' → ¬ Big o' := fun o' h1 => by
   have e := hk.symm.trans h1
   cases e
   exact hbg
  exact (keep k (Array.getElem?_eq_some_iff.1 hk).1 hne hnb).trans hk
theorem not_big1 (v : Value) (t : TypeId) : ¬ Big (.cells #[v] t (0, 0)) := by
 rintro ⟨cs, t', f, e, hs⟩
 injection e with e1
 rw [← e1] at hs
 simp at hs
theorem row_obj {b g n cap : Nat} {xs : List Value} {W : World} (h : W.ownsRow b 37 8 (.slice (some ⟨g, 0, none⟩) (n + 1) cap) (n + 1) xs) : ∃ cs, W.heap[g]? = some (.cells cs 37 (0, 0)) := by
 rcases h.2 with ⟨hbad, _⟩ | ⟨g', cap', cur, hv, hb, hg, hc, hm, hs, ht⟩
 ·cases hbad
 have e2 : g = g' := by have := congrArg Value.ownBlock hv; simpa [Value.ownBlock] using this
 subst e2
 exact ⟨cur, hg⟩
def kof (c : Int) (ys : List (Ex × Nat)) : List Ex := (ys.map (·.1)).filter (fun y => y.hd.k == c)
theorem kof_snoc (c : Int) (ys : List (Ex × Nat)) (x : Ex) (d : Nat) : kof c (ys ++ [(x, d)]) = kof c ys ++ (if (x.hd.k == c) = true then [x] else []) := by
 unfold kof
 rw [List.map_append, List.filter_append]
 cases h : x.hd.k == c <;> simp [h]
theorem kof_len (c : Int) (ys : List (Ex × Nat)) : (kof c ys).length ≤ ys.length := by
 unfold kof
 exact Nat.le_trans (List.length_filter_le _ _) (by simp)
theorem is2_any (h : Hd) (A : Option Addr) (len cap : Nat) (w : World) :
  Calls Tryz.prog 159 #[XV h A len cap] w fun e w' => e = .returned (.bool (h.k == 2)) ∧ Below w.heap.size w w' := by
 obtain ⟨k, n, vk, vn, vs, tab, col⟩ := h
 go_enter Tryz.func159, Tryz.ntmps159
 go_wp2
 all_goals
  go_ret
  exact ⟨rfl, ba w _⟩
theorem is4_any (h : Hd) (A : Option Addr) (len cap : Nat) (w : World) :
  Calls Tryz.prog 154 #[XV h A len cap] w fun e w' => e = .returned (.bool (h.k == 4)) ∧ Below w.heap.size w w' := by
 obtain ⟨k, n, vk, vn, vs, tab, col⟩ := h
 go_enter Tryz.func154, Tryz.ntmps154
 go_wp2
 all_goals
  go_ret
  exact ⟨rfl, ba w _⟩

set_option maxRecDepth 100000 in
set_option maxHeartbeats 16000000 in
theorem pickn_any (F : Nat) (K : Int) (hFn : ∀ (h : Hd) (A : Option Addr) (len cap : Nat) (w : World), Calls Tryz.prog F #[XV h A len cap] w fun e w' => e = .returned (.bool (h.k == K)) ∧ Below w.heap.size w w') (hR : ∀ (args : Array Value) (w : World), (callFunc F args).run Tryz.prog w = .ok (.enter F args) w) (h : Hd) (lk : List Ex) (A : Option Addr) (cap : Nat) (w : World) (hX : XsAt w.heap.size w lk A) (hcap : lk.length ≤ cap) (hsm : AllSm (.mk h lk)) (hc : cnt (.mk h lk) ≤ 999999) (hT : Tabs w) :
  Calls Tryz.prog 153 #[XV h A lk.length cap, .func (.func F) #[] #[]] w (ListBack w (if okX (.mk h lk) = true then kndX K (.mk h lk) else [])) := by
 have hba : Below w.heap.size w ((w.alloc (xbox h A lk.length cap)).alloc (.cells #[.func (.func F) #[] #[]] 77)) := ba2 w _ _
 have HCk := Lib.hid (xcheck_any h lk A cap ((w.alloc (xbox h A lk.length cap)).alloc (.cells #[.func (.func F) #[] #[]] 77)) (hX.next hba) hcap hsm hc (hT.kept hba))
 have HBa := Lib.hid hba
 have HX0 := Lib.hid (((ba (w.alloc (xbox h A lk.length cap)) (.cells #[.func (.func F) #[] #[]] 77)).block w.heap.size (by rw [World.size_alloc]; omega)).trans (MapKept.heap_alloc w (xbox h A lk.length cap)).1)
 have HR0 := Lib.hid (show Boxed ((w.alloc (xbox h A lk.length cap)).alloc (.cells #[.func (.func F) #[] #[]] 77)) (w.heap.size + 1) 77 (.func (.func F) #[] #[]) by have := Boxed.new (w.alloc (xbox h A lk.length cap)) 77 (.func (.func F) #[] #[]); rwa [World.size_alloc] at this)
 have HXs := Lib.hid hX
 have HSm := Lib.hid hsm
 have HS2 := Lib.hid (show ((w.alloc (xbox h A lk.length cap)).alloc (.cells #[.func (.func F) #[] #[]] 77)).heap.size = w.heap.size + 1 + 1 by simp)
 rw [show chkI (.mk h lk) = if okX (.mk h lk) = true then 0 else 100 by rw [chkI, meas_some]] at HCk
 clear hX hT hsm hba
 refine (callsIn_wide (n := 9)).1 ?_
 refine callsIn_of_wp_marks Tryz.func153 rfl trivial ?_ rfl
 simp only [Tryz.ntmps153, List.size_toArray, List.length_cons, List.length_nil, Nat.reduceAdd, Nat.reduceSub, Array.replicate_succ, Array.replicate_zero, List.push_toArray, List.append_toArray, List.nil_append, List.cons_append]
 cases ho : okX (.mk h lk)
 ·rw [ho] at HCk
  simp only [Bool.false_eq_true, if_false] at HCk ⊢
  clear ho
  gi_wp2_with ((try refine ⟨trivial, ?_⟩); gi_at_call 30; refine (callsIn_wide.2 HCk.out).mono ?_; rintro e W1 ⟨rfl, hb⟩; have HB1 := Lib.hid (bt HBa.out hb); clear hb)
  refine ⟨.slice none 0 0, by simp [results, Tryz.results153, go_sem], none, 0, rfl, Nat.le_refl _, by rw [XsAt, XsB]; trivial, HB1.out⟩
 ·rw [ho] at HCk
  simp only [if_true] at HCk ⊢
  clear ho
  gi_wp2_with (first
   | ((try refine ⟨trivial, ?_⟩); gi_at_call 30; refine (callsIn_wide.2 HCk.out).mono ?_; rintro e W1 ⟨rfl, hb⟩; have HB1 := Lib.hid (bt HBa.out hb); have hr := boxed_below HR0.out hb; have hx1 := (hb.block w.heap.size (by rw [HS2.out]; omega)).trans HX0.out; have hlt : w.heap.size < W1.heap.size := (Array.getElem?_eq_some_iff.1 hx1).1; obtain ⟨⟨x0, x1, x2, x3, x4, x5, x6, x7⟩, _⟩ := cell8 (((ba W1 (.cells #[.slice none 0 0] 35)).block w.heap.size hlt).trans hx1); have HX1 := Lib.hid hx1; have HSz := Lib.hid hb.size; have HR1 := Lib.hid hr; clear hb hr hx1)
   | ((try refine ⟨trivial, ?_⟩); gi_at_call 114; refine (through_in Fence.wide _ trivial rfl _ _ _ _ _).mono ?_; rintro e w' ⟨rfl, rfl⟩))
  have bU0 := Boxed.new W1 35 (.slice none 0 0)
  have bU := bU0.alloc (xbox h A lk.length cap)
  have bI := (HR1.out.alloc (.cells #[.slice none 0 0] 35)).alloc (xbox h A lk.length cap)
  have bX := (MapKept.heap_alloc (W1.alloc (.cells #[.slice none 0 0] 35)) (xbox h A lk.length cap)).1
  rw [World.size_alloc] at bX
  have hB0 := bt HB1.out (ba2 W1 (.cells #[.slice none 0 0] 35) (xbox h A lk.length cap))
  have hsz : w.heap.size + 2 ≤ W1.heap.size := by have := HSz.out; rw [HS2.out] at this; omega
  have hsz0 : ((W1.alloc (.cells #[.slice none 0 0] 35)).alloc (xbox h A lk.length cap)).heap.size = W1.heap.size + 2 := by simp
  obtain ⟨W0, hW0⟩ : ∃ W0, (W1.alloc (.cells #[.slice none 0 0] 35)).alloc (xbox h A lk.length cap) = W0 := ⟨_, rfl⟩
  rw [hW0] at bU bI bX hB0 hsz0 ⊢
  obtain ⟨ib, hib⟩ : ∃ u, w.heap.size + 1 = u := ⟨_, rfl⟩
  obtain ⟨u1, hu1⟩ : ∃ u, W1.heap.size = u := ⟨_, rfl⟩
  rw [hib] at bI ⊢
  rw [hu1] at bU bX hsz hsz0 ⊢
  obtain ⟨u5, hu5⟩ : ∃ u, u1 + 1 = u := ⟨_, rfl⟩
  rw [hu5] at bX ⊢
  clear hW0 HR1 HSz HB1 x0 x1 x2 x3 x4 x5 x6 x7 hu1 HX1 hlt bU0
  obtain ⟨S, hSd⟩ : ∃ S : Nat → Prop, (fun k => k = u1) = S := ⟨_, rfl⟩
  have hSi : ∀ k, S k ↔ k = u1 := fun k => by rw [← hSd]
  have hSB : ∀ k, S k → k < W0.heap.size := fun k hk => by have := (hSi k).1 hk; omega
  have hSU : ∀ k, S k → w.heap.size ≤ k := fun k hk => by have := (hSi k).1 hk; omega
  have hX0 : XsAt w.heap.size W0 lk A := HXs.out.kept hB0
  have own1 : ∀ {X Y : World} {row : Option Nat} {B : Nat} {t : TypeId} {v : Value}, Boxed X B t v → X.grownBy Y row → (∀ r, row = some r → W0.heap.size ≤ r ∧ ∃ o : Obj, X.heap[r]? = some o ∧ o.isCells = false) → Boxed Y B t v :=
   fun hb hg hr => boxed_own _ _ (fun (_ : Unit) => _) () _ _ _ hb hg (fun r e => (hr r e).2)
  have ownB := @ownFrom_below Unit w.heap.size W0.heap.size w (Nat.le_refl _) (by omega)
  refine wpIn_rangeFunc_ownH rfl (by omega) (gf := 140) (lb := #[.pointer (some ⟨u5, 0, none⟩)]) rfl trivial (enters_of Tryz.func140 (by kernel_rfl) rfl)
   (through_stops Fence.wide rfl _ trivial trivial rfl u5 w.heap.size S Big big_box W0 ⟨⟨.mk h lk, A, cap, 1⟩, ⟨hX0, hcap, HSm.out, by simp only; omega⟩⟩ rfl (by omega) (by omega) hSB bX) KpS.trans (kpS_put (by omega)) (Below.refl _ _) (fun _ => rfl)
   (fun pre W => (∃ v q, PK W0.heap.size u1 W v q (kof K (pre.map ndp))) ∧ Boxed W ib 77 (.func (.func F) #[] #[]) ∧ Below w.heap.size w W ∧ W0.heap.size ≤ W.heap.size)
   (fun c pre W => False)
   (fun pre X Y row hs hg hr => by
    obtain ⟨⟨v, q, h1⟩, h2, h3, h4⟩ := hs
    exact ⟨⟨v, q, h1.other hg (fun r e => (hr r e).2)⟩, own1 h2 hg hr, ownB () X Y row h3 hg hr, Nat.le_trans h4 hg.size⟩)
   (fun c pre X Y row hs hg hr => hs)
   ⟨⟨_, [], ⟨bU, .nil, World.ownsRow_nil _ _ _ _, fun _ => rfl, Nat.le_refl _, by omega⟩⟩, bI, hB0, Nat.le_refl _⟩
   (fun x a' W => ∃ Bx, u1 < Bx ∧ W.heap[Bx]? = some (xbox x.1.ex.hd x.1.A x.1.ex.kids.length x.1.cap) ∧
    a' = { tmps := #[XV h A lk.length cap, .func (.func F) #[] #[], .pointer (some ⟨w.heap.size, 0, none⟩), .pointer (some ⟨ib, 0, none⟩), .slice none 0 0, .pointer (some ⟨u1, 0, none⟩), .pointer (some ⟨Bx, 0, none⟩), XV h A lk.length cap, .int .i64 0, .bool false, XV h A lk.length cap, .func (.func 140) #[] #[.pointer (some ⟨u5, 0, none⟩)], XV x.1.ex.hd x.1.A x.1.ex.kids.length x.1.cap, .int .i64 x.1.lv, undef, undef, undef, undef, undef, undef, undef, undef, undef, undef, undef], defers := [] })
   (fun x a' _ X Y row hs hg hr => by
    obtain ⟨Bx, h1, h2, h3⟩ := hs
    refine ⟨Bx, h1, (hg.block Bx (Array.getElem?_eq_some_iff.1 h2).1 (fun e => ?_)).trans h2, h3⟩
    obtain ⟨_, o, ho, hoc⟩ := hr Bx e.symm
    rw [h2] at ho; cases ho; cases hoc)
   ?assign ?body ?done ?stop
  case assign =>
   rintro l pre x W K ⟨⟨v, q, h1⟩, h2, h3, h4⟩ hK
   gi_wp2
   exact hK _ _ ((KeepsOthers.alloc _ _).from _) ((Rd.of (S := S) (ba W _)).kp hSU (by omega)) ⟨⟨v, q, h1.below (ba W _)⟩, boxed_below h2 (ba W _), bt' h3 (ba W _), by rw [World.size_alloc]; omega⟩ ⟨W.heap.size, by have := h1.box.lt; omega, (MapKept.heap_alloc W _).1, rfl⟩
  case done =>
   rintro D ys W hD hys ⟨⟨v, q, h1⟩, h2, h3, h4⟩ hK
   obtain ⟨L9, hL9⟩ : ∃ L, kof K (ys.map ndp) = L := ⟨_, rfl⟩
   rw [hL9] at h1
   obtain ⟨A9, cap9, hv9, hl9, hx9⟩ := h1.list
   subst hv9
   obtain ⟨k1, g1⟩ := boxed_cells h1.box
   have HE := Lib.hid (show kndX K (.mk h lk) = L9 by rw [← hL9, hys]; exact (knd_preo K (.mk h lk) 1).symm)
   have HBw := Lib.hid h3
   have HX9 := Lib.hid hx9
   have HPo := Lib.hid (belowK_b (w := w) (Nat.le_refl _) W D (.deferred (some [])) (.deferred none) (by omega) hK rfl rfl)
   have HPs := Lib.hid (grownBy_putObj' W D (.deferred none)).size
   have HPk := Lib.hid (show ∀ k, IsC W k → (W.putObj D (.deferred none)).heap[k]? = W.heap[k]? from fun k ⟨o, ho, hc⟩ => (grownBy_putObj' W D (.deferred none)).block k (Array.getElem?_eq_some_iff.1 ho).1 (fun e => by cases e; rw [hK] at ho; cases ho; cases hc))
   clear h1 hx9 h3
   gi_wp2
   refine ⟨by simp, .inl ⟨_, _, rfl, run_takeDeferred hK, ?_⟩⟩
   refine ⟨.slice A9 L9.length cap9, by simp [results, Tryz.results153, go_sem], A9, cap9, by rw [HE.out], by rw [HE.out]; exact hl9, ?_, HBw.out.trans HPo.out⟩
   rw [HE.out]
   exact XsB.go (fun k hk => HPk.out k hk.2) (fun k hk => Nat.lt_of_lt_of_le hk.1 HPs.out) _ _ (XsB.isC HX9.out)
  case stop =>
   rintro D c pre W hD hSp hf hK
   exact hf.elim
  case body =>
   rintro l pre x a' W hl _ ⟨⟨v, q, hpk⟩, hbi, hB, hsW⟩ ⟨Bx, hBx, hxb, rfl⟩ hlt
   obtain ⟨⟨⟨h', l'⟩, A', cap', lv⟩, ok⟩ := x
   have hxb : W.heap[Bx]? = some (xbox h' A' l'.length cap') := hxb
   obtain ⟨⟨y0, y1, y2, y3, y4, y5, y6, y7⟩, _⟩ := cell8 hxb
   obtain ⟨i1, i2⟩ := boxed_cells hbi
   have HF := Lib.hid (hFn h' A' l'.length cap' W)
   obtain ⟨bf, hbf⟩ : ∃ b, (h'.k == K) = b := ⟨_, rfl⟩
   have Hbf := Lib.hid hbf
   rw [hbf] at HF
   have HPk := Lib.hid hpk
   have HXb := Lib.hid hxb
   have hBxl := (Array.getElem?_eq_some_iff.1 hxb).1
   have HA := Lib.hid (show kof K ((pre ++ [(⟨⟨.mk h' l', A', cap', lv⟩, ok⟩ : NdS w.heap.size W0)]).map ndp) = kof K (pre.map ndp) ++ (if bf = true then [.mk h' l'] else []) by
    rw [List.map_append]
    show kof K (pre.map ndp ++ [(.mk h' l', lv)]) = _
    rw [kof_snoc, show ((Ex.mk h' l').hd.k == K) = bf from hbf])
   clear hpk hbf hxb
   cases bf
   ·gi_wp2_with (first | (rw [hR]; dsimp only) | ((try refine ⟨trivial, ?_⟩); with_reducible refine (CallsIn.inRound l (callsIn_wide.2 HF.out)).mono ?_; rintro e W5 ⟨rfl, hb5⟩))
    exact ⟨(Rd.of (S := S) hb5).from hSB, (Rd.of (S := S) hb5).kp hSU (by omega), ⟨v, q, by rw [HA.out]; simpa using HPk.out.below hb5⟩, boxed_below hbi hb5, bt' hB hb5, Nat.le_trans hsW hb5.size⟩
   ·gi_wp2_with (first | (rw [hR]; dsimp only) | ((try refine ⟨trivial, ?_⟩); with_reducible refine (CallsIn.inRound l (callsIn_wide.2 HF.out)).mono ?_; rintro e W5 ⟨rfl, hb5⟩))
    have HB5 := Lib.hid hb5
    obtain ⟨L, hL⟩ : ∃ L, kof K (pre.map ndp) = L := ⟨_, rfl⟩
    have hLl : L.length ≤ 1000000 := by rw [← hL]; have := kof_len K (pre.map ndp); rw [List.length_map] at this; omega
    rw [hL] at HPk HA
    obtain ⟨A1, cp1, hv1, _, _⟩ := HPk.out.list
    subst hv1
    have HPK := Lib.hid (HPk.out.below hb5)
    have hxB := (hb5.block Bx hBxl).trans HXb.out
    have hBx5 : Bx < W5.heap.size := Nat.lt_of_lt_of_le hBxl hb5.size
    have hx5 : W5.drew.heap[Bx]? = some (xbox h' A' l'.length cap') := hxB
    have HD5 := Lib.hid (Below.drew (Below.refl W5.heap.size W5))
    have hS1 : S u1 := (hSi u1).2 rfl
    have hBu : Bx ≠ u1 := by omega
    have HCp := Lib.hid (show ∀ Wc, Below W5.heap.size W5 Wc → Calls Tryz.prog 160 #[XV h' A' l'.length cap'] Wc (CopyE Wc (.mk h' l')) from fun Wc hc => copyOf_any h' l' Wc A' cap' (by have := ok.lv; rw [cnt_mk] at this; simp only at this; omega) (XsB.go (fun k hk => ((hc.block k (by have := hb5.size; have := hB.size; omega)).trans (hb5.block k (by have := hB.size; omega))).trans ((hB.block k hk).trans (hB0.block k hk).symm)) (fun k hk => by have := hb5.size; have := hc.size; have := hB.size; omega) _ _ ok.at'))
    clear hL i1 i2 y0 y1 y2 y3 y4 y5 y6 y7
    refine wpIn_held (S := fun Wd => Wd.heap[Bx]? = some (xbox h' A' l'.length cap')) (by kernel_rfl) (by kernel_rfl) (fun _ _ h => h) hx5 (fun hHeld => ?_)
    refine wpAnyH_take (i := 1) (oi := { dst := some 18, op := Go.Op.load 37 (Go.Operand.tmp 6), type := 37, pos := "parts.go:28", after := #[], guard := none }) (v := ?_) rfl (by kernel_rfl) (by kernel_rfl) (by kernel_rfl) (fun _ _ _ h => h) (Or.inl ⟨by rfl, ?_⟩) hHeld ?_
    rotate_left 1
    ·(intro w0 hSw); (try dsimp only at hSw); obtain ⟨⟨s0, s1, s2, s3, s4, s5, s6, s7⟩, _⟩ := cell8 hSw; go_simp <;> with_reducible rfl
    (try simp only [Act.put, List.setIfInBounds_toArray, List.set_cons_zero, List.set_cons_succ])
    refine wpAnyH_ready (rs := [0, 2, 4]) (by kernel_rfl) (by simp) ?_
    refine (AllReadyH.cons (o := { dst := some 17, op := Go.Op.load 35 (Go.Operand.tmp 5), type := 35, pos := "parts.go:28", after := #[], guard := none }) rfl (fun K hK => ?_) (AllReadyH.cons (o := { dst := some 19, op := Go.Op.call { callee := Go.Callee.value (Go.Operand.func 160), args := #[Go.Operand.tmp 18], argTypes := #[37] }, type := 37, pos := "parts.go:28", after := #[{ on := 1, ground := Go.Ground.data }], guard := none }) rfl (fun K hK => ?_) (AllReadyH.cons (o := { dst := some 21, op := Go.Op.buildSlice 35 1 #[(0, Go.Operand.const (Go.Value.agg #[Go.Value.int Go.IntKind.i64 0, Go.Value.int Go.IntKind.i64 0, Go.Value.int Go.IntKind.i64 0, Go.Value.int Go.IntKind.i64 0, Go.Value.string { data := #[] }, Go.Value.string { data := #[] }, Go.Value.string { data := #[] }, Go.Value.slice none 0 0]))], type := 35, pos := "parts.go:28", after := #[], guard := none }) rfl (fun K hK => ?_) AllReadyH.nil)))
    ·obtain ⟨bc, bf⟩ := boxed_cells (boxed_below HPK.out.box HD5.out)
     rw [if_pos (by rfl)]
     go_simp
     go_wp2_with fail
     refine hK.out _ _ ((HD5.out.block Bx hBx5).trans hxB) (fun hHeld => ?_)
     clear hK K bc bf
     (try simp only [Act.put, List.setIfInBounds_toArray, List.set_cons_zero, List.set_cons_succ])
     refine wpAnyH_take (i := 3) (oi := { dst := some 20, op := Go.Op.call { callee := Go.Callee.builtin Go.Builtin.len, args := #[Go.Operand.tmp 17], argTypes := #[35] }, type := 3, pos := "parts.go:28", after := #[{ on := 0, ground := Go.Ground.data }], guard := none }) (v := ?_) rfl (by kernel_rfl) (by kernel_rfl) (by kernel_rfl) (fun _ _ _ h => h) (Or.inl ⟨by rfl, ?_⟩) hHeld ?_
     rotate_left 1
     ·(intro w0 hSw); (try dsimp only at hSw); go_simp <;> with_reducible rfl
     (try simp only [Act.put, List.setIfInBounds_toArray, List.set_cons_zero, List.set_cons_succ])
     refine wpAnyH_ready (rs := [2, 4]) (by kernel_rfl) (by simp) ?_
     refine (AllReadyH.cons (o := { dst := some 19, op := Go.Op.call { callee := Go.Callee.value (Go.Operand.func 160), args := #[Go.Operand.tmp 18], argTypes := #[37] }, type := 37, pos := "parts.go:28", after := #[{ on := 1, ground := Go.Ground.data }], guard := none }) rfl (fun K hK => ?_) (AllReadyH.cons (o := { dst := some 21, op := Go.Op.buildSlice 35 1 #[(0, Go.Operand.const (Go.Value.agg #[Go.Value.int Go.IntKind.i64 0, Go.Value.int Go.IntKind.i64 0, Go.Value.int Go.IntKind.i64 0, Go.Value.int Go.IntKind.i64 0, Go.Value.string { data := #[] }, Go.Value.string { data := #[] }, Go.Value.string { data := #[] }, Go.Value.slice none 0 0]))], type := 35, pos := "parts.go:28", after := #[], guard := none }) rfl (fun K hK => ?_) AllReadyH.nil))
     ·rw [if_pos (by rfl)]
      go_simp
      refine (HCp.out _ HD5.out).mono ?_
      rintro e w02 ⟨A3, cap3, rfl, hle3, hx3, hb⟩
      have HB02 := Lib.hid (bt HD5.out hb)
      have HX02 := Lib.hid (copy_op8 HPK.out HD5.out hx3)
      clear hb hx3
      go_wp2_with fail
      refine hK.out _ _ ((HB02.out.block Bx hBx5).trans hxB) (fun hHeld => ?_)
      clear hK K
      (try simp only [Act.put, List.setIfInBounds_toArray, List.set_cons_zero, List.set_cons_succ])
      refine wpAnyH_ready (rs := [4]) (by kernel_rfl) (by simp) ?_
      refine (AllReadyH.cons (o := { dst := some 21, op := Go.Op.buildSlice 35 1 #[(0, Go.Operand.const (Go.Value.agg #[Go.Value.int Go.IntKind.i64 0, Go.Value.int Go.IntKind.i64 0, Go.Value.int Go.IntKind.i64 0, Go.Value.int Go.IntKind.i64 0, Go.Value.string { data := #[] }, Go.Value.string { data := #[] }, Go.Value.string { data := #[] }, Go.Value.slice none 0 0]))], type := 35, pos := "parts.go:28", after := #[], guard := none }) rfl (fun K hK => ?_) AllReadyH.nil)
      rw [if_pos (by rfl)]
      go_simp
      obtain ⟨w024, hw024⟩ : ∃ W', w02.alloc (.cells zcell.toArray 37) = W' := ⟨_, rfl⟩
      have HB024 := Lib.hid (by rw [← hw024]; exact bt HB02.out (ba _ _) : Below W5.heap.size W5 w024)
      have HX02z := Lib.hid (by rw [← hw024]; exact op8_next HX02.out (ba _ _) : XsB (Op8 W0.heap.size w024 (.slice A1 L.length cp1)) w024 l' A3)
      obtain ⟨z024, hz024⟩ : ∃ z, w02.heap.size = z := ⟨_, rfl⟩
      have HZ024 := Lib.hid (by rw [← hw024, ← hz024]; exact (MapKept.heap_alloc _ _).1 : w024.heap[z024]? = some (.cells zcell.toArray 37 (0, 0)))
      refine hK.out _ (w02.alloc (.cells zcell.toArray 37)) (by rw [hw024]; exact (HB024.out.block Bx hBx5).trans hxB) (fun hHeld => ?_)
      clear hK K
      (try simp only [Act.put, List.setIfInBounds_toArray, List.set_cons_zero, List.set_cons_succ])
      rw [hw024, hz024]
      clear hw024
      refine wpAnyH_ready (rs := [5]) (by kernel_rfl) (by simp) ?_
      refine (AllReadyH.cons (o := { dst := some 22, op := Go.Op.call { callee := Go.Callee.builtin Go.Builtin.append, args := #[Go.Operand.tmp 17, Go.Operand.tmp 21], argTypes := #[35, 35] }, type := 35, pos := "parts.go:28", after := #[{ on := 0, ground := Go.Ground.data }, { on := 4, ground := Go.Ground.data }, { on := 2, ground := Go.Ground.chain }, { on := 0, ground := Go.Ground.phase }, { on := 1, ground := Go.Ground.phase }, { on := 2, ground := Go.Ground.phase }, { on := 3, ground := Go.Ground.phase }, { on := 4, ground := Go.Ground.phase }], guard := none }) rfl (fun K hK => ?_) AllReadyH.nil)
      rw [if_pos (by rfl)]
      have hnw := zero_news HZ024.out
      have hpk := HPK.out.below HB024.out
      obtain ⟨g9, cap9, w9, hrun, hown9, hgr9, hbg9, hold9⟩ := append1 hpk.own (fun e => hpk.nil (List.eq_nil_of_length_eq_zero e)) hpk.le (by omega) _ hnw
      refine wp_append_run (P := Tryz.prog) (v := .slice A1 L.length cp1) (.tmp 17) (.tmp 21) 35 rfl (by with_reducible (first | rfl | go_simp)) (by with_reducible (first | rfl | go_simp)) hrun ?_
      have HO9 := Lib.hid hown9; have HG9 := Lib.hid hgr9; have HL9 := Lib.hid hold9; have HPb := Lib.hid hpk
      have hxl : (xcells q).length = L.length * 8 := by rw [xcells_len, hpk.kids.len]
      obtain ⟨hcs, hfs, hgl9⟩ := row_cells hown9 hxl
      have hug : u1 ≠ g9 := by have := hpk.ub; omega
      have hbu9 : Boxed w9 u1 35 (.slice A1 L.length cp1) := (hgr9.block u1 hpk.box.lt (fun e => hug (by cases e; rfl))).trans hpk.box
      have hxk : ∀ F : World, (∀ k, k ≠ u1 → F.heap[k]? = (put8 w9 g9 (L.length * 8) (h', A3, l'.length, cap3)).heap[k]?) → F.heap[Bx]? = some (xbox h' A' l'.length cap') := fun F hF => (PK.kept hgr9 hold9 hF Bx (Nat.lt_of_lt_of_le hBx5 HB024.out.size) (by omega) (fun o ho => by rw [(HB024.out.block Bx hBx5).trans hxB] at ho; cases ho; exact big_box _ _ _ _)).trans ((HB024.out.block Bx hBx5).trans hxB)
      have hx9 : w9.heap[Bx]? = some (xbox h' A' l'.length cap') := by
       have hne : Bx ≠ g9 := fun e => by
        obtain ⟨_, o, ho, hbo⟩ := hold9 (by rw [← e]; exact Nat.lt_of_lt_of_le hBx5 HB024.out.size)
        rw [← e, (HB024.out.block Bx hBx5).trans hxB] at ho; cases ho; exact big_box _ _ _ _ hbo
       exact (hgr9.block Bx (Nat.lt_of_lt_of_le hBx5 HB024.out.size) (fun e => hne (by cases e; rfl))).trans ((HB024.out.block Bx hBx5).trans hxB)
      have HXK := Lib.hid hxk
      clear hrun hown9 hgr9 hold9 hpk hnw hxk
      refine hK.out _ _ hx9 (fun hHeld => ?_)
      clear hK K
      (try simp only [Act.put, List.setIfInBounds_toArray, List.set_cons_zero, List.set_cons_succ])
      have hwL : IntKind.i64.wrap (L.length : Int) = (L.length : Int) := by rw [IntKind.wrap_i64]; omega
      have hwl1 : (L.length : Int) < (L.length : Int) + 1 := by omega
      refine wpAnyH_take (i := 6) (oi := { dst := some 23, op := Go.Op.indexAddr 35 (Go.Operand.tmp 22) (Go.Operand.tmp 20), type := 0, pos := "parts.go:28", after := #[{ on := 5, ground := Go.Ground.data }, { on := 3, ground := Go.Ground.data }, { on := 0, ground := Go.Ground.phase }, { on := 1, ground := Go.Ground.phase }, { on := 2, ground := Go.Ground.phase }, { on := 3, ground := Go.Ground.phase }, { on := 4, ground := Go.Ground.phase }, { on := 5, ground := Go.Ground.phase }, { on := 8, ground := Go.Ground.gcOnly Go.Departure.appendInPlace }], guard := none }) (v := ?_) rfl (by kernel_rfl) (by kernel_rfl) (by kernel_rfl) (fun _ _ _ h => h) (Or.inl ⟨by rfl, ?_⟩) hHeld ?_
      rotate_left 1
      ·(intro w0 hSw); (try dsimp only at hSw); go_simp <;> with_reducible rfl
      (try simp only [Act.put, List.setIfInBounds_toArray, List.set_cons_zero, List.set_cons_succ])
      refine wpAnyH_ready (rs := [7, 8]) (by kernel_rfl) (by simp) ?_
      refine (AllReadyH.cons (o := { dst := none, op := Go.Op.store 37 (Go.Operand.tmp 23) (Go.Operand.tmp 19), type := 0, pos := "parts.go:28", after := #[{ on := 6, ground := Go.Ground.data }, { on := 2, ground := Go.Ground.data }, { on := 5, ground := Go.Ground.chain }, { on := 0, ground := Go.Ground.phase }, { on := 1, ground := Go.Ground.phase }, { on := 2, ground := Go.Ground.phase }, { on := 3, ground := Go.Ground.phase }, { on := 4, ground := Go.Ground.phase }, { on := 5, ground := Go.Ground.phase }, { on := 8, ground := Go.Ground.gcOnly Go.Departure.appendInPlace }], guard := none }) rfl (fun K hK => ?_) (AllReadyH.cons (o := { dst := none, op := Go.Op.store 35 (Go.Operand.tmp 5) (Go.Operand.tmp 22), type := 0, pos := "parts.go:28", after := #[{ on := 5, ground := Go.Ground.data }, { on := 5, ground := Go.Ground.chain }, { on := 7, ground := Go.Ground.textOnly Go.Departure.appendInPlace }, { on := 0, ground := Go.Ground.phase }, { on := 1, ground := Go.Ground.phase }, { on := 2, ground := Go.Ground.phase }, { on := 3, ground := Go.Ground.phase }, { on := 4, ground := Go.Ground.phase }, { on := 5, ground := Go.Ground.phase }, { on := 6, ground := Go.Ground.textOnly Go.Departure.appendInPlace }, { on := 7, ground := Go.Ground.textOnly Go.Departure.appendInPlace }], guard := none }) rfl (fun K hK => ?_) AllReadyH.nil))
      ·rw [if_pos (by rfl)]
       refine wp_put8 (.tmp 23) (.tmp 19) rfl g9 (L.length * 8) (h', A3, l'.length, cap3) (by with_reducible (first | rfl | go_simp)) (by rfl) hcs hfs ?_
       obtain ⟨W7, hW7⟩ : ∃ W7, (put8 w9 g9 (L.length * 8) (h', A3, l'.length, cap3)) = W7 := ⟨_, rfl⟩
       rw [hW7]
       have HW7 := Lib.hid hW7; clear hW7
       refine hK.out _ W7 (HXK.out W7 (fun _ _ => by rw [HW7.out])) (fun hHeld => ?_)
       clear hK K
       simp only [Act.put]
       refine wpAnyH_ready (rs := [8]) (by kernel_rfl) (by simp) ?_
       refine (AllReadyH.cons (o := { dst := none, op := Go.Op.store 35 (Go.Operand.tmp 5) (Go.Operand.tmp 22), type := 0, pos := "parts.go:28", after := #[{ on := 5, ground := Go.Ground.data }, { on := 5, ground := Go.Ground.chain }, { on := 7, ground := Go.Ground.textOnly Go.Departure.appendInPlace }, { on := 0, ground := Go.Ground.phase }, { on := 1, ground := Go.Ground.phase }, { on := 2, ground := Go.Ground.phase }, { on := 3, ground := Go.Ground.phase }, { on := 4, ground := Go.Ground.phase }, { on := 5, ground := Go.Ground.phase }, { on := 6, ground := Go.Ground.textOnly Go.Departure.appendInPlace }, { on := 7, ground := Go.Ground.textOnly Go.Departure.appendInPlace }], guard := none }) rfl (fun K hK => ?_) AllReadyH.nil)
       obtain ⟨bc, bf⟩ := boxed_cells (show Boxed W7 u1 35 (.slice A1 L.length cp1) from by rw [← HW7.out]; exact (put8_other hug _).trans hbu9)
       rw [if_pos (by rfl)]
       refine wp_putsl (.tmp 5) (.tmp 22) rfl u1 (some ⟨g9, 0, none⟩) (L.length + 1) cap9 (by with_reducible (first | rfl | go_simp)) (by rfl) bc bf ?_
       refine hK.out _ _ (HXK.out _ (fun k hk => (setc_other (W := W7) hk _).trans (by rw [HW7.out]))) (fun hHeld => ?_)
       clear hK K bc bf
       simp only [Act.put]
       refine wpAnyH_done (by kernel_rfl) ?_ _
       refine NoPanic.normal ?_
       clear hHeld
       have hF9 : ∀ k, k ≠ u1 → (W7.setCell ⟨u1, 0, none⟩ (.slice (some ⟨g9, 0, none⟩) (L.length + 1) cap9)).heap[k]? = (put8 w9 g9 (L.length * 8) (h', A3, l'.length, cap3)).heap[k]? := fun k hk => (setc_other (W := W7) hk _).trans (by rw [HW7.out])
       have hu9 : Boxed (W7.setCell ⟨u1, 0, none⟩ (.slice (some ⟨g9, 0, none⟩) (L.length + 1) cap9)) u1 35 (.slice (some ⟨g9, 0, none⟩) (L.length + 1) cap9) := ((show Boxed W7 u1 35 (.slice A1 L.length cp1) from by rw [← HW7.out]; exact (put8_other hug _).trans hbu9).set _)
       have hz9 : (W7.setCell ⟨u1, 0, none⟩ (.slice (some ⟨g9, 0, none⟩) (L.length + 1) cap9)).heap.size = w9.heap.size := by rw [setc_size, ← HW7.out, put8_size]
       have hpk9 := PK.grow (x := .mk h' l') HPb.out hle3 HX02z.out HO9.out HG9.out hbg9 HL9.out hz9 hu9 hF9
       have hkp := round_keep (u := u1) (bt HB5.out HB024.out) HG9.out HL9.out hF9
       have hk1 := round_from (B := W0.heap.size) hkp (by have := (HB024.out).size; have := HG9.out.size; have := HB5.out.size; omega) (isC_of_cell (boxed_cells HPk.out.box).1)
       have hk2 := round_kp (n₀ := w.heap.size) (S := S) hS1 (bt HB5.out HB024.out) HG9.out (n := L.length) hF9 hz9 (by rw [setc_os, ← HW7.out, put8_os]) (by rw [setc_tape, ← HW7.out, put8_tape]) (by rw [setc_output, ← HW7.out, put8_output]) (by omega) (by omega) (by have := HPk.out.le; omega) hkp
       exact ⟨hk1, hk2, ⟨_, _, by rw [HA.out]; simpa using hpk9⟩, hk2.same ib _ hbi rfl (fun e => by have := (hSi ib).1 e; omega) (not_big1 _ _), hB.trans hk2.bel, Nat.le_trans hsW hk2.size⟩
      ·obtain ⟨bc, bf⟩ := boxed_cells hbu9
       rw [if_pos (by rfl)]
       refine wp_putsl (.tmp 5) (.tmp 22) rfl u1 (some ⟨g9, 0, none⟩) (L.length + 1) cap9 (by with_reducible (first | rfl | go_simp)) (by rfl) bc bf ?_
       obtain ⟨W8, hW8⟩ : ∃ W8, w9.setCell ⟨u1, 0, none⟩ (.slice (some ⟨g9, 0, none⟩) (L.length + 1) cap9) = W8 := ⟨_, rfl⟩
       rw [hW8]
       have HW8 := Lib.hid hW8; clear hW8
       refine hK.out _ W8 (by rw [← HW8.out]; exact (setc_other hBu _).trans hx9) (fun hHeld => ?_)
       clear hK K bc bf
       simp only [Act.put]
       refine wpAnyH_ready (rs := [7]) (by kernel_rfl) (by simp) ?_
       refine (AllReadyH.cons (o := { dst := none, op := Go.Op.store 37 (Go.Operand.tmp 23) (Go.Operand.tmp 19), type := 0, pos := "parts.go:28", after := #[{ on := 6, ground := Go.Ground.data }, { on := 2, ground := Go.Ground.data }, { on := 5, ground := Go.Ground.chain }, { on := 0, ground := Go.Ground.phase }, { on := 1, ground := Go.Ground.phase }, { on := 2, ground := Go.Ground.phase }, { on := 3, ground := Go.Ground.phase }, { on := 4, ground := Go.Ground.phase }, { on := 5, ground := Go.Ground.phase }, { on := 8, ground := Go.Ground.gcOnly Go.Departure.appendInPlace }], guard := none }) rfl (fun K hK => ?_) AllReadyH.nil)
       obtain ⟨cs9, hcs9⟩ := row_obj HO9.out
       rw [if_pos (by rfl)]
       refine wp_put8 (.tmp 23) (.tmp 19) rfl g9 (L.length * 8) (h', A3, l'.length, cap3) (by with_reducible (first | rfl | go_simp)) (by rfl) (fun i hi => by obtain ⟨u, hu⟩ := hcs i hi; exact ⟨u, (World.cell?_of_block (a := ⟨g9, L.length * 8 + i, none⟩) (by rw [← HW8.out]; exact setc_other (W := w9) (U := u1) (j := 0) hug.symm (.slice (some ⟨g9, 0, none⟩) (L.length + 1) cap9))).trans hu⟩) (fun o => (World.frozen?_of_block (a := ⟨g9, o, none⟩) (by rw [← HW8.out]; exact setc_other (W := w9) (U := u1) (j := 0) hug.symm (.slice (some ⟨g9, 0, none⟩) (L.length + 1) cap9))).trans (hfs o)) ?_
       refine hK.out _ _ (HXK.out (put8 W8 g9 (L.length * 8) (h', A3, l'.length, cap3)) (fun k hk => by rw [← HW8.out]; exact put8_comm hug hcs9 k hk)) (fun hHeld => ?_)
       clear hK K
       simp only [Act.put]
       refine wpAnyH_done (by kernel_rfl) ?_ _
       refine NoPanic.normal ?_
       clear hHeld
       have hF9 : ∀ k, k ≠ u1 → (put8 W8 g9 (L.length * 8) (h', A3, l'.length, cap3)).heap[k]? = (put8 w9 g9 (L.length * 8) (h', A3, l'.length, cap3)).heap[k]? := fun k hk => by rw [← HW8.out]; exact put8_comm hug hcs9 k hk
       have hu9 : Boxed (put8 W8 g9 (L.length * 8) (h', A3, l'.length, cap3)) u1 35 (.slice (some ⟨g9, 0, none⟩) (L.length + 1) cap9) := by rw [← HW8.out]; exact (put8_other hug _).trans (hbu9.set _)
       have hz9 : (put8 W8 g9 (L.length * 8) (h', A3, l'.length, cap3)).heap.size = w9.heap.size := by rw [put8_size, ← HW8.out, setc_size]
       have hpk9 := PK.grow (x := .mk h' l') HPb.out hle3 HX02z.out HO9.out HG9.out hbg9 HL9.out hz9 hu9 hF9
       have hkp := round_keep (u := u1) (bt HB5.out HB024.out) HG9.out HL9.out hF9
       have hk1 := round_from (B := W0.heap.size) hkp (by have := (HB024.out).size; have := HG9.out.size; have := HB5.out.size; omega) (isC_of_cell (boxed_cells HPk.out.box).1)
       have hk2 := round_kp (n₀ := w.heap.size) (S := S) hS1 (bt HB5.out HB024.out) HG9.out (n := L.length) hF9 hz9 (by rw [put8_os, ← HW8.out, setc_os]) (by rw [put8_tape, ← HW8.out, setc_tape]) (by rw [put8_output, ← HW8.out, setc_output]) (by omega) (by omega) (by have := HPk.out.le; omega) hkp
       exact ⟨hk1, hk2, ⟨_, _, by rw [HA.out]; simpa using hpk9⟩, hk2.same ib _ hbi rfl (fun e => by have := (hSi ib).1 e; omega) (not_big1 _ _), hB.trans hk2.bel, Nat.le_trans hsW hk2.size⟩
     ·rw [if_pos (by rfl)]
      go_simp
      obtain ⟨w04, hw04⟩ : ∃ W', W5.drew.alloc (.cells zcell.toArray 37) = W' := ⟨_, rfl⟩
      have HB04 := Lib.hid (by rw [← hw04]; exact bt HD5.out (ba _ _) : Below W5.heap.size W5 w04)
      obtain ⟨z04, hz04⟩ : ∃ z, W5.heap.size = z := ⟨_, rfl⟩
      have HZ04 := Lib.hid (by rw [← hw04, ← hz04]; exact (MapKept.heap_alloc _ _).1 : w04.heap[z04]? = some (.cells zcell.toArray 37 (0, 0)))
      refine hK.out _ (W5.drew.alloc (.cells zcell.toArray 37)) (by rw [hw04]; exact (HB04.out.block Bx hBx5).trans hxB) (fun hHeld => ?_)
      clear hK K
      (try simp only [Act.put, List.setIfInBounds_toArray, List.set_cons_zero, List.set_cons_succ])
      rw [hw04, hz04]
      clear hw04
      refine wpAnyH_ready (rs := [2]) (by kernel_rfl) (by simp) ?_
      refine (AllReadyH.cons (o := { dst := some 19, op := Go.Op.call { callee := Go.Callee.value (Go.Operand.func 160), args := #[Go.Operand.tmp 18], argTypes := #[37] }, type := 37, pos := "parts.go:28", after := #[{ on := 1, ground := Go.Ground.data }], guard := none }) rfl (fun K hK => ?_) AllReadyH.nil)
      rw [if_pos (by rfl)]
      go_simp
      refine (HCp.out _ HB04.out).mono ?_
      rintro e w042 ⟨A3, cap3, rfl, hle3, hx3, hb⟩
      have HB042 := Lib.hid (bt HB04.out hb)
      have HX042 := Lib.hid (copy_op8 HPK.out HB04.out hx3)
      have HZ04c := Lib.hid ((hb.block _ (Array.getElem?_eq_some_iff.1 HZ04.out).1).trans HZ04.out)
      clear hb hx3
      go_wp2_with fail
      refine hK.out _ _ ((HB042.out.block Bx hBx5).trans hxB) (fun hHeld => ?_)
      clear hK K
      (try simp only [Act.put, List.setIfInBounds_toArray, List.set_cons_zero, List.set_cons_succ])
      refine wpAnyH_ready (rs := [5]) (by kernel_rfl) (by simp) ?_
      refine (AllReadyH.cons (o := { dst := some 22, op := Go.Op.call { callee := Go.Callee.builtin Go.Builtin.append, args := #[Go.Operand.tmp 17, Go.Operand.tmp 21], argTypes := #[35, 35] }, type := 35, pos := "parts.go:28", after := #[{ on := 0, ground := Go.Ground.data }, { on := 4, ground := Go.Ground.data }, { on := 2, ground := Go.Ground.chain }, { on := 0, ground := Go.Ground.phase }, { on := 1, ground := Go.Ground.phase }, { on := 2, ground := Go.Ground.phase }, { on := 3, ground := Go.Ground.phase }, { on := 4, ground := Go.Ground.phase }], guard := none }) rfl (fun K hK => ?_) AllReadyH.nil)
      rw [if_pos (by rfl)]
      have hnw := zero_news HZ04c.out
      have hpk := HPK.out.below HB042.out
      obtain ⟨g9, cap9, w9, hrun, hown9, hgr9, hbg9, hold9⟩ := append1 hpk.own (fun e => hpk.nil (List.eq_nil_of_length_eq_zero e)) hpk.le (by omega) _ hnw
      refine wp_append_run (P := Tryz.prog) (v := .slice A1 L.length cp1) (.tmp 17) (.tmp 21) 35 rfl (by with_reducible (first | rfl | go_simp)) (by with_reducible (first | rfl | go_simp)) hrun ?_
      have HO9 := Lib.hid hown9; have HG9 := Lib.hid hgr9; have HL9 := Lib.hid hold9; have HPb := Lib.hid hpk
      have hxl : (xcells q).length = L.length * 8 := by rw [xcells_len, hpk.kids.len]
      obtain ⟨hcs, hfs, hgl9⟩ := row_cells hown9 hxl
      have hug : u1 ≠ g9 := by have := hpk.ub; omega
      have hbu9 : Boxed w9 u1 35 (.slice A1 L.length cp1) := (hgr9.block u1 hpk.box.lt (fun e => hug (by cases e; rfl))).trans hpk.box
      have hxk : ∀ F : World, (∀ k, k ≠ u1 → F.heap[k]? = (put8 w9 g9 (L.length * 8) (h', A3, l'.length, cap3)).heap[k]?) → F.heap[Bx]? = some (xbox h' A' l'.length cap') := fun F hF => (PK.kept hgr9 hold9 hF Bx (Nat.lt_of_lt_of_le hBx5 HB042.out.size) (by omega) (fun o ho => by rw [(HB042.out.block Bx hBx5).trans hxB] at ho; cases ho; exact big_box _ _ _ _)).trans ((HB042.out.block Bx hBx5).trans hxB)
      have hx9 : w9.heap[Bx]? = some (xbox h' A' l'.length cap') := by
       have hne : Bx ≠ g9 := fun e => by
        obtain ⟨_, o, ho, hbo⟩ := hold9 (by rw [← e]; exact Nat.lt_of_lt_of_le hBx5 HB042.out.size)
        rw [← e, (HB042.out.block Bx hBx5).trans hxB] at ho; cases ho; exact big_box _ _ _ _ hbo
       exact (hgr9.block Bx (Nat.lt_of_lt_of_le hBx5 HB042.out.size) (fun e => hne (by cases e; rfl))).trans ((HB042.out.block Bx hBx5).trans hxB)
      have HXK := Lib.hid hxk
      clear hrun hown9 hgr9 hold9 hpk hnw hxk
      refine hK.out _ _ hx9 (fun hHeld => ?_)
      clear hK K
      (try simp only [Act.put, List.setIfInBounds_toArray, List.set_cons_zero, List.set_cons_succ])
      have hwL : IntKind.i64.wrap (L.length : Int) = (L.length : Int) := by rw [IntKind.wrap_i64]; omega
      have hwl1 : (L.length : Int) < (L.length : Int) + 1 := by omega
      refine wpAnyH_take (i := 6) (oi := { dst := some 23, op := Go.Op.indexAddr 35 (Go.Operand.tmp 22) (Go.Operand.tmp 20), type := 0, pos := "parts.go:28", after := #[{ on := 5, ground := Go.Ground.data }, { on := 3, ground := Go.Ground.data }, { on := 0, ground := Go.Ground.phase }, { on := 1, ground := Go.Ground.phase }, { on := 2, ground := Go.Ground.phase }, { on := 3, ground := Go.Ground.phase }, { on := 4, ground := Go.Ground.phase }, { on := 5, ground := Go.Ground.phase }, { on := 8, ground := Go.Ground.gcOnly Go.Departure.appendInPlace }], guard := none }) (v := ?_) rfl (by kernel_rfl) (by kernel_rfl) (by kernel_rfl) (fun _ _ _ h => h) (Or.inl ⟨by rfl, ?_⟩) hHeld ?_
      rotate_left 1
      ·(intro w0 hSw); (try dsimp only at hSw); go_simp <;> with_reducible rfl
      (try simp only [Act.put, List.setIfInBounds_toArray, List.set_cons_zero, List.set_cons_succ])
      refine wpAnyH_ready (rs := [7, 8]) (by kernel_rfl) (by simp) ?_
      refine (AllReadyH.cons (o := { dst := none, op := Go.Op.store 37 (Go.Operand.tmp 23) (Go.Operand.tmp 19), type := 0, pos := "parts.go:28", after := #[{ on := 6, ground := Go.Ground.data }, { on := 2, ground := Go.Ground.data }, { on := 5, ground := Go.Ground.chain }, { on := 0, ground := Go.Ground.phase }, { on := 1, ground := Go.Ground.phase }, { on := 2, ground := Go.Ground.phase }, { on := 3, ground := Go.Ground.phase }, { on := 4, ground := Go.Ground.phase }, { on := 5, ground := Go.Ground.phase }, { on := 8, ground := Go.Ground.gcOnly Go.Departure.appendInPlace }], guard := none }) rfl (fun K hK => ?_) (AllReadyH.cons (o := { dst := none, op := Go.Op.store 35 (Go.Operand.tmp 5) (Go.Operand.tmp 22), type := 0, pos := "parts.go:28", after := #[{ on := 5, ground := Go.Ground.data }, { on := 5, ground := Go.Ground.chain }, { on := 7, ground := Go.Ground.textOnly Go.Departure.appendInPlace }, { on := 0, ground := Go.Ground.phase }, { on := 1, ground := Go.Ground.phase }, { on := 2, ground := Go.Ground.phase }, { on := 3, ground := Go.Ground.phase }, { on := 4, ground := Go.Ground.phase }, { on := 5, ground := Go.Ground.phase }, { on := 6, ground := Go.Ground.textOnly Go.Departure.appendInPlace }, { on := 7, ground := Go.Ground.textOnly Go.Departure.appendInPlace }], guard := none }) rfl (fun K hK => ?_) AllReadyH.nil))
      ·rw [if_pos (by rfl)]
       refine wp_put8 (.tmp 23) (.tmp 19) rfl g9 (L.length * 8) (h', A3, l'.length, cap3) (by with_reducible (first | rfl | go_simp)) (by rfl) hcs hfs ?_
       obtain ⟨W7, hW7⟩ : ∃ W7, (put8 w9 g9 (L.length * 8) (h', A3, l'.length, cap3)) = W7 := ⟨_, rfl⟩
       rw [hW7]
       have HW7 := Lib.hid hW7; clear hW7
       refine hK.out _ W7 (HXK.out W7 (fun _ _ => by rw [HW7.out])) (fun hHeld => ?_)
       clear hK K
       simp only [Act.put]
       refine wpAnyH_ready (rs := [8]) (by kernel_rfl) (by simp) ?_
       refine (AllReadyH.cons (o := { dst := none, op := Go.Op.store 35 (Go.Operand.tmp 5) (Go.Operand.tmp 22), type := 0, pos := "parts.go:28", after := #[{ on := 5, ground := Go.Ground.data }, { on := 5, ground := Go.Ground.chain }, { on := 7, ground := Go.Ground.textOnly Go.Departure.appendInPlace }, { on := 0, ground := Go.Ground.phase }, { on := 1, ground := Go.Ground.phase }, { on := 2, ground := Go.Ground.phase }, { on := 3, ground := Go.Ground.phase }, { on := 4, ground := Go.Ground.phase }, { on := 5, ground := Go.Ground.phase }, { on := 6, ground := Go.Ground.textOnly Go.Departure.appendInPlace }, { on := 7, ground := Go.Ground.textOnly Go.Departure.appendInPlace }], guard := none }) rfl (fun K hK => ?_) AllReadyH.nil)
       obtain ⟨bc, bf⟩ := boxed_cells (show Boxed W7 u1 35 (.slice A1 L.length cp1) from by rw [← HW7.out]; exact (put8_other hug _).trans hbu9)
       rw [if_pos (by rfl)]
       refine wp_putsl (.tmp 5) (.tmp 22) rfl u1 (some ⟨g9, 0, none⟩) (L.length + 1) cap9 (by with_reducible (first | rfl | go_simp)) (by rfl) bc bf ?_
       refine hK.out _ _ (HXK.out _ (fun k hk => (setc_other (W := W7) hk _).trans (by rw [HW7.out]))) (fun hHeld => ?_)
       clear hK K bc bf
       simp only [Act.put]
       refine wpAnyH_done (by kernel_rfl) ?_ _
       refine NoPanic.normal ?_
       clear hHeld
       have hF9 : ∀ k, k ≠ u1 → (W7.setCell ⟨u1, 0, none⟩ (.slice (some ⟨g9, 0, none⟩) (L.length + 1) cap9)).heap[k]? = (put8 w9 g9 (L.length * 8) (h', A3, l'.length, cap3)).heap[k]? := fun k hk => (setc_other (W := W7) hk _).trans (by rw [HW7.out])
       have hu9 : Boxed (W7.setCell ⟨u1, 0, none⟩ (.slice (some ⟨g9, 0, none⟩) (L.length + 1) cap9)) u1 35 (.slice (some ⟨g9, 0, none⟩) (L.length + 1) cap9) := ((show Boxed W7 u1 35 (.slice A1 L.length cp1) from by rw [← HW7.out]; exact (put8_other hug _).trans hbu9).set _)
       have hz9 : (W7.setCell ⟨u1, 0, none⟩ (.slice (some ⟨g9, 0, none⟩) (L.length + 1) cap9)).heap.size = w9.heap.size := by rw [setc_size, ← HW7.out, put8_size]
       have hpk9 := PK.grow (x := .mk h' l') HPb.out hle3 HX042.out HO9.out HG9.out hbg9 HL9.out hz9 hu9 hF9
       have hkp := round_keep (u := u1) (bt HB5.out HB042.out) HG9.out HL9.out hF9
       have hk1 := round_from (B := W0.heap.size) hkp (by have := (HB042.out).size; have := HG9.out.size; have := HB5.out.size; omega) (isC_of_cell (boxed_cells HPk.out.box).1)
       have hk2 := round_kp (n₀ := w.heap.size) (S := S) hS1 (bt HB5.out HB042.out) HG9.out (n := L.length) hF9 hz9 (by rw [setc_os, ← HW7.out, put8_os]) (by rw [setc_tape, ← HW7.out, put8_tape]) (by rw [setc_output, ← HW7.out, put8_output]) (by omega) (by omega) (by have := HPk.out.le; omega) hkp
       exact ⟨hk1, hk2, ⟨_, _, by rw [HA.out]; simpa using hpk9⟩, hk2.same ib _ hbi rfl (fun e => by have := (hSi ib).1 e; omega) (not_big1 _ _), hB.trans hk2.bel, Nat.le_trans hsW hk2.size⟩
      ·obtain ⟨bc, bf⟩ := boxed_cells hbu9
       rw [if_pos (by rfl)]
       refine wp_putsl (.tmp 5) (.tmp 22) rfl u1 (some ⟨g9, 0, none⟩) (L.length + 1) cap9 (by with_reducible (first | rfl | go_simp)) (by rfl) bc bf ?_
       obtain ⟨W8, hW8⟩ : ∃ W8, w9.setCell ⟨u1, 0, none⟩ (.slice (some ⟨g9, 0, none⟩) (L.length + 1) cap9) = W8 := ⟨_, rfl⟩
       rw [hW8]
       have HW8 := Lib.hid hW8; clear hW8
       refine hK.out _ W8 (by rw [← HW8.out]; exact (setc_other hBu _).trans hx9) (fun hHeld => ?_)
       clear hK K bc bf
       simp only [Act.put]
       refine wpAnyH_ready (rs := [7]) (by kernel_rfl) (by simp) ?_
       refine (AllReadyH.cons (o := { dst := none, op := Go.Op.store 37 (Go.Operand.tmp 23) (Go.Operand.tmp 19), type := 0, pos := "parts.go:28", after := #[{ on := 6, ground := Go.Ground.data }, { on := 2, ground := Go.Ground.data }, { on := 5, ground := Go.Ground.chain }, { on := 0, ground := Go.Ground.phase }, { on := 1, ground := Go.Ground.phase }, { on := 2, ground := Go.Ground.phase }, { on := 3, ground := Go.Ground.phase }, { on := 4, ground := Go.Ground.phase }, { on := 5, ground := Go.Ground.phase }, { on := 8, ground := Go.Ground.gcOnly Go.Departure.appendInPlace }], guard := none }) rfl (fun K hK => ?_) AllReadyH.nil)
       obtain ⟨cs9, hcs9⟩ := row_obj HO9.out
       rw [if_pos (by rfl)]
       refine wp_put8 (.tmp 23) (.tmp 19) rfl g9 (L.length * 8) (h', A3, l'.length, cap3) (by with_reducible (first | rfl | go_simp)) (by rfl) (fun i hi => by obtain ⟨u, hu⟩ := hcs i hi; exact ⟨u, (World.cell?_of_block (a := ⟨g9, L.length * 8 + i, none⟩) (by rw [← HW8.out]; exact setc_other (W := w9) (U := u1) (j := 0) hug.symm (.slice (some ⟨g9, 0, none⟩) (L.length + 1) cap9))).trans hu⟩) (fun o => (World.frozen?_of_block (a := ⟨g9, o, none⟩) (by rw [← HW8.out]; exact setc_other (W := w9) (U := u1) (j := 0) hug.symm (.slice (some ⟨g9, 0, none⟩) (L.length + 1) cap9))).trans (hfs o)) ?_
       refine hK.out _ _ (HXK.out (put8 W8 g9 (L.length * 8) (h', A3, l'.length, cap3)) (fun k hk => by rw [← HW8.out]; exact put8_comm hug hcs9 k hk)) (fun hHeld => ?_)
       clear hK K
       simp only [Act.put]
       refine wpAnyH_done (by kernel_rfl) ?_ _
       refine NoPanic.normal ?_
       clear hHeld
       have hF9 : ∀ k, k ≠ u1 → (put8 W8 g9 (L.length * 8) (h', A3, l'.length, cap3)).heap[k]? = (put8 w9 g9 (L.length * 8) (h', A3, l'.length, cap3)).heap[k]? := fun k hk => by rw [← HW8.out]; exact put8_comm hug hcs9 k hk
       have hu9 : Boxed (put8 W8 g9 (L.length * 8) (h', A3, l'.length, cap3)) u1 35 (.slice (some ⟨g9, 0, none⟩) (L.length + 1) cap9) := by rw [← HW8.out]; exact (put8_other hug _).trans (hbu9.set _)
       have hz9 : (put8 W8 g9 (L.length * 8) (h', A3, l'.length, cap3)).heap.size = w9.heap.size := by rw [put8_size, ← HW8.out, setc_size]
       have hpk9 := PK.grow (x := .mk h' l') HPb.out hle3 HX042.out HO9.out HG9.out hbg9 HL9.out hz9 hu9 hF9
       have hkp := round_keep (u := u1) (bt HB5.out HB042.out) HG9.out HL9.out hF9
       have hk1 := round_from (B := W0.heap.size) hkp (by have := (HB042.out).size; have := HG9.out.size; have := HB5.out.size; omega) (isC_of_cell (boxed_cells HPk.out.box).1)
       have hk2 := round_kp (n₀ := w.heap.size) (S := S) hS1 (bt HB5.out HB042.out) HG9.out (n := L.length) hF9 hz9 (by rw [put8_os, ← HW8.out, setc_os]) (by rw [put8_tape, ← HW8.out, setc_tape]) (by rw [put8_output, ← HW8.out, setc_output]) (by omega) (by omega) (by have := HPk.out.le; omega) hkp
       exact ⟨hk1, hk2, ⟨_, _, by rw [HA.out]; simpa using hpk9⟩, hk2.same ib _ hbi rfl (fun e => by have := (hSi ib).1 e; omega) (not_big1 _ _), hB.trans hk2.bel, Nat.le_trans hsW hk2.size⟩
    ·rw [if_pos (by rfl)]
     go_simp
     refine (HCp.out _ HD5.out).mono ?_
     rintro e w2 ⟨A3, cap3, rfl, hle3, hx3, hb⟩
     have HB2 := Lib.hid (bt HD5.out hb)
     have HX2 := Lib.hid (copy_op8 HPK.out HD5.out hx3)
     clear hb hx3
     go_wp2_with fail
     refine hK.out _ _ ((HB2.out.block Bx hBx5).trans hxB) (fun hHeld => ?_)
     clear hK K
     (try simp only [Act.put, List.setIfInBounds_toArray, List.set_cons_zero, List.set_cons_succ])
     refine wpAnyH_ready (rs := [0, 4]) (by kernel_rfl) (by simp) ?_
     refine (AllReadyH.cons (o := { dst := some 17, op := Go.Op.load 35 (Go.Operand.tmp 5), type := 35, pos := "parts.go:28", after := #[], guard := none }) rfl (fun K hK => ?_) (AllReadyH.cons (o := { dst := some 21, op := Go.Op.buildSlice 35 1 #[(0, Go.Operand.const (Go.Value.agg #[Go.Value.int Go.IntKind.i64 0, Go.Value.int Go.IntKind.i64 0, Go.Value.int Go.IntKind.i64 0, Go.Value.int Go.IntKind.i64 0, Go.Value.string { data := #[] }, Go.Value.string { data := #[] }, Go.Value.string { data := #[] }, Go.Value.slice none 0 0]))], type := 35, pos := "parts.go:28", after := #[], guard := none }) rfl (fun K hK => ?_) AllReadyH.nil))
     ·obtain ⟨bc, bf⟩ := boxed_cells (boxed_below HPK.out.box HB2.out)
      rw [if_pos (by rfl)]
      go_simp
      go_wp2_with fail
      refine hK.out _ _ ((HB2.out.block Bx hBx5).trans hxB) (fun hHeld => ?_)
      clear hK K bc bf
      (try simp only [Act.put, List.setIfInBounds_toArray, List.set_cons_zero, List.set_cons_succ])
      refine wpAnyH_take (i := 3) (oi := { dst := some 20, op := Go.Op.call { callee := Go.Callee.builtin Go.Builtin.len, args := #[Go.Operand.tmp 17], argTypes := #[35] }, type := 3, pos := "parts.go:28", after := #[{ on := 0, ground := Go.Ground.data }], guard := none }) (v := ?_) rfl (by kernel_rfl) (by kernel_rfl) (by kernel_rfl) (fun _ _ _ h => h) (Or.inl ⟨by rfl, ?_⟩) hHeld ?_
      rotate_left 1
      ·(intro w0 hSw); (try dsimp only at hSw); go_simp <;> with_reducible rfl
      (try simp only [Act.put, List.setIfInBounds_toArray, List.set_cons_zero, List.set_cons_succ])
      refine wpAnyH_ready (rs := [4]) (by kernel_rfl) (by simp) ?_
      refine (AllReadyH.cons (o := { dst := some 21, op := Go.Op.buildSlice 35 1 #[(0, Go.Operand.const (Go.Value.agg #[Go.Value.int Go.IntKind.i64 0, Go.Value.int Go.IntKind.i64 0, Go.Value.int Go.IntKind.i64 0, Go.Value.int Go.IntKind.i64 0, Go.Value.string { data := #[] }, Go.Value.string { data := #[] }, Go.Value.string { data := #[] }, Go.Value.slice none 0 0]))], type := 35, pos := "parts.go:28", after := #[], guard := none }) rfl (fun K hK => ?_) AllReadyH.nil)
      rw [if_pos (by rfl)]
      go_simp
      obtain ⟨w204, hw204⟩ : ∃ W', w2.alloc (.cells zcell.toArray 37) = W' := ⟨_, rfl⟩
      have HB204 := Lib.hid (by rw [← hw204]; exact bt HB2.out (ba _ _) : Below W5.heap.size W5 w204)
      have HX2z := Lib.hid (by rw [← hw204]; exact op8_next HX2.out (ba _ _) : XsB (Op8 W0.heap.size w204 (.slice A1 L.length cp1)) w204 l' A3)
      obtain ⟨z204, hz204⟩ : ∃ z, w2.heap.size = z := ⟨_, rfl⟩
      have HZ204 := Lib.hid (by rw [← hw204, ← hz204]; exact (MapKept.heap_alloc _ _).1 : w204.heap[z204]? = some (.cells zcell.toArray 37 (0, 0)))
      refine hK.out _ (w2.alloc (.cells zcell.toArray 37)) (by rw [hw204]; exact (HB204.out.block Bx hBx5).trans hxB) (fun hHeld => ?_)
      clear hK K
      (try simp only [Act.put, List.setIfInBounds_toArray, List.set_cons_zero, List.set_cons_succ])
      rw [hw204, hz204]
      clear hw204
      refine wpAnyH_ready (rs := [5]) (by kernel_rfl) (by simp) ?_
      refine (AllReadyH.cons (o := { dst := some 22, op := Go.Op.call { callee := Go.Callee.builtin Go.Builtin.append, args := #[Go.Operand.tmp 17, Go.Operand.tmp 21], argTypes := #[35, 35] }, type := 35, pos := "parts.go:28", after := #[{ on := 0, ground := Go.Ground.data }, { on := 4, ground := Go.Ground.data }, { on := 2, ground := Go.Ground.chain }, { on := 0, ground := Go.Ground.phase }, { on := 1, ground := Go.Ground.phase }, { on := 2, ground := Go.Ground.phase }, { on := 3, ground := Go.Ground.phase }, { on := 4, ground := Go.Ground.phase }], guard := none }) rfl (fun K hK => ?_) AllReadyH.nil)
      rw [if_pos (by rfl)]
      have hnw := zero_news HZ204.out
      have hpk := HPK.out.below HB204.out
      obtain ⟨g9, cap9, w9, hrun, hown9, hgr9, hbg9, hold9⟩ := append1 hpk.own (fun e => hpk.nil (List.eq_nil_of_length_eq_zero e)) hpk.le (by omega) _ hnw
      refine wp_append_run (P := Tryz.prog) (v := .slice A1 L.length cp1) (.tmp 17) (.tmp 21) 35 rfl (by with_reducible (first | rfl | go_simp)) (by with_reducible (first | rfl | go_simp)) hrun ?_
      have HO9 := Lib.hid hown9; have HG9 := Lib.hid hgr9; have HL9 := Lib.hid hold9; have HPb := Lib.hid hpk
      have hxl : (xcells q).length = L.length * 8 := by rw [xcells_len, hpk.kids.len]
      obtain ⟨hcs, hfs, hgl9⟩ := row_cells hown9 hxl
      have hug : u1 ≠ g9 := by have := hpk.ub; omega
      have hbu9 : Boxed w9 u1 35 (.slice A1 L.length cp1) := (hgr9.block u1 hpk.box.lt (fun e => hug (by cases e; rfl))).trans hpk.box
      have hxk : ∀ F : World, (∀ k, k ≠ u1 → F.heap[k]? = (put8 w9 g9 (L.length * 8) (h', A3, l'.length, cap3)).heap[k]?) → F.heap[Bx]? = some (xbox h' A' l'.length cap') := fun F hF => (PK.kept hgr9 hold9 hF Bx (Nat.lt_of_lt_of_le hBx5 HB204.out.size) (by omega) (fun o ho => by rw [(HB204.out.block Bx hBx5).trans hxB] at ho; cases ho; exact big_box _ _ _ _)).trans ((HB204.out.block Bx hBx5).trans hxB)
      have hx9 : w9.heap[Bx]? = some (xbox h' A' l'.length cap') := by
       have hne : Bx ≠ g9 := fun e => by
        obtain ⟨_, o, ho, hbo⟩ := hold9 (by rw [← e]; exact Nat.lt_of_lt_of_le hBx5 HB204.out.size)
        rw [← e, (HB204.out.block Bx hBx5).trans hxB] at ho; cases ho; exact big_box _ _ _ _ hbo
       exact (hgr9.block Bx (Nat.lt_of_lt_of_le hBx5 HB204.out.size) (fun e => hne (by cases e; rfl))).trans ((HB204.out.block Bx hBx5).trans hxB)
      have HXK := Lib.hid hxk
      clear hrun hown9 hgr9 hold9 hpk hnw hxk
      refine hK.out _ _ hx9 (fun hHeld => ?_)
      clear hK K
      (try simp only [Act.put, List.setIfInBounds_toArray, List.set_cons_zero, List.set_cons_succ])
      have hwL : IntKind.i64.wrap (L.length : Int) = (L.length : Int) := by rw [IntKind.wrap_i64]; omega
      have hwl1 : (L.length : Int) < (L.length : Int) + 1 := by omega
      refine wpAnyH_take (i := 6) (oi := { dst := some 23, op := Go.Op.indexAddr 35 (Go.Operand.tmp 22) (Go.Operand.tmp 20), type := 0, pos := "parts.go:28", after := #[{ on := 5, ground := Go.Ground.data }, { on := 3, ground := Go.Ground.data }, { on := 0, ground := Go.Ground.phase }, { on := 1, ground := Go.Ground.phase }, { on := 2, ground := Go.Ground.phase }, { on := 3, ground := Go.Ground.phase }, { on := 4, ground := Go.Ground.phase }, { on := 5, ground := Go.Ground.phase }, { on := 8, ground := Go.Ground.gcOnly Go.Departure.appendInPlace }], guard := none }) (v := ?_) rfl (by kernel_rfl) (by kernel_rfl) (by kernel_rfl) (fun _ _ _ h => h) (Or.inl ⟨by rfl, ?_⟩) hHeld ?_
      rotate_left 1
      ·(intro w0 hSw); (try dsimp only at hSw); go_simp <;> with_reducible rfl
      (try simp only [Act.put, List.setIfInBounds_toArray, List.set_cons_zero, List.set_cons_succ])
      refine wpAnyH_ready (rs := [7, 8]) (by kernel_rfl) (by simp) ?_
      refine (AllReadyH.cons (o := { dst := none, op := Go.Op.store 37 (Go.Operand.tmp 23) (Go.Operand.tmp 19), type := 0, pos := "parts.go:28", after := #[{ on := 6, ground := Go.Ground.data }, { on := 2, ground := Go.Ground.data }, { on := 5, ground := Go.Ground.chain }, { on := 0, ground := Go.Ground.phase }, { on := 1, ground := Go.Ground.phase }, { on := 2, ground := Go.Ground.phase }, { on := 3, ground := Go.Ground.phase }, { on := 4, ground := Go.Ground.phase }, { on := 5, ground := Go.Ground.phase }, { on := 8, ground := Go.Ground.gcOnly Go.Departure.appendInPlace }], guard := none }) rfl (fun K hK => ?_) (AllReadyH.cons (o := { dst := none, op := Go.Op.store 35 (Go.Operand.tmp 5) (Go.Operand.tmp 22), type := 0, pos := "parts.go:28", after := #[{ on := 5, ground := Go.Ground.data }, { on := 5, ground := Go.Ground.chain }, { on := 7, ground := Go.Ground.textOnly Go.Departure.appendInPlace }, { on := 0, ground := Go.Ground.phase }, { on := 1, ground := Go.Ground.phase }, { on := 2, ground := Go.Ground.phase }, { on := 3, ground := Go.Ground.phase }, { on := 4, ground := Go.Ground.phase }, { on := 5, ground := Go.Ground.phase }, { on := 6, ground := Go.Ground.textOnly Go.Departure.appendInPlace }, { on := 7, ground := Go.Ground.textOnly Go.Departure.appendInPlace }], guard := none }) rfl (fun K hK => ?_) AllReadyH.nil))
      ·rw [if_pos (by rfl)]
       refine wp_put8 (.tmp 23) (.tmp 19) rfl g9 (L.length * 8) (h', A3, l'.length, cap3) (by with_reducible (first | rfl | go_simp)) (by rfl) hcs hfs ?_
       obtain ⟨W7, hW7⟩ : ∃ W7, (put8 w9 g9 (L.length * 8) (h', A3, l'.length, cap3)) = W7 := ⟨_, rfl⟩
       rw [hW7]
       have HW7 := Lib.hid hW7; clear hW7
       refine hK.out _ W7 (HXK.out W7 (fun _ _ => by rw [HW7.out])) (fun hHeld => ?_)
       clear hK K
       simp only [Act.put]
       refine wpAnyH_ready (rs := [8]) (by kernel_rfl) (by simp) ?_
       refine (AllReadyH.cons (o := { dst := none, op := Go.Op.store 35 (Go.Operand.tmp 5) (Go.Operand.tmp 22), type := 0, pos := "parts.go:28", after := #[{ on := 5, ground := Go.Ground.data }, { on := 5, ground := Go.Ground.chain }, { on := 7, ground := Go.Ground.textOnly Go.Departure.appendInPlace }, { on := 0, ground := Go.Ground.phase }, { on := 1, ground := Go.Ground.phase }, { on := 2, ground := Go.Ground.phase }, { on := 3, ground := Go.Ground.phase }, { on := 4, ground := Go.Ground.phase }, { on := 5, ground := Go.Ground.phase }, { on := 6, ground := Go.Ground.textOnly Go.Departure.appendInPlace }, { on := 7, ground := Go.Ground.textOnly Go.Departure.appendInPlace }], guard := none }) rfl (fun K hK => ?_) AllReadyH.nil)
       obtain ⟨bc, bf⟩ := boxed_cells (show Boxed W7 u1 35 (.slice A1 L.length cp1) from by rw [← HW7.out]; exact (put8_other hug _).trans hbu9)
       rw [if_pos (by rfl)]
       refine wp_putsl (.tmp 5) (.tmp 22) rfl u1 (some ⟨g9, 0, none⟩) (L.length + 1) cap9 (by with_reducible (first | rfl | go_simp)) (by rfl) bc bf ?_
       refine hK.out _ _ (HXK.out _ (fun k hk => (setc_other (W := W7) hk _).trans (by rw [HW7.out]))) (fun hHeld => ?_)
       clear hK K bc bf
       simp only [Act.put]
       refine wpAnyH_done (by kernel_rfl) ?_ _
       refine NoPanic.normal ?_
       clear hHeld
       have hF9 : ∀ k, k ≠ u1 → (W7.setCell ⟨u1, 0, none⟩ (.slice (some ⟨g9, 0, none⟩) (L.length + 1) cap9)).heap[k]? = (put8 w9 g9 (L.length * 8) (h', A3, l'.length, cap3)).heap[k]? := fun k hk => (setc_other (W := W7) hk _).trans (by rw [HW7.out])
       have hu9 : Boxed (W7.setCell ⟨u1, 0, none⟩ (.slice (some ⟨g9, 0, none⟩) (L.length + 1) cap9)) u1 35 (.slice (some ⟨g9, 0, none⟩) (L.length + 1) cap9) := ((show Boxed W7 u1 35 (.slice A1 L.length cp1) from by rw [← HW7.out]; exact (put8_other hug _).trans hbu9).set _)
       have hz9 : (W7.setCell ⟨u1, 0, none⟩ (.slice (some ⟨g9, 0, none⟩) (L.length + 1) cap9)).heap.size = w9.heap.size := by rw [setc_size, ← HW7.out, put8_size]
       have hpk9 := PK.grow (x := .mk h' l') HPb.out hle3 HX2z.out HO9.out HG9.out hbg9 HL9.out hz9 hu9 hF9
       have hkp := round_keep (u := u1) (bt HB5.out HB204.out) HG9.out HL9.out hF9
       have hk1 := round_from (B := W0.heap.size) hkp (by have := (HB204.out).size; have := HG9.out.size; have := HB5.out.size; omega) (isC_of_cell (boxed_cells HPk.out.box).1)
       have hk2 := round_kp (n₀ := w.heap.size) (S := S) hS1 (bt HB5.out HB204.out) HG9.out (n := L.length) hF9 hz9 (by rw [setc_os, ← HW7.out, put8_os]) (by rw [setc_tape, ← HW7.out, put8_tape]) (by rw [setc_output, ← HW7.out, put8_output]) (by omega) (by omega) (by have := HPk.out.le; omega) hkp
       exact ⟨hk1, hk2, ⟨_, _, by rw [HA.out]; simpa using hpk9⟩, hk2.same ib _ hbi rfl (fun e => by have := (hSi ib).1 e; omega) (not_big1 _ _), hB.trans hk2.bel, Nat.le_trans hsW hk2.size⟩
      ·obtain ⟨bc, bf⟩ := boxed_cells hbu9
       rw [if_pos (by rfl)]
       refine wp_putsl (.tmp 5) (.tmp 22) rfl u1 (some ⟨g9, 0, none⟩) (L.length + 1) cap9 (by with_reducible (first | rfl | go_simp)) (by rfl) bc bf ?_
       obtain ⟨W8, hW8⟩ : ∃ W8, w9.setCell ⟨u1, 0, none⟩ (.slice (some ⟨g9, 0, none⟩) (L.length + 1) cap9) = W8 := ⟨_, rfl⟩
       rw [hW8]
       have HW8 := Lib.hid hW8; clear hW8
       refine hK.out _ W8 (by rw [← HW8.out]; exact (setc_other hBu _).trans hx9) (fun hHeld => ?_)
       clear hK K bc bf
       simp only [Act.put]
       refine wpAnyH_ready (rs := [7]) (by kernel_rfl) (by simp) ?_
       refine (AllReadyH.cons (o := { dst := none, op := Go.Op.store 37 (Go.Operand.tmp 23) (Go.Operand.tmp 19), type := 0, pos := "parts.go:28", after := #[{ on := 6, ground := Go.Ground.data }, { on := 2, ground := Go.Ground.data }, { on := 5, ground := Go.Ground.chain }, { on := 0, ground := Go.Ground.phase }, { on := 1, ground := Go.Ground.phase }, { on := 2, ground := Go.Ground.phase }, { on := 3, ground := Go.Ground.phase }, { on := 4, ground := Go.Ground.phase }, { on := 5, ground := Go.Ground.phase }, { on := 8, ground := Go.Ground.gcOnly Go.Departure.appendInPlace }], guard := none }) rfl (fun K hK => ?_) AllReadyH.nil)
       obtain ⟨cs9, hcs9⟩ := row_obj HO9.out
       rw [if_pos (by rfl)]
       refine wp_put8 (.tmp 23) (.tmp 19) rfl g9 (L.length * 8) (h', A3, l'.length, cap3) (by with_reducible (first | rfl | go_simp)) (by rfl) (fun i hi => by obtain ⟨u, hu⟩ := hcs i hi; exact ⟨u, (World.cell?_of_block (a := ⟨g9, L.length * 8 + i, none⟩) (by rw [← HW8.out]; exact setc_other (W := w9) (U := u1) (j := 0) hug.symm (.slice (some ⟨g9, 0, none⟩) (L.length + 1) cap9))).trans hu⟩) (fun o => (World.frozen?_of_block (a := ⟨g9, o, none⟩) (by rw [← HW8.out]; exact setc_other (W := w9) (U := u1) (j := 0) hug.symm (.slice (some ⟨g9, 0, none⟩) (L.length + 1) cap9))).trans (hfs o)) ?_
       refine hK.out _ _ (HXK.out (put8 W8 g9 (L.length * 8) (h', A3, l'.length, cap3)) (fun k hk => by rw [← HW8.out]; exact put8_comm hug hcs9 k hk)) (fun hHeld => ?_)
       clear hK K
       simp only [Act.put]
       refine wpAnyH_done (by kernel_rfl) ?_ _
       refine NoPanic.normal ?_
       clear hHeld
       have hF9 : ∀ k, k ≠ u1 → (put8 W8 g9 (L.length * 8) (h', A3, l'.length, cap3)).heap[k]? = (put8 w9 g9 (L.length * 8) (h', A3, l'.length, cap3)).heap[k]? := fun k hk => by rw [← HW8.out]; exact put8_comm hug hcs9 k hk
       have hu9 : Boxed (put8 W8 g9 (L.length * 8) (h', A3, l'.length, cap3)) u1 35 (.slice (some ⟨g9, 0, none⟩) (L.length + 1) cap9) := by rw [← HW8.out]; exact (put8_other hug _).trans (hbu9.set _)
       have hz9 : (put8 W8 g9 (L.length * 8) (h', A3, l'.length, cap3)).heap.size = w9.heap.size := by rw [put8_size, ← HW8.out, setc_size]
       have hpk9 := PK.grow (x := .mk h' l') HPb.out hle3 HX2z.out HO9.out HG9.out hbg9 HL9.out hz9 hu9 hF9
       have hkp := round_keep (u := u1) (bt HB5.out HB204.out) HG9.out HL9.out hF9
       have hk1 := round_from (B := W0.heap.size) hkp (by have := (HB204.out).size; have := HG9.out.size; have := HB5.out.size; omega) (isC_of_cell (boxed_cells HPk.out.box).1)
       have hk2 := round_kp (n₀ := w.heap.size) (S := S) hS1 (bt HB5.out HB204.out) HG9.out (n := L.length) hF9 hz9 (by rw [put8_os, ← HW8.out, setc_os]) (by rw [put8_tape, ← HW8.out, setc_tape]) (by rw [put8_output, ← HW8.out, setc_output]) (by omega) (by omega) (by have := HPk.out.le; omega) hkp
       exact ⟨hk1, hk2, ⟨_, _, by rw [HA.out]; simpa using hpk9⟩, hk2.same ib _ hbi rfl (fun e => by have := (hSi ib).1 e; omega) (not_big1 _ _), hB.trans hk2.bel, Nat.le_trans hsW hk2.size⟩
     ·rw [if_pos (by rfl)]
      go_simp
      obtain ⟨w24, hw24⟩ : ∃ W', w2.alloc (.cells zcell.toArray 37) = W' := ⟨_, rfl⟩
      have HB24 := Lib.hid (by rw [← hw24]; exact bt HB2.out (ba _ _) : Below W5.heap.size W5 w24)
      have HX2z := Lib.hid (by rw [← hw24]; exact op8_next HX2.out (ba _ _) : XsB (Op8 W0.heap.size w24 (.slice A1 L.length cp1)) w24 l' A3)
      obtain ⟨z24, hz24⟩ : ∃ z, w2.heap.size = z := ⟨_, rfl⟩
      have HZ24 := Lib.hid (by rw [← hw24, ← hz24]; exact (MapKept.heap_alloc _ _).1 : w24.heap[z24]? = some (.cells zcell.toArray 37 (0, 0)))
      refine hK.out _ (w2.alloc (.cells zcell.toArray 37)) (by rw [hw24]; exact (HB24.out.block Bx hBx5).trans hxB) (fun hHeld => ?_)
      clear hK K
      (try simp only [Act.put, List.setIfInBounds_toArray, List.set_cons_zero, List.set_cons_succ])
      rw [hw24, hz24]
      clear hw24
      refine wpAnyH_ready (rs := [0]) (by kernel_rfl) (by simp) ?_
      refine (AllReadyH.cons (o := { dst := some 17, op := Go.Op.load 35 (Go.Operand.tmp 5), type := 35, pos := "parts.go:28", after := #[], guard := none }) rfl (fun K hK => ?_) AllReadyH.nil)
      obtain ⟨bc, bf⟩ := boxed_cells (boxed_below HPK.out.box HB24.out)
      rw [if_pos (by rfl)]
      go_simp
      go_wp2_with fail
      refine hK.out _ _ ((HB24.out.block Bx hBx5).trans hxB) (fun hHeld => ?_)
      clear hK K bc bf
      (try simp only [Act.put, List.setIfInBounds_toArray, List.set_cons_zero, List.set_cons_succ])
      refine wpAnyH_take (i := 3) (oi := { dst := some 20, op := Go.Op.call { callee := Go.Callee.builtin Go.Builtin.len, args := #[Go.Operand.tmp 17], argTypes := #[35] }, type := 3, pos := "parts.go:28", after := #[{ on := 0, ground := Go.Ground.data }], guard := none }) (v := ?_) rfl (by kernel_rfl) (by kernel_rfl) (by kernel_rfl) (fun _ _ _ h => h) (Or.inl ⟨by rfl, ?_⟩) hHeld ?_
      rotate_left 1
      ·(intro w0 hSw); (try dsimp only at hSw); go_simp <;> with_reducible rfl
      (try simp only [Act.put, List.setIfInBounds_toArray, List.set_cons_zero, List.set_cons_succ])
      refine wpAnyH_ready (rs := [5]) (by kernel_rfl) (by simp) ?_
      refine (AllReadyH.cons (o := { dst := some 22, op := Go.Op.call { callee := Go.Callee.builtin Go.Builtin.append, args := #[Go.Operand.tmp 17, Go.Operand.tmp 21], argTypes := #[35, 35] }, type := 35, pos := "parts.go:28", after := #[{ on := 0, ground := Go.Ground.data }, { on := 4, ground := Go.Ground.data }, { on := 2, ground := Go.Ground.chain }, { on := 0, ground := Go.Ground.phase }, { on := 1, ground := Go.Ground.phase }, { on := 2, ground := Go.Ground.phase }, { on := 3, ground := Go.Ground.phase }, { on := 4, ground := Go.Ground.phase }], guard := none }) rfl (fun K hK => ?_) AllReadyH.nil)
      rw [if_pos (by rfl)]
      have hnw := zero_news HZ24.out
      have hpk := HPK.out.below HB24.out
      obtain ⟨g9, cap9, w9, hrun, hown9, hgr9, hbg9, hold9⟩ := append1 hpk.own (fun e => hpk.nil (List.eq_nil_of_length_eq_zero e)) hpk.le (by omega) _ hnw
      refine wp_append_run (P := Tryz.prog) (v := .slice A1 L.length cp1) (.tmp 17) (.tmp 21) 35 rfl (by with_reducible (first | rfl | go_simp)) (by with_reducible (first | rfl | go_simp)) hrun ?_
      have HO9 := Lib.hid hown9; have HG9 := Lib.hid hgr9; have HL9 := Lib.hid hold9; have HPb := Lib.hid hpk
      have hxl : (xcells q).length = L.length * 8 := by rw [xcells_len, hpk.kids.len]
      obtain ⟨hcs, hfs, hgl9⟩ := row_cells hown9 hxl
      have hug : u1 ≠ g9 := by have := hpk.ub; omega
      have hbu9 : Boxed w9 u1 35 (.slice A1 L.length cp1) := (hgr9.block u1 hpk.box.lt (fun e => hug (by cases e; rfl))).trans hpk.box
      have hxk : ∀ F : World, (∀ k, k ≠ u1 → F.heap[k]? = (put8 w9 g9 (L.length * 8) (h', A3, l'.length, cap3)).heap[k]?) → F.heap[Bx]? = some (xbox h' A' l'.length cap') := fun F hF => (PK.kept hgr9 hold9 hF Bx (Nat.lt_of_lt_of_le hBx5 HB24.out.size) (by omega) (fun o ho => by rw [(HB24.out.block Bx hBx5).trans hxB] at ho; cases ho; exact big_box _ _ _ _)).trans ((HB24.out.block Bx hBx5).trans hxB)
      have hx9 : w9.heap[Bx]? = some (xbox h' A' l'.length cap') := by
       have hne : Bx ≠ g9 := fun e => by
        obtain ⟨_, o, ho, hbo⟩ := hold9 (by rw [← e]; exact Nat.lt_of_lt_of_le hBx5 HB24.out.size)
        rw [← e, (HB24.out.block Bx hBx5).trans hxB] at ho; cases ho; exact big_box _ _ _ _ hbo
       exact (hgr9.block Bx (Nat.lt_of_lt_of_le hBx5 HB24.out.size) (fun e => hne (by cases e; rfl))).trans ((HB24.out.block Bx hBx5).trans hxB)
      have HXK := Lib.hid hxk
      clear hrun hown9 hgr9 hold9 hpk hnw hxk
      refine hK.out _ _ hx9 (fun hHeld => ?_)
      clear hK K
      (try simp only [Act.put, List.setIfInBounds_toArray, List.set_cons_zero, List.set_cons_succ])
      have hwL : IntKind.i64.wrap (L.length : Int) = (L.length : Int) := by rw [IntKind.wrap_i64]; omega
      have hwl1 : (L.length : Int) < (L.length : Int) + 1 := by omega
      refine wpAnyH_take (i := 6) (oi := { dst := some 23, op := Go.Op.indexAddr 35 (Go.Operand.tmp 22) (Go.Operand.tmp 20), type := 0, pos := "parts.go:28", after := #[{ on := 5, ground := Go.Ground.data }, { on := 3, ground := Go.Ground.data }, { on := 0, ground := Go.Ground.phase }, { on := 1, ground := Go.Ground.phase }, { on := 2, ground := Go.Ground.phase }, { on := 3, ground := Go.Ground.phase }, { on := 4, ground := Go.Ground.phase }, { on := 5, ground := Go.Ground.phase }, { on := 8, ground := Go.Ground.gcOnly Go.Departure.appendInPlace }], guard := none }) (v := ?_) rfl (by kernel_rfl) (by kernel_rfl) (by kernel_rfl) (fun _ _ _ h => h) (Or.inl ⟨by rfl, ?_⟩) hHeld ?_
      rotate_left 1
      ·(intro w0 hSw); (try dsimp only at hSw); go_simp <;> with_reducible rfl
      (try simp only [Act.put, List.setIfInBounds_toArray, List.set_cons_zero, List.set_cons_succ])
      refine wpAnyH_ready (rs := [7, 8]) (by kernel_rfl) (by simp) ?_
      refine (AllReadyH.cons (o := { dst := none, op := Go.Op.store 37 (Go.Operand.tmp 23) (Go.Operand.tmp 19), type := 0, pos := "parts.go:28", after := #[{ on := 6, ground := Go.Ground.data }, { on := 2, ground := Go.Ground.data }, { on := 5, ground := Go.Ground.chain }, { on := 0, ground := Go.Ground.phase }, { on := 1, ground := Go.Ground.phase }, { on := 2, ground := Go.Ground.phase }, { on := 3, ground := Go.Ground.phase }, { on := 4, ground := Go.Ground.phase }, { on := 5, ground := Go.Ground.phase }, { on := 8, ground := Go.Ground.gcOnly Go.Departure.appendInPlace }], guard := none }) rfl (fun K hK => ?_) (AllReadyH.cons (o := { dst := none, op := Go.Op.store 35 (Go.Operand.tmp 5) (Go.Operand.tmp 22), type := 0, pos := "parts.go:28", after := #[{ on := 5, ground := Go.Ground.data }, { on := 5, ground := Go.Ground.chain }, { on := 7, ground := Go.Ground.textOnly Go.Departure.appendInPlace }, { on := 0, ground := Go.Ground.phase }, { on := 1, ground := Go.Ground.phase }, { on := 2, ground := Go.Ground.phase }, { on := 3, ground := Go.Ground.phase }, { on := 4, ground := Go.Ground.phase }, { on := 5, ground := Go.Ground.phase }, { on := 6, ground := Go.Ground.textOnly Go.Departure.appendInPlace }, { on := 7, ground := Go.Ground.textOnly Go.Departure.appendInPlace }], guard := none }) rfl (fun K hK => ?_) AllReadyH.nil))
      ·rw [if_pos (by rfl)]
       refine wp_put8 (.tmp 23) (.tmp 19) rfl g9 (L.length * 8) (h', A3, l'.length, cap3) (by with_reducible (first | rfl | go_simp)) (by rfl) hcs hfs ?_
       obtain ⟨W7, hW7⟩ : ∃ W7, (put8 w9 g9 (L.length * 8) (h', A3, l'.length, cap3)) = W7 := ⟨_, rfl⟩
       rw [hW7]
       have HW7 := Lib.hid hW7; clear hW7
       refine hK.out _ W7 (HXK.out W7 (fun _ _ => by rw [HW7.out])) (fun hHeld => ?_)
       clear hK K
       simp only [Act.put]
       refine wpAnyH_ready (rs := [8]) (by kernel_rfl) (by simp) ?_
       refine (AllReadyH.cons (o := { dst := none, op := Go.Op.store 35 (Go.Operand.tmp 5) (Go.Operand.tmp 22), type := 0, pos := "parts.go:28", after := #[{ on := 5, ground := Go.Ground.data }, { on := 5, ground := Go.Ground.chain }, { on := 7, ground := Go.Ground.textOnly Go.Departure.appendInPlace }, { on := 0, ground := Go.Ground.phase }, { on := 1, ground := Go.Ground.phase }, { on := 2, ground := Go.Ground.phase }, { on := 3, ground := Go.Ground.phase }, { on := 4, ground := Go.Ground.phase }, { on := 5, ground := Go.Ground.phase }, { on := 6, ground := Go.Ground.textOnly Go.Departure.appendInPlace }, { on := 7, ground := Go.Ground.textOnly Go.Departure.appendInPlace }], guard := none }) rfl (fun K hK => ?_) AllReadyH.nil)
       obtain ⟨bc, bf⟩ := boxed_cells (show Boxed W7 u1 35 (.slice A1 L.length cp1) from by rw [← HW7.out]; exact (put8_other hug _).trans hbu9)
       rw [if_pos (by rfl)]
       refine wp_putsl (.tmp 5) (.tmp 22) rfl u1 (some ⟨g9, 0, none⟩) (L.length + 1) cap9 (by with_reducible (first | rfl | go_simp)) (by rfl) bc bf ?_
       refine hK.out _ _ (HXK.out _ (fun k hk => (setc_other (W := W7) hk _).trans (by rw [HW7.out]))) (fun hHeld => ?_)
       clear hK K bc bf
       simp only [Act.put]
       refine wpAnyH_done (by kernel_rfl) ?_ _
       refine NoPanic.normal ?_
       clear hHeld
       have hF9 : ∀ k, k ≠ u1 → (W7.setCell ⟨u1, 0, none⟩ (.slice (some ⟨g9, 0, none⟩) (L.length + 1) cap9)).heap[k]? = (put8 w9 g9 (L.length * 8) (h', A3, l'.length, cap3)).heap[k]? := fun k hk => (setc_other (W := W7) hk _).trans (by rw [HW7.out])
       have hu9 : Boxed (W7.setCell ⟨u1, 0, none⟩ (.slice (some ⟨g9, 0, none⟩) (L.length + 1) cap9)) u1 35 (.slice (some ⟨g9, 0, none⟩) (L.length + 1) cap9) := ((show Boxed W7 u1 35 (.slice A1 L.length cp1) from by rw [← HW7.out]; exact (put8_other hug _).trans hbu9).set _)
       have hz9 : (W7.setCell ⟨u1, 0, none⟩ (.slice (some ⟨g9, 0, none⟩) (L.length + 1) cap9)).heap.size = w9.heap.size := by rw [setc_size, ← HW7.out, put8_size]
       have hpk9 := PK.grow (x := .mk h' l') HPb.out hle3 HX2z.out HO9.out HG9.out hbg9 HL9.out hz9 hu9 hF9
       have hkp := round_keep (u := u1) (bt HB5.out HB24.out) HG9.out HL9.out hF9
       have hk1 := round_from (B := W0.heap.size) hkp (by have := (HB24.out).size; have := HG9.out.size; have := HB5.out.size; omega) (isC_of_cell (boxed_cells HPk.out.box).1)
       have hk2 := round_kp (n₀ := w.heap.size) (S := S) hS1 (bt HB5.out HB24.out) HG9.out (n := L.length) hF9 hz9 (by rw [setc_os, ← HW7.out, put8_os]) (by rw [setc_tape, ← HW7.out, put8_tape]) (by rw [setc_output, ← HW7.out, put8_output]) (by omega) (by omega) (by have := HPk.out.le; omega) hkp
       exact ⟨hk1, hk2, ⟨_, _, by rw [HA.out]; simpa using hpk9⟩, hk2.same ib _ hbi rfl (fun e => by have := (hSi ib).1 e; omega) (not_big1 _ _), hB.trans hk2.bel, Nat.le_trans hsW hk2.size⟩
      ·obtain ⟨bc, bf⟩ := boxed_cells hbu9
       rw [if_pos (by rfl)]
       refine wp_putsl (.tmp 5) (.tmp 22) rfl u1 (some ⟨g9, 0, none⟩) (L.length + 1) cap9 (by with_reducible (first | rfl | go_simp)) (by rfl) bc bf ?_
       obtain ⟨W8, hW8⟩ : ∃ W8, w9.setCell ⟨u1, 0, none⟩ (.slice (some ⟨g9, 0, none⟩) (L.length + 1) cap9) = W8 := ⟨_, rfl⟩
       rw [hW8]
       have HW8 := Lib.hid hW8; clear hW8
       refine hK.out _ W8 (by rw [← HW8.out]; exact (setc_other hBu _).trans hx9) (fun hHeld => ?_)
       clear hK K bc bf
       simp only [Act.put]
       refine wpAnyH_ready (rs := [7]) (by kernel_rfl) (by simp) ?_
       refine (AllReadyH.cons (o := { dst := none, op := Go.Op.store 37 (Go.Operand.tmp 23) (Go.Operand.tmp 19), type := 0, pos := "parts.go:28", after := #[{ on := 6, ground := Go.Ground.data }, { on := 2, ground := Go.Ground.data }, { on := 5, ground := Go.Ground.chain }, { on := 0, ground := Go.Ground.phase }, { on := 1, ground := Go.Ground.phase }, { on := 2, ground := Go.Ground.phase }, { on := 3, ground := Go.Ground.phase }, { on := 4, ground := Go.Ground.phase }, { on := 5, ground := Go.Ground.phase }, { on := 8, ground := Go.Ground.gcOnly Go.Departure.appendInPlace }], guard := none }) rfl (fun K hK => ?_) AllReadyH.nil)
       obtain ⟨cs9, hcs9⟩ := row_obj HO9.out
       rw [if_pos (by rfl)]
       refine wp_put8 (.tmp 23) (.tmp 19) rfl g9 (L.length * 8) (h', A3, l'.length, cap3) (by with_reducible (first | rfl | go_simp)) (by rfl) (fun i hi => by obtain ⟨u, hu⟩ := hcs i hi; exact ⟨u, (World.cell?_of_block (a := ⟨g9, L.length * 8 + i, none⟩) (by rw [← HW8.out]; exact setc_other (W := w9) (U := u1) (j := 0) hug.symm (.slice (some ⟨g9, 0, none⟩) (L.length + 1) cap9))).trans hu⟩) (fun o => (World.frozen?_of_block (a := ⟨g9, o, none⟩) (by rw [← HW8.out]; exact setc_other (W := w9) (U := u1) (j := 0) hug.symm (.slice (some ⟨g9, 0, none⟩) (L.length + 1) cap9))).trans (hfs o)) ?_
       refine hK.out _ _ (HXK.out (put8 W8 g9 (L.length * 8) (h', A3, l'.length, cap3)) (fun k hk => by rw [← HW8.out]; exact put8_comm hug hcs9 k hk)) (fun hHeld => ?_)
       clear hK K
       simp only [Act.put]
       refine wpAnyH_done (by kernel_rfl) ?_ _
       refine NoPanic.normal ?_
       clear hHeld
       have hF9 : ∀ k, k ≠ u1 → (put8 W8 g9 (L.length * 8) (h', A3, l'.length, cap3)).heap[k]? = (put8 w9 g9 (L.length * 8) (h', A3, l'.length, cap3)).heap[k]? := fun k hk => by rw [← HW8.out]; exact put8_comm hug hcs9 k hk
       have hu9 : Boxed (put8 W8 g9 (L.length * 8) (h', A3, l'.length, cap3)) u1 35 (.slice (some ⟨g9, 0, none⟩) (L.length + 1) cap9) := by rw [← HW8.out]; exact (put8_other hug _).trans (hbu9.set _)
       have hz9 : (put8 W8 g9 (L.length * 8) (h', A3, l'.length, cap3)).heap.size = w9.heap.size := by rw [put8_size, ← HW8.out, setc_size]
       have hpk9 := PK.grow (x := .mk h' l') HPb.out hle3 HX2z.out HO9.out HG9.out hbg9 HL9.out hz9 hu9 hF9
       have hkp := round_keep (u := u1) (bt HB5.out HB24.out) HG9.out HL9.out hF9
       have hk1 := round_from (B := W0.heap.size) hkp (by have := (HB24.out).size; have := HG9.out.size; have := HB5.out.size; omega) (isC_of_cell (boxed_cells HPk.out.box).1)
       have hk2 := round_kp (n₀ := w.heap.size) (S := S) hS1 (bt HB5.out HB24.out) HG9.out (n := L.length) hF9 hz9 (by rw [put8_os, ← HW8.out, setc_os]) (by rw [put8_tape, ← HW8.out, setc_tape]) (by rw [put8_output, ← HW8.out, setc_output]) (by omega) (by omega) (by have := HPk.out.le; omega) hkp
       exact ⟨hk1, hk2, ⟨_, _, by rw [HA.out]; simpa using hpk9⟩, hk2.same ib _ hbi rfl (fun e => by have := (hSi ib).1 e; omega) (not_big1 _ _), hB.trans hk2.bel, Nat.le_trans hsW hk2.size⟩
    ·rw [if_pos (by rfl)]
     go_simp
     obtain ⟨w4, hw4⟩ : ∃ W', W5.drew.alloc (.cells zcell.toArray 37) = W' := ⟨_, rfl⟩
     have HB4 := Lib.hid (by rw [← hw4]; exact bt HD5.out (ba _ _) : Below W5.heap.size W5 w4)
     obtain ⟨z4, hz4⟩ : ∃ z, W5.heap.size = z := ⟨_, rfl⟩
     have HZ4 := Lib.hid (by rw [← hw4, ← hz4]; exact (MapKept.heap_alloc _ _).1 : w4.heap[z4]? = some (.cells zcell.toArray 37 (0, 0)))
     refine hK.out _ (W5.drew.alloc (.cells zcell.toArray 37)) (by rw [hw4]; exact (HB4.out.block Bx hBx5).trans hxB) (fun hHeld => ?_)
     clear hK K
     (try simp only [Act.put, List.setIfInBounds_toArray, List.set_cons_zero, List.set_cons_succ])
     rw [hw4, hz4]
     clear hw4
     refine wpAnyH_ready (rs := [0, 2]) (by kernel_rfl) (by simp) ?_
     refine (AllReadyH.cons (o := { dst := some 17, op := Go.Op.load 35 (Go.Operand.tmp 5), type := 35, pos := "parts.go:28", after := #[], guard := none }) rfl (fun K hK => ?_) (AllReadyH.cons (o := { dst := some 19, op := Go.Op.call { callee := Go.Callee.value (Go.Operand.func 160), args := #[Go.Operand.tmp 18], argTypes := #[37] }, type := 37, pos := "parts.go:28", after := #[{ on := 1, ground := Go.Ground.data }], guard := none }) rfl (fun K hK => ?_) AllReadyH.nil))
     ·obtain ⟨bc, bf⟩ := boxed_cells (boxed_below HPK.out.box HB4.out)
      rw [if_pos (by rfl)]
      go_simp
      go_wp2_with fail
      refine hK.out _ _ ((HB4.out.block Bx hBx5).trans hxB) (fun hHeld => ?_)
      clear hK K bc bf
      (try simp only [Act.put, List.setIfInBounds_toArray, List.set_cons_zero, List.set_cons_succ])
      refine wpAnyH_take (i := 3) (oi := { dst := some 20, op := Go.Op.call { callee := Go.Callee.builtin Go.Builtin.len, args := #[Go.Operand.tmp 17], argTypes := #[35] }, type := 3, pos := "parts.go:28", after := #[{ on := 0, ground := Go.Ground.data }], guard := none }) (v := ?_) rfl (by kernel_rfl) (by kernel_rfl) (by kernel_rfl) (fun _ _ _ h => h) (Or.inl ⟨by rfl, ?_⟩) hHeld ?_
      rotate_left 1
      ·(intro w0 hSw); (try dsimp only at hSw); go_simp <;> with_reducible rfl
      (try simp only [Act.put, List.setIfInBounds_toArray, List.set_cons_zero, List.set_cons_succ])
      refine wpAnyH_ready (rs := [2]) (by kernel_rfl) (by simp) ?_
      refine (AllReadyH.cons (o := { dst := some 19, op := Go.Op.call { callee := Go.Callee.value (Go.Operand.func 160), args := #[Go.Operand.tmp 18], argTypes := #[37] }, type := 37, pos := "parts.go:28", after := #[{ on := 1, ground := Go.Ground.data }], guard := none }) rfl (fun K hK => ?_) AllReadyH.nil)
      rw [if_pos (by rfl)]
      go_simp
      refine (HCp.out _ HB4.out).mono ?_
      rintro e w402 ⟨A3, cap3, rfl, hle3, hx3, hb⟩
      have HB402 := Lib.hid (bt HB4.out hb)
      have HX402 := Lib.hid (copy_op8 HPK.out HB4.out hx3)
      have HZ4c := Lib.hid ((hb.block _ (Array.getElem?_eq_some_iff.1 HZ4.out).1).trans HZ4.out)
      clear hb hx3
      go_wp2_with fail
      refine hK.out _ _ ((HB402.out.block Bx hBx5).trans hxB) (fun hHeld => ?_)
      clear hK K
      (try simp only [Act.put, List.setIfInBounds_toArray, List.set_cons_zero, List.set_cons_succ])
      refine wpAnyH_ready (rs := [5]) (by kernel_rfl) (by simp) ?_
      refine (AllReadyH.cons (o := { dst := some 22, op := Go.Op.call { callee := Go.Callee.builtin Go.Builtin.append, args := #[Go.Operand.tmp 17, Go.Operand.tmp 21], argTypes := #[35, 35] }, type := 35, pos := "parts.go:28", after := #[{ on := 0, ground := Go.Ground.data }, { on := 4, ground := Go.Ground.data }, { on := 2, ground := Go.Ground.chain }, { on := 0, ground := Go.Ground.phase }, { on := 1, ground := Go.Ground.phase }, { on := 2, ground := Go.Ground.phase }, { on := 3, ground := Go.Ground.phase }, { on := 4, ground := Go.Ground.phase }], guard := none }) rfl (fun K hK => ?_) AllReadyH.nil)
      rw [if_pos (by rfl)]
      have hnw := zero_news HZ4c.out
      have hpk := HPK.out.below HB402.out
      obtain ⟨g9, cap9, w9, hrun, hown9, hgr9, hbg9, hold9⟩ := append1 hpk.own (fun e => hpk.nil (List.eq_nil_of_length_eq_zero e)) hpk.le (by omega) _ hnw
      refine wp_append_run (P := Tryz.prog) (v := .slice A1 L.length cp1) (.tmp 17) (.tmp 21) 35 rfl (by with_reducible (first | rfl | go_simp)) (by with_reducible (first | rfl | go_simp)) hrun ?_
      have HO9 := Lib.hid hown9; have HG9 := Lib.hid hgr9; have HL9 := Lib.hid hold9; have HPb := Lib.hid hpk
      have hxl : (xcells q).length = L.length * 8 := by rw [xcells_len, hpk.kids.len]
      obtain ⟨hcs, hfs, hgl9⟩ := row_cells hown9 hxl
      have hug : u1 ≠ g9 := by have := hpk.ub; omega
      have hbu9 : Boxed w9 u1 35 (.slice A1 L.length cp1) := (hgr9.block u1 hpk.box.lt (fun e => hug (by cases e; rfl))).trans hpk.box
      have hxk : ∀ F : World, (∀ k, k ≠ u1 → F.heap[k]? = (put8 w9 g9 (L.length * 8) (h', A3, l'.length, cap3)).heap[k]?) → F.heap[Bx]? = some (xbox h' A' l'.length cap') := fun F hF => (PK.kept hgr9 hold9 hF Bx (Nat.lt_of_lt_of_le hBx5 HB402.out.size) (by omega) (fun o ho => by rw [(HB402.out.block Bx hBx5).trans hxB] at ho; cases ho; exact big_box _ _ _ _)).trans ((HB402.out.block Bx hBx5).trans hxB)
      have hx9 : w9.heap[Bx]? = some (xbox h' A' l'.length cap') := by
       have hne : Bx ≠ g9 := fun e => by
        obtain ⟨_, o, ho, hbo⟩ := hold9 (by rw [← e]; exact Nat.lt_of_lt_of_le hBx5 HB402.out.size)
        rw [← e, (HB402.out.block Bx hBx5).trans hxB] at ho; cases ho; exact big_box _ _ _ _ hbo
       exact (hgr9.block Bx (Nat.lt_of_lt_of_le hBx5 HB402.out.size) (fun e => hne (by cases e; rfl))).trans ((HB402.out.block Bx hBx5).trans hxB)
      have HXK := Lib.hid hxk
      clear hrun hown9 hgr9 hold9 hpk hnw hxk
      refine hK.out _ _ hx9 (fun hHeld => ?_)
      clear hK K
      (try simp only [Act.put, List.setIfInBounds_toArray, List.set_cons_zero, List.set_cons_succ])
      have hwL : IntKind.i64.wrap (L.length : Int) = (L.length : Int) := by rw [IntKind.wrap_i64]; omega
      have hwl1 : (L.length : Int) < (L.length : Int) + 1 := by omega
      refine wpAnyH_take (i := 6) (oi := { dst := some 23, op := Go.Op.indexAddr 35 (Go.Operand.tmp 22) (Go.Operand.tmp 20), type := 0, pos := "parts.go:28", after := #[{ on := 5, ground := Go.Ground.data }, { on := 3, ground := Go.Ground.data }, { on := 0, ground := Go.Ground.phase }, { on := 1, ground := Go.Ground.phase }, { on := 2, ground := Go.Ground.phase }, { on := 3, ground := Go.Ground.phase }, { on := 4, ground := Go.Ground.phase }, { on := 5, ground := Go.Ground.phase }, { on := 8, ground := Go.Ground.gcOnly Go.Departure.appendInPlace }], guard := none }) (v := ?_) rfl (by kernel_rfl) (by kernel_rfl) (by kernel_rfl) (fun _ _ _ h => h) (Or.inl ⟨by rfl, ?_⟩) hHeld ?_
      rotate_left 1
      ·(intro w0 hSw); (try dsimp only at hSw); go_simp <;> with_reducible rfl
      (try simp only [Act.put, List.setIfInBounds_toArray, List.set_cons_zero, List.set_cons_succ])
      refine wpAnyH_ready (rs := [7, 8]) (by kernel_rfl) (by simp) ?_
      refine (AllReadyH.cons (o := { dst := none, op := Go.Op.store 37 (Go.Operand.tmp 23) (Go.Operand.tmp 19), type := 0, pos := "parts.go:28", after := #[{ on := 6, ground := Go.Ground.data }, { on := 2, ground := Go.Ground.data }, { on := 5, ground := Go.Ground.chain }, { on := 0, ground := Go.Ground.phase }, { on := 1, ground := Go.Ground.phase }, { on := 2, ground := Go.Ground.phase }, { on := 3, ground := Go.Ground.phase }, { on := 4, ground := Go.Ground.phase }, { on := 5, ground := Go.Ground.phase }, { on := 8, ground := Go.Ground.gcOnly Go.Departure.appendInPlace }], guard := none }) rfl (fun K hK => ?_) (AllReadyH.cons (o := { dst := none, op := Go.Op.store 35 (Go.Operand.tmp 5) (Go.Operand.tmp 22), type := 0, pos := "parts.go:28", after := #[{ on := 5, ground := Go.Ground.data }, { on := 5, ground := Go.Ground.chain }, { on := 7, ground := Go.Ground.textOnly Go.Departure.appendInPlace }, { on := 0, ground := Go.Ground.phase }, { on := 1, ground := Go.Ground.phase }, { on := 2, ground := Go.Ground.phase }, { on := 3, ground := Go.Ground.phase }, { on := 4, ground := Go.Ground.phase }, { on := 5, ground := Go.Ground.phase }, { on := 6, ground := Go.Ground.textOnly Go.Departure.appendInPlace }, { on := 7, ground := Go.Ground.textOnly Go.Departure.appendInPlace }], guard := none }) rfl (fun K hK => ?_) AllReadyH.nil))
      ·rw [if_pos (by rfl)]
       refine wp_put8 (.tmp 23) (.tmp 19) rfl g9 (L.length * 8) (h', A3, l'.length, cap3) (by with_reducible (first | rfl | go_simp)) (by rfl) hcs hfs ?_
       obtain ⟨W7, hW7⟩ : ∃ W7, (put8 w9 g9 (L.length * 8) (h', A3, l'.length, cap3)) = W7 := ⟨_, rfl⟩
       rw [hW7]
       have HW7 := Lib.hid hW7; clear hW7
       refine hK.out _ W7 (HXK.out W7 (fun _ _ => by rw [HW7.out])) (fun hHeld => ?_)
       clear hK K
       simp only [Act.put]
       refine wpAnyH_ready (rs := [8]) (by kernel_rfl) (by simp) ?_
       refine (AllReadyH.cons (o := { dst := none, op := Go.Op.store 35 (Go.Operand.tmp 5) (Go.Operand.tmp 22), type := 0, pos := "parts.go:28", after := #[{ on := 5, ground := Go.Ground.data }, { on := 5, ground := Go.Ground.chain }, { on := 7, ground := Go.Ground.textOnly Go.Departure.appendInPlace }, { on := 0, ground := Go.Ground.phase }, { on := 1, ground := Go.Ground.phase }, { on := 2, ground := Go.Ground.phase }, { on := 3, ground := Go.Ground.phase }, { on := 4, ground := Go.Ground.phase }, { on := 5, ground := Go.Ground.phase }, { on := 6, ground := Go.Ground.textOnly Go.Departure.appendInPlace }, { on := 7, ground := Go.Ground.textOnly Go.Departure.appendInPlace }], guard := none }) rfl (fun K hK => ?_) AllReadyH.nil)
       obtain ⟨bc, bf⟩ := boxed_cells (show Boxed W7 u1 35 (.slice A1 L.length cp1) from by rw [← HW7.out]; exact (put8_other hug _).trans hbu9)
       rw [if_pos (by rfl)]
       refine wp_putsl (.tmp 5) (.tmp 22) rfl u1 (some ⟨g9, 0, none⟩) (L.length + 1) cap9 (by with_reducible (first | rfl | go_simp)) (by rfl) bc bf ?_
       refine hK.out _ _ (HXK.out _ (fun k hk => (setc_other (W := W7) hk _).trans (by rw [HW7.out]))) (fun hHeld => ?_)
       clear hK K bc bf
       simp only [Act.put]
       refine wpAnyH_done (by kernel_rfl) ?_ _
       refine NoPanic.normal ?_
       clear hHeld
       have hF9 : ∀ k, k ≠ u1 → (W7.setCell ⟨u1, 0, none⟩ (.slice (some ⟨g9, 0, none⟩) (L.length + 1) cap9)).heap[k]? = (put8 w9 g9 (L.length * 8) (h', A3, l'.length, cap3)).heap[k]? := fun k hk => (setc_other (W := W7) hk _).trans (by rw [HW7.out])
       have hu9 : Boxed (W7.setCell ⟨u1, 0, none⟩ (.slice (some ⟨g9, 0, none⟩) (L.length + 1) cap9)) u1 35 (.slice (some ⟨g9, 0, none⟩) (L.length + 1) cap9) := ((show Boxed W7 u1 35 (.slice A1 L.length cp1) from by rw [← HW7.out]; exact (put8_other hug _).trans hbu9).set _)
       have hz9 : (W7.setCell ⟨u1, 0, none⟩ (.slice (some ⟨g9, 0, none⟩) (L.length + 1) cap9)).heap.size = w9.heap.size := by rw [setc_size, ← HW7.out, put8_size]
       have hpk9 := PK.grow (x := .mk h' l') HPb.out hle3 HX402.out HO9.out HG9.out hbg9 HL9.out hz9 hu9 hF9
       have hkp := round_keep (u := u1) (bt HB5.out HB402.out) HG9.out HL9.out hF9
       have hk1 := round_from (B := W0.heap.size) hkp (by have := (HB402.out).size; have := HG9.out.size; have := HB5.out.size; omega) (isC_of_cell (boxed_cells HPk.out.box).1)
       have hk2 := round_kp (n₀ := w.heap.size) (S := S) hS1 (bt HB5.out HB402.out) HG9.out (n := L.length) hF9 hz9 (by rw [setc_os, ← HW7.out, put8_os]) (by rw [setc_tape, ← HW7.out, put8_tape]) (by rw [setc_output, ← HW7.out, put8_output]) (by omega) (by omega) (by have := HPk.out.le; omega) hkp
       exact ⟨hk1, hk2, ⟨_, _, by rw [HA.out]; simpa using hpk9⟩, hk2.same ib _ hbi rfl (fun e => by have := (hSi ib).1 e; omega) (not_big1 _ _), hB.trans hk2.bel, Nat.le_trans hsW hk2.size⟩
      ·obtain ⟨bc, bf⟩ := boxed_cells hbu9
       rw [if_pos (by rfl)]
       refine wp_putsl (.tmp 5) (.tmp 22) rfl u1 (some ⟨g9, 0, none⟩) (L.length + 1) cap9 (by with_reducible (first | rfl | go_simp)) (by rfl) bc bf ?_
       obtain ⟨W8, hW8⟩ : ∃ W8, w9.setCell ⟨u1, 0, none⟩ (.slice (some ⟨g9, 0, none⟩) (L.length + 1) cap9) = W8 := ⟨_, rfl⟩
       rw [hW8]
       have HW8 := Lib.hid hW8; clear hW8
       refine hK.out _ W8 (by rw [← HW8.out]; exact (setc_other hBu _).trans hx9) (fun hHeld => ?_)
       clear hK K bc bf
       simp only [Act.put]
       refine wpAnyH_ready (rs := [7]) (by kernel_rfl) (by simp) ?_
       refine (AllReadyH.cons (o := { dst := none, op := Go.Op.store 37 (Go.Operand.tmp 23) (Go.Operand.tmp 19), type := 0, pos := "parts.go:28", after := #[{ on := 6, ground := Go.Ground.data }, { on := 2, ground := Go.Ground.data }, { on := 5, ground := Go.Ground.chain }, { on := 0, ground := Go.Ground.phase }, { on := 1, ground := Go.Ground.phase }, { on := 2, ground := Go.Ground.phase }, { on := 3, ground := Go.Ground.phase }, { on := 4, ground := Go.Ground.phase }, { on := 5, ground := Go.Ground.phase }, { on := 8, ground := Go.Ground.gcOnly Go.Departure.appendInPlace }], guard := none }) rfl (fun K hK => ?_) AllReadyH.nil)
       obtain ⟨cs9, hcs9⟩ := row_obj HO9.out
       rw [if_pos (by rfl)]
       refine wp_put8 (.tmp 23) (.tmp 19) rfl g9 (L.length * 8) (h', A3, l'.length, cap3) (by with_reducible (first | rfl | go_simp)) (by rfl) (fun i hi => by obtain ⟨u, hu⟩ := hcs i hi; exact ⟨u, (World.cell?_of_block (a := ⟨g9, L.length * 8 + i, none⟩) (by rw [← HW8.out]; exact setc_other (W := w9) (U := u1) (j := 0) hug.symm (.slice (some ⟨g9, 0, none⟩) (L.length + 1) cap9))).trans hu⟩) (fun o => (World.frozen?_of_block (a := ⟨g9, o, none⟩) (by rw [← HW8.out]; exact setc_other (W := w9) (U := u1) (j := 0) hug.symm (.slice (some ⟨g9, 0, none⟩) (L.length + 1) cap9))).trans (hfs o)) ?_
       refine hK.out _ _ (HXK.out (put8 W8 g9 (L.length * 8) (h', A3, l'.length, cap3)) (fun k hk => by rw [← HW8.out]; exact put8_comm hug hcs9 k hk)) (fun hHeld => ?_)
       clear hK K
       simp only [Act.put]
       refine wpAnyH_done (by kernel_rfl) ?_ _
       refine NoPanic.normal ?_
       clear hHeld
       have hF9 : ∀ k, k ≠ u1 → (put8 W8 g9 (L.length * 8) (h', A3, l'.length, cap3)).heap[k]? = (put8 w9 g9 (L.length * 8) (h', A3, l'.length, cap3)).heap[k]? := fun k hk => by rw [← HW8.out]; exact put8_comm hug hcs9 k hk
       have hu9 : Boxed (put8 W8 g9 (L.length * 8) (h', A3, l'.length, cap3)) u1 35 (.slice (some ⟨g9, 0, none⟩) (L.length + 1) cap9) := by rw [← HW8.out]; exact (put8_other hug _).trans (hbu9.set _)
       have hz9 : (put8 W8 g9 (L.length * 8) (h', A3, l'.length, cap3)).heap.size = w9.heap.size := by rw [put8_size, ← HW8.out, setc_size]
       have hpk9 := PK.grow (x := .mk h' l') HPb.out hle3 HX402.out HO9.out HG9.out hbg9 HL9.out hz9 hu9 hF9
       have hkp := round_keep (u := u1) (bt HB5.out HB402.out) HG9.out HL9.out hF9
       have hk1 := round_from (B := W0.heap.size) hkp (by have := (HB402.out).size; have := HG9.out.size; have := HB5.out.size; omega) (isC_of_cell (boxed_cells HPk.out.box).1)
       have hk2 := round_kp (n₀ := w.heap.size) (S := S) hS1 (bt HB5.out HB402.out) HG9.out (n := L.length) hF9 hz9 (by rw [put8_os, ← HW8.out, setc_os]) (by rw [put8_tape, ← HW8.out, setc_tape]) (by rw [put8_output, ← HW8.out, setc_output]) (by omega) (by omega) (by have := HPk.out.le; omega) hkp
       exact ⟨hk1, hk2, ⟨_, _, by rw [HA.out]; simpa using hpk9⟩, hk2.same ib _ hbi rfl (fun e => by have := (hSi ib).1 e; omega) (not_big1 _ _), hB.trans hk2.bel, Nat.le_trans hsW hk2.size⟩
     ·rw [if_pos (by rfl)]
      go_simp
      refine (HCp.out _ HB4.out).mono ?_
      rintro e w42 ⟨A3, cap3, rfl, hle3, hx3, hb⟩
      have HB42 := Lib.hid (bt HB4.out hb)
      have HX42 := Lib.hid (copy_op8 HPK.out HB4.out hx3)
      have HZ4c := Lib.hid ((hb.block _ (Array.getElem?_eq_some_iff.1 HZ4.out).1).trans HZ4.out)
      clear hb hx3
      go_wp2_with fail
      refine hK.out _ _ ((HB42.out.block Bx hBx5).trans hxB) (fun hHeld => ?_)
      clear hK K
      (try simp only [Act.put, List.setIfInBounds_toArray, List.set_cons_zero, List.set_cons_succ])
      refine wpAnyH_ready (rs := [0]) (by kernel_rfl) (by simp) ?_
      refine (AllReadyH.cons (o := { dst := some 17, op := Go.Op.load 35 (Go.Operand.tmp 5), type := 35, pos := "parts.go:28", after := #[], guard := none }) rfl (fun K hK => ?_) AllReadyH.nil)
      obtain ⟨bc, bf⟩ := boxed_cells (boxed_below HPK.out.box HB42.out)
      rw [if_pos (by rfl)]
      go_simp
      go_wp2_with fail
      refine hK.out _ _ ((HB42.out.block Bx hBx5).trans hxB) (fun hHeld => ?_)
      clear hK K bc bf
      (try simp only [Act.put, List.setIfInBounds_toArray, List.set_cons_zero, List.set_cons_succ])
      refine wpAnyH_take (i := 3) (oi := { dst := some 20, op := Go.Op.call { callee := Go.Callee.builtin Go.Builtin.len, args := #[Go.Operand.tmp 17], argTypes := #[35] }, type := 3, pos := "parts.go:28", after := #[{ on := 0, ground := Go.Ground.data }], guard := none }) (v := ?_) rfl (by kernel_rfl) (by kernel_rfl) (by kernel_rfl) (fun _ _ _ h => h) (Or.inl ⟨by rfl, ?_⟩) hHeld ?_
      rotate_left 1
      ·(intro w0 hSw); (try dsimp only at hSw); go_simp <;> with_reducible rfl
      (try simp only [Act.put, List.setIfInBounds_toArray, List.set_cons_zero, List.set_cons_succ])
      refine wpAnyH_ready (rs := [5]) (by kernel_rfl) (by simp) ?_
      refine (AllReadyH.cons (o := { dst := some 22, op := Go.Op.call { callee := Go.Callee.builtin Go.Builtin.append, args := #[Go.Operand.tmp 17, Go.Operand.tmp 21], argTypes := #[35, 35] }, type := 35, pos := "parts.go:28", after := #[{ on := 0, ground := Go.Ground.data }, { on := 4, ground := Go.Ground.data }, { on := 2, ground := Go.Ground.chain }, { on := 0, ground := Go.Ground.phase }, { on := 1, ground := Go.Ground.phase }, { on := 2, ground := Go.Ground.phase }, { on := 3, ground := Go.Ground.phase }, { on := 4, ground := Go.Ground.phase }], guard := none }) rfl (fun K hK => ?_) AllReadyH.nil)
      rw [if_pos (by rfl)]
      have hnw := zero_news HZ4c.out
      have hpk := HPK.out.below HB42.out
      obtain ⟨g9, cap9, w9, hrun, hown9, hgr9, hbg9, hold9⟩ := append1 hpk.own (fun e => hpk.nil (List.eq_nil_of_length_eq_zero e)) hpk.le (by omega) _ hnw
      refine wp_append_run (P := Tryz.prog) (v := .slice A1 L.length cp1) (.tmp 17) (.tmp 21) 35 rfl (by with_reducible (first | rfl | go_simp)) (by with_reducible (first | rfl | go_simp)) hrun ?_
      have HO9 := Lib.hid hown9; have HG9 := Lib.hid hgr9; have HL9 := Lib.hid hold9; have HPb := Lib.hid hpk
      have hxl : (xcells q).length = L.length * 8 := by rw [xcells_len, hpk.kids.len]
      obtain ⟨hcs, hfs, hgl9⟩ := row_cells hown9 hxl
      have hug : u1 ≠ g9 := by have := hpk.ub; omega
      have hbu9 : Boxed w9 u1 35 (.slice A1 L.length cp1) := (hgr9.block u1 hpk.box.lt (fun e => hug (by cases e; rfl))).trans hpk.box
      have hxk : ∀ F : World, (∀ k, k ≠ u1 → F.heap[k]? = (put8 w9 g9 (L.length * 8) (h', A3, l'.length, cap3)).heap[k]?) → F.heap[Bx]? = some (xbox h' A' l'.length cap') := fun F hF => (PK.kept hgr9 hold9 hF Bx (Nat.lt_of_lt_of_le hBx5 HB42.out.size) (by omega) (fun o ho => by rw [(HB42.out.block Bx hBx5).trans hxB] at ho; cases ho; exact big_box _ _ _ _)).trans ((HB42.out.block Bx hBx5).trans hxB)
      have hx9 : w9.heap[Bx]? = some (xbox h' A' l'.length cap') := by
       have hne : Bx ≠ g9 := fun e => by
        obtain ⟨_, o, ho, hbo⟩ := hold9 (by rw [← e]; exact Nat.lt_of_lt_of_le hBx5 HB42.out.size)
        rw [← e, (HB42.out.block Bx hBx5).trans hxB] at ho; cases ho; exact big_box _ _ _ _ hbo
       exact (hgr9.block Bx (Nat.lt_of_lt_of_le hBx5 HB42.out.size) (fun e => hne (by cases e; rfl))).trans ((HB42.out.block Bx hBx5).trans hxB)
      have HXK := Lib.hid hxk
      clear hrun hown9 hgr9 hold9 hpk hnw hxk
      refine hK.out _ _ hx9 (fun hHeld => ?_)
      clear hK K
      (try simp only [Act.put, List.setIfInBounds_toArray, List.set_cons_zero, List.set_cons_succ])
      have hwL : IntKind.i64.wrap (L.length : Int) = (L.length : Int) := by rw [IntKind.wrap_i64]; omega
      have hwl1 : (L.length : Int) < (L.length : Int) + 1 := by omega
      refine wpAnyH_take (i := 6) (oi := { dst := some 23, op := Go.Op.indexAddr 35 (Go.Operand.tmp 22) (Go.Operand.tmp 20), type := 0, pos := "parts.go:28", after := #[{ on := 5, ground := Go.Ground.data }, { on := 3, ground := Go.Ground.data }, { on := 0, ground := Go.Ground.phase }, { on := 1, ground := Go.Ground.phase }, { on := 2, ground := Go.Ground.phase }, { on := 3, ground := Go.Ground.phase }, { on := 4, ground := Go.Ground.phase }, { on := 5, ground := Go.Ground.phase }, { on := 8, ground := Go.Ground.gcOnly Go.Departure.appendInPlace }], guard := none }) (v := ?_) rfl (by kernel_rfl) (by kernel_rfl) (by kernel_rfl) (fun _ _ _ h => h) (Or.inl ⟨by rfl, ?_⟩) hHeld ?_
      rotate_left 1
      ·(intro w0 hSw); (try dsimp only at hSw); go_simp <;> with_reducible rfl
      (try simp only [Act.put, List.setIfInBounds_toArray, List.set_cons_zero, List.set_cons_succ])
      refine wpAnyH_ready (rs := [7, 8]) (by kernel_rfl) (by simp) ?_
      refine (AllReadyH.cons (o := { dst := none, op := Go.Op.store 37 (Go.Operand.tmp 23) (Go.Operand.tmp 19), type := 0, pos := "parts.go:28", after := #[{ on := 6, ground := Go.Ground.data }, { on := 2, ground := Go.Ground.data }, { on := 5, ground := Go.Ground.chain }, { on := 0, ground := Go.Ground.phase }, { on := 1, ground := Go.Ground.phase }, { on := 2, ground := Go.Ground.phase }, { on := 3, ground := Go.Ground.phase }, { on := 4, ground := Go.Ground.phase }, { on := 5, ground := Go.Ground.phase }, { on := 8, ground := Go.Ground.gcOnly Go.Departure.appendInPlace }], guard := none }) rfl (fun K hK => ?_) (AllReadyH.cons (o := { dst := none, op := Go.Op.store 35 (Go.Operand.tmp 5) (Go.Operand.tmp 22), type := 0, pos := "parts.go:28", after := #[{ on := 5, ground := Go.Ground.data }, { on := 5, ground := Go.Ground.chain }, { on := 7, ground := Go.Ground.textOnly Go.Departure.appendInPlace }, { on := 0, ground := Go.Ground.phase }, { on := 1, ground := Go.Ground.phase }, { on := 2, ground := Go.Ground.phase }, { on := 3, ground := Go.Ground.phase }, { on := 4, ground := Go.Ground.phase }, { on := 5, ground := Go.Ground.phase }, { on := 6, ground := Go.Ground.textOnly Go.Departure.appendInPlace }, { on := 7, ground := Go.Ground.textOnly Go.Departure.appendInPlace }], guard := none }) rfl (fun K hK => ?_) AllReadyH.nil))
      ·rw [if_pos (by rfl)]
       refine wp_put8 (.tmp 23) (.tmp 19) rfl g9 (L.length * 8) (h', A3, l'.length, cap3) (by with_reducible (first | rfl | go_simp)) (by rfl) hcs hfs ?_
       obtain ⟨W7, hW7⟩ : ∃ W7, (put8 w9 g9 (L.length * 8) (h', A3, l'.length, cap3)) = W7 := ⟨_, rfl⟩
       rw [hW7]
       have HW7 := Lib.hid hW7; clear hW7
       refine hK.out _ W7 (HXK.out W7 (fun _ _ => by rw [HW7.out])) (fun hHeld => ?_)
       clear hK K
       simp only [Act.put]
       refine wpAnyH_ready (rs := [8]) (by kernel_rfl) (by simp) ?_
       refine (AllReadyH.cons (o := { dst := none, op := Go.Op.store 35 (Go.Operand.tmp 5) (Go.Operand.tmp 22), type := 0, pos := "parts.go:28", after := #[{ on := 5, ground := Go.Ground.data }, { on := 5, ground := Go.Ground.chain }, { on := 7, ground := Go.Ground.textOnly Go.Departure.appendInPlace }, { on := 0, ground := Go.Ground.phase }, { on := 1, ground := Go.Ground.phase }, { on := 2, ground := Go.Ground.phase }, { on := 3, ground := Go.Ground.phase }, { on := 4, ground := Go.Ground.phase }, { on := 5, ground := Go.Ground.phase }, { on := 6, ground := Go.Ground.textOnly Go.Departure.appendInPlace }, { on := 7, ground := Go.Ground.textOnly Go.Departure.appendInPlace }], guard := none }) rfl (fun K hK => ?_) AllReadyH.nil)
       obtain ⟨bc, bf⟩ := boxed_cells (show Boxed W7 u1 35 (.slice A1 L.length cp1) from by rw [← HW7.out]; exact (put8_other hug _).trans hbu9)
       rw [if_pos (by rfl)]
       refine wp_putsl (.tmp 5) (.tmp 22) rfl u1 (some ⟨g9, 0, none⟩) (L.length + 1) cap9 (by with_reducible (first | rfl | go_simp)) (by rfl) bc bf ?_
       refine hK.out _ _ (HXK.out _ (fun k hk => (setc_other (W := W7) hk _).trans (by rw [HW7.out]))) (fun hHeld => ?_)
       clear hK K bc bf
       simp only [Act.put]
       refine wpAnyH_done (by kernel_rfl) ?_ _
       refine NoPanic.normal ?_
       clear hHeld
       have hF9 : ∀ k, k ≠ u1 → (W7.setCell ⟨u1, 0, none⟩ (.slice (some ⟨g9, 0, none⟩) (L.length + 1) cap9)).heap[k]? = (put8 w9 g9 (L.length * 8) (h', A3, l'.length, cap3)).heap[k]? := fun k hk => (setc_other (W := W7) hk _).trans (by rw [HW7.out])
       have hu9 : Boxed (W7.setCell ⟨u1, 0, none⟩ (.slice (some ⟨g9, 0, none⟩) (L.length + 1) cap9)) u1 35 (.slice (some ⟨g9, 0, none⟩) (L.length + 1) cap9) := ((show Boxed W7 u1 35 (.slice A1 L.length cp1) from by rw [← HW7.out]; exact (put8_other hug _).trans hbu9).set _)
       have hz9 : (W7.setCell ⟨u1, 0, none⟩ (.slice (some ⟨g9, 0, none⟩) (L.length + 1) cap9)).heap.size = w9.heap.size := by rw [setc_size, ← HW7.out, put8_size]
       have hpk9 := PK.grow (x := .mk h' l') HPb.out hle3 HX42.out HO9.out HG9.out hbg9 HL9.out hz9 hu9 hF9
       have hkp := round_keep (u := u1) (bt HB5.out HB42.out) HG9.out HL9.out hF9
       have hk1 := round_from (B := W0.heap.size) hkp (by have := (HB42.out).size; have := HG9.out.size; have := HB5.out.size; omega) (isC_of_cell (boxed_cells HPk.out.box).1)
       have hk2 := round_kp (n₀ := w.heap.size) (S := S) hS1 (bt HB5.out HB42.out) HG9.out (n := L.length) hF9 hz9 (by rw [setc_os, ← HW7.out, put8_os]) (by rw [setc_tape, ← HW7.out, put8_tape]) (by rw [setc_output, ← HW7.out, put8_output]) (by omega) (by omega) (by have := HPk.out.le; omega) hkp
       exact ⟨hk1, hk2, ⟨_, _, by rw [HA.out]; simpa using hpk9⟩, hk2.same ib _ hbi rfl (fun e => by have := (hSi ib).1 e; omega) (not_big1 _ _), hB.trans hk2.bel, Nat.le_trans hsW hk2.size⟩
      ·obtain ⟨bc, bf⟩ := boxed_cells hbu9
       rw [if_pos (by rfl)]
       refine wp_putsl (.tmp 5) (.tmp 22) rfl u1 (some ⟨g9, 0, none⟩) (L.length + 1) cap9 (by with_reducible (first | rfl | go_simp)) (by rfl) bc bf ?_
       obtain ⟨W8, hW8⟩ : ∃ W8, w9.setCell ⟨u1, 0, none⟩ (.slice (some ⟨g9, 0, none⟩) (L.length + 1) cap9) = W8 := ⟨_, rfl⟩
       rw [hW8]
       have HW8 := Lib.hid hW8; clear hW8
       refine hK.out _ W8 (by rw [← HW8.out]; exact (setc_other hBu _).trans hx9) (fun hHeld => ?_)
       clear hK K bc bf
       simp only [Act.put]
       refine wpAnyH_ready (rs := [7]) (by kernel_rfl) (by simp) ?_
       refine (AllReadyH.cons (o := { dst := none, op := Go.Op.store 37 (Go.Operand.tmp 23) (Go.Operand.tmp 19), type := 0, pos := "parts.go:28", after := #[{ on := 6, ground := Go.Ground.data }, { on := 2, ground := Go.Ground.data }, { on := 5, ground := Go.Ground.chain }, { on := 0, ground := Go.Ground.phase }, { on := 1, ground := Go.Ground.phase }, { on := 2, ground := Go.Ground.phase }, { on := 3, ground := Go.Ground.phase }, { on := 4, ground := Go.Ground.phase }, { on := 5, ground := Go.Ground.phase }, { on := 8, ground := Go.Ground.gcOnly Go.Departure.appendInPlace }], guard := none }) rfl (fun K hK => ?_) AllReadyH.nil)
       obtain ⟨cs9, hcs9⟩ := row_obj HO9.out
       rw [if_pos (by rfl)]
       refine wp_put8 (.tmp 23) (.tmp 19) rfl g9 (L.length * 8) (h', A3, l'.length, cap3) (by with_reducible (first | rfl | go_simp)) (by rfl) (fun i hi => by obtain ⟨u, hu⟩ := hcs i hi; exact ⟨u, (World.cell?_of_block (a := ⟨g9, L.length * 8 + i, none⟩) (by rw [← HW8.out]; exact setc_other (W := w9) (U := u1) (j := 0) hug.symm (.slice (some ⟨g9, 0, none⟩) (L.length + 1) cap9))).trans hu⟩) (fun o => (World.frozen?_of_block (a := ⟨g9, o, none⟩) (by rw [← HW8.out]; exact setc_other (W := w9) (U := u1) (j := 0) hug.symm (.slice (some ⟨g9, 0, none⟩) (L.length + 1) cap9))).trans (hfs o)) ?_
       refine hK.out _ _ (HXK.out (put8 W8 g9 (L.length * 8) (h', A3, l'.length, cap3)) (fun k hk => by rw [← HW8.out]; exact put8_comm hug hcs9 k hk)) (fun hHeld => ?_)
       clear hK K
       simp only [Act.put]
       refine wpAnyH_done (by kernel_rfl) ?_ _
       refine NoPanic.normal ?_
       clear hHeld
       have hF9 : ∀ k, k ≠ u1 → (put8 W8 g9 (L.length * 8) (h', A3, l'.length, cap3)).heap[k]? = (put8 w9 g9 (L.length * 8) (h', A3, l'.length, cap3)).heap[k]? := fun k hk => by rw [← HW8.out]; exact put8_comm hug hcs9 k hk
       have hu9 : Boxed (put8 W8 g9 (L.length * 8) (h', A3, l'.length, cap3)) u1 35 (.slice (some ⟨g9, 0, none⟩) (L.length + 1) cap9) := by rw [← HW8.out]; exact (put8_other hug _).trans (hbu9.set _)
       have hz9 : (put8 W8 g9 (L.length * 8) (h', A3, l'.length, cap3)).heap.size = w9.heap.size := by rw [put8_size, ← HW8.out, setc_size]
       have hpk9 := PK.grow (x := .mk h' l') HPb.out hle3 HX42.out HO9.out HG9.out hbg9 HL9.out hz9 hu9 hF9
       have hkp := round_keep (u := u1) (bt HB5.out HB42.out) HG9.out HL9.out hF9
       have hk1 := round_from (B := W0.heap.size) hkp (by have := (HB42.out).size; have := HG9.out.size; have := HB5.out.size; omega) (isC_of_cell (boxed_cells HPk.out.box).1)
       have hk2 := round_kp (n₀ := w.heap.size) (S := S) hS1 (bt HB5.out HB42.out) HG9.out (n := L.length) hF9 hz9 (by rw [put8_os, ← HW8.out, setc_os]) (by rw [put8_tape, ← HW8.out, setc_tape]) (by rw [put8_output, ← HW8.out, setc_output]) (by omega) (by omega) (by have := HPk.out.le; omega) hkp
       exact ⟨hk1, hk2, ⟨_, _, by rw [HA.out]; simpa using hpk9⟩, hk2.same ib _ hbi rfl (fun e => by have := (hSi ib).1 e; omega) (not_big1 _ _), hB.trans hk2.bel, Nat.le_trans hsW hk2.size⟩
theorem pick2_any (h : Hd) (lk : List Ex) (A : Option Addr) (cap : Nat) (w : World) (hX : XsAt w.heap.size w lk A) (hcap : lk.length ≤ cap) (hsm : AllSm (.mk h lk)) (hc : cnt (.mk h lk) ≤ 999999) (hT : Tabs w) :
  Calls Tryz.prog 153 #[XV h A lk.length cap, .func (.func 159) #[] #[]] w (ListBack w (if okX (.mk h lk) = true then kndX 2 (.mk h lk) else [])) :=
 pickn_any 159 2 is2_any (by intro _ _; go_simp) h lk A cap w hX hcap hsm hc hT
end Go.Proofs.YtfjimoccliejdaaGreatDoor
end
