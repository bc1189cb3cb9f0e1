/-
  measure: which expressions may be, how large and deep they are.
Check, Size, Depth, Safe.
A drawn region within a round of a range over a function, walked by the laws of the plain walk.
Plain: a text with each quote doubled is what ReplaceAll makes of it; digits of numbers. Nothing of the program stands here.
The contract of value.Show, over the library's ReplaceAll and Itoa.
show.
show, Show.
Which expressions may be, plainly, level by level: as the program's fold has it.
A list of expressions of the call's own, held in a box, that grows by one.
The library's Grow and Concat over expressions; parts, Parts.
-/
import Derived.Test.YtfjimoccliejdaaGreatDoorY3
import Derived.Maps.AppendAt
import Derived.Deep.RegionHeld3
import Derived.OrdersIn
import Derived.Lib.Replace
import Derived.Lib.IndexBytes
import Derived.Lib.ItoaNum
import Derived.Lib.LaidTab
import Derived.Sort.Grow
import Derived.WalkSmall
import Derived.BigRegion
section
namespace Go.Proofs.YtfjimoccliejdaaGreatDoor
open Go.RowKit Go.Shelf
attribute [local go_sem] Oper.semAt_some

def aggl (a lv : Nat) : Nat := if lv ≤ a then 0 else a
/-- One more expression, gone through: the aggregate's level, how many, how deep. -/
def mstep : Option (Nat × Nat × Nat) → Ex × Nat → Option (Nat × Nat × Nat)
  | none, _ => none
  | some (a, s, d), (x, lv) =>
    if s = 512 ∨ 32 < lv ∨ (x.hd.k = 4 ∧ 0 < aggl a lv) ∨ fitsB x.hd x.kids.length = false then none
    else some (if x.hd.k = 4 then lv else aggl a lv, s + 1, max d lv)
def msr (ys : List (Ex × Nat)) : Option (Nat × Nat × Nat) := ys.foldl mstep (some (0, 0, 0))
theorem msr_snoc (ys : List (Ex × Nat)) (y : Ex × Nat) : msr (ys ++ [y]) = mstep (msr ys) y := by simp [msr]
theorem mstep_none : ∀ ys : List (Ex × Nat), ys.foldl mstep none = none
  | [] => rfl
  | y :: ys => by rw [List.foldl_cons]; exact mstep_none ys
theorem msr_pre {ys zs : List (Ex × Nat)} (h : ys <+: zs) (hn : msr ys = none) : msr zs = none := by
  obtain ⟨r, rfl⟩ := h
  unfold msr at hn ⊢
  rw [List.foldl_append, hn, mstep_none]
def measO (x : Ex) : Option (Nat × Nat) := (msr (preo x 1)).map (·.2)
def measV (x : Ex) : Value := match measO x with
  | some (s, d) => .tuple #[.int .i64 s, .int .i64 d, .bool true]
  | none => .tuple #[.int .i64 0, .int .i64 0, .bool false]

/-- The four boxes of measure. -/
structure MB (u1 u2 u3 u4 : Nat) (W : World) (s d a : Nat) (b : Bool) : Prop where
  s : Boxed W u1 3 (.int .i64 s)
  d : Boxed W u2 3 (.int .i64 d)
  b : Boxed W u3 4 (.bool b)
  a : Boxed W u4 3 (.int .i64 a)
theorem mstep_bad {a s d lv : Nat} {h : Hd} {l : List Ex} (hb : s = 512 ∨ 32 < lv ∨ (h.k = 4 ∧ 0 < aggl a lv) ∨ fitsB h l.length = false) : mstep (some (a, s, d)) (.mk h l, lv) = none := by
  rw [mstep]; exact if_pos hb
theorem mstep_agg {a s d lv D : Nat} {h : Hd} {l : List Ex} (hk : h.k = 4) (ha : aggl a lv = 0) (hs : ¬ s = 512) (hl : ¬ 32 < lv) (hf : fitsB h l.length = true) (hD : max d lv = D) : mstep (some (a, s, d)) (.mk h l, lv) = some (lv, s + 1, D) := by
  subst hD
  rw [mstep]
  refine (if_neg ?_).trans ?_
  · rintro (e | e | ⟨_, e⟩ | e)
    · exact hs e
    · exact hl e
    · omega
    · have e2 : fitsB h l.length = false := e
      rw [hf] at e2; cases e2
  · rw [show (Ex.mk h l).hd.k = 4 from hk]; rfl
theorem mstep_on {a s d lv D a1 : Nat} {h : Hd} {l : List Ex} (hk : ¬ h.k = 4) (hs : ¬ s = 512) (hl : ¬ 32 < lv) (hf : fitsB h l.length = true) (hD : max d lv = D) (ha : aggl a lv = a1) : mstep (some (a, s, d)) (.mk h l, lv) = some (a1, s + 1, D) := by
  subst hD ha
  rw [mstep]
  refine (if_neg ?_).trans ?_
  · rintro (e | e | ⟨e, _⟩ | e)
    · exact hs e
    · exact hl e
    · exact hk e
    · have e2 : fitsB h l.length = false := e
      rw [hf] at e2; cases e2
  · rw [if_neg (show ¬ (Ex.mk h l).hd.k = 4 from hk)]
theorem bt' {n : Nat} {w w1 w2 : World} (h1 : Below n w w1) (h2 : Below w1.heap.size w1 w2) (hn : n ≤ w1.heap.size := by first | exact h1.size | omega) : Below n w w2 := h1.trans (h2.mono hn)
theorem boxed_below {W W' : World} {B : Nat} {t : TypeId} {v : Value} (h : Boxed W B t v) (hb : Below W.heap.size W W') : Boxed W' B t v := (hb.block B h.lt).trans h
theorem MB.kept {u1 u2 u3 u4 : Nat} {W W' : World} {s d a : Nat} {b : Bool} (m : MB u1 u2 u3 u4 W s d a b) (hb : Below W.heap.size W W') : MB u1 u2 u3 u4 W' s d a b :=
  ⟨boxed_below m.s hb, boxed_below m.d hb, boxed_below m.b hb, boxed_below m.a hb⟩
theorem MB.cells {u1 u2 u3 u4 : Nat} {W : World} {s d a : Nat} {b : Bool} (m : MB u1 u2 u3 u4 W s d a b) :
    (W.cell? ⟨u1, 0, none⟩ = some (.int .i64 s) ∧ W.frozen? ⟨u1, 0, none⟩ = false) ∧ (W.cell? ⟨u2, 0, none⟩ = some (.int .i64 d) ∧ W.frozen? ⟨u2, 0, none⟩ = false) ∧ (W.cell? ⟨u3, 0, none⟩ = some (.bool b) ∧ W.frozen? ⟨u3, 0, none⟩ = false) ∧
    W.cell? ⟨u4, 0, none⟩ = some (.int .i64 a) ∧ W.frozen? ⟨u4, 0, none⟩ = false :=
  ⟨⟨m.s.cell, m.s.frozen⟩, ⟨m.d.cell, m.d.frozen⟩, ⟨m.b.cell, m.b.frozen⟩, m.a.cell, m.a.frozen⟩
theorem MB.lvl {u1 u2 u3 u4 : Nat} {W : World} {s d a : Nat} {b : Bool} (m : MB u1 u2 u3 u4 W s d a b) (h14 : u1 ≠ u4) (h24 : u2 ≠ u4) (h34 : u3 ≠ u4) (a' : Nat) : MB u1 u2 u3 u4 (W.setCell ⟨u4, 0, none⟩ (.int .i64 a')) s d a' b :=
  ⟨m.s.other h14 _, m.d.other h24 _, m.b.other h34 _, m.a.set _⟩
theorem MB.next {u1 u2 u3 u4 : Nat} {W : World} {s d a : Nat} {b : Bool} (m : MB u1 u2 u3 u4 W s d a b) (h12 : u1 ≠ u2) (h23 : u2 ≠ u3) (h14 : u1 ≠ u4) (h24 : u2 ≠ u4) (d' : Nat) (vd : Int) (hvd : vd = d') (h13 : u1 ≠ u3 := by omega) :
    MB u1 u2 u3 u4 ((W.setCell ⟨u1, 0, none⟩ (.int .i64 ((s : Int) + 1))).setCell ⟨u2, 0, none⟩ (.int .i64 vd)) (s + 1) d' a b := by
  subst hvd
  exact ⟨(m.s.set (.int .i64 ((s : Int) + 1))).other h12 _, (m.d.other h12.symm _).set _, (m.b.other h13.symm _).other h23.symm _, (m.a.other h14.symm _).other h24.symm _⟩
theorem MB.zero {u1 u2 u3 u4 : Nat} {W : World} {s d a : Nat} {b : Bool} (m : MB u1 u2 u3 u4 W s d a b) (h12 : u1 ≠ u2) (h23 : u2 ≠ u3) (h34 : u3 ≠ u4) (h13 : u1 ≠ u3 := by omega) (h14 : u1 ≠ u4 := by omega) (h24 : u2 ≠ u4 := by omega) :
    MB u1 u2 u3 u4 (((W.setCell ⟨u1, 0, none⟩ (.int .i64 0)).setCell ⟨u2, 0, none⟩ (.int .i64 0)).setCell ⟨u3, 0, none⟩ (.bool false)) 0 0 a false :=
  ⟨((m.s.set _).other h12 _).other h13 _, ((m.d.other h12.symm _).set _).other h23 _, ((m.b.other h13.symm _).other h23.symm _).set _, ((m.a.other h14.symm _).other h24.symm _).other h34.symm _⟩
theorem cells_put {W : World} {B D : Nat} {t : TypeId} {v : Value} {o o' : Obj} (h : Boxed W B t v) (hD : W.heap[D]? = some o) (ho : o.isCells = false) : (W.putObj D o').cell? ⟨B, 0, none⟩ = some v :=
  (h.kept (grownBy_putObj' W D o') (fun e => by
    obtain rfl : B = D := by simpa using e
    rw [show W.heap[B]? = _ from h] at hD; cases hD; cases ho)).cell
theorem MB.put' {u1 u2 u3 u4 : Nat} {W : World} {s d a : Nat} {b : Bool} (m : MB u1 u2 u3 u4 W s d a b) {D : Nat} {o o' : Obj} (hD : W.heap[D]? = some o) (ho : o.isCells = false) :
    (W.putObj D o').cell? ⟨u1, 0, none⟩ = some (.int .i64 s) ∧ (W.putObj D o').cell? ⟨u2, 0, none⟩ = some (.int .i64 d) ∧ (W.putObj D o').cell? ⟨u3, 0, none⟩ = some (.bool b) :=
  ⟨cells_put m.s hD ho, cells_put m.d hD ho, cells_put m.b hD ho⟩
theorem MB.ends {u1 u2 u3 u4 : Nat} {W : World} {s d a : Nat} {b : Bool} (m : MB u1 u2 u3 u4 W s d a b) (h12 : u1 ≠ u2) (h23 : u2 ≠ u3) (h34 : u3 ≠ u4) (h13 : u1 ≠ u3 := by omega) (h14 : u1 ≠ u4 := by omega) (h24 : u2 ≠ u4 := by omega) :
    MB u1 u2 u3 u4 (((W.setCell ⟨u1, 0, none⟩ (.int .i64 s)).setCell ⟨u2, 0, none⟩ (.int .i64 d)).setCell ⟨u3, 0, none⟩ (.bool true)) s d a true :=
  ⟨((m.s.set _).other h12 _).other h13 _, ((m.d.other h12.symm _).set _).other h23 _, ((m.b.other h13.symm _).other h23.symm _).set _, ((m.a.other h14.symm _).other h24.symm _).other h34.symm _⟩
theorem measV_some {x : Ex} {a s d : Nat} (h : msr (preo x 1) = some (a, s, d)) : measV x = .tuple #[.int .i64 s, .int .i64 d, .bool true] := by
  simp [measV, measO, h]
theorem measV_none {x : Ex} (h : msr (preo x 1) = none) : measV x = .tuple #[.int .i64 0, .int .i64 0, .bool false] := by
  simp [measV, measO, h]
theorem mstep_le {o : Option (Nat × Nat × Nat)} {y : Ex × Nat} {a s d : Nat} (h : mstep o y = some (a, s, d)) (ho : ∀ a s d, o = some (a, s, d) → a ≤ 32 ∧ s ≤ 512 ∧ d ≤ 32) : a ≤ 32 ∧ s ≤ 512 ∧ d ≤ 32 := by
  obtain ⟨x, lv⟩ := y
  cases o with
  | none => cases h
  | some o =>
    obtain ⟨a0, s0, d0⟩ := o
    have h0 := ho _ _ _ rfl
    have hA : aggl a0 lv ≤ 32 := by unfold aggl; split <;> omega
    by_cases hn : s0 = 512 ∨ 32 < lv ∨ (x.hd.k = 4 ∧ 0 < aggl a0 lv) ∨ fitsB x.hd x.kids.length = false
    · rw [mstep, if_pos hn] at h; cases h
    · rw [mstep, if_neg hn] at h
      simp only [Option.some.injEq, Prod.mk.injEq] at h
      obtain ⟨h1, h2, h3⟩ := h
      have hs : s0 ≠ 512 := fun e => hn (.inl e)
      have hl : ¬ 32 < lv := fun e => hn (.inr (.inl e))
      refine ⟨?_, by omega, by omega⟩
      rw [← h1]; split <;> omega
theorem msr_le : ∀ (ys : List (Ex × Nat)) {o : Option (Nat × Nat × Nat)} {a s d : Nat}, ys.foldl mstep o = some (a, s, d) → (∀ a s d, o = some (a, s, d) → a ≤ 32 ∧ s ≤ 512 ∧ d ≤ 32) → a ≤ 32 ∧ s ≤ 512 ∧ d ≤ 32
  | [], _, _, _, _, h, ho => ho _ _ _ h
  | y :: ys, _, _, _, _, h, ho => msr_le ys (by rw [List.foldl_cons] at h; exact h) (fun _ _ _ e => mstep_le e ho)

set_option maxRecDepth 100000 in
set_option maxHeartbeats 16000000 in
theorem measure_any (h : Hd) (lk : List Ex) (A : Option Addr) (cap : Nat) (w : World) (hX : XsAt w.heap.size w lk A) (hcap : lk.length ≤ cap) (hsm : AllSm (.mk h lk)) (hc : cnt (.mk h lk) ≤ 999999) (hT : Tabs w) :
    Calls Tryz.prog 62 #[XV h A lk.length cap] w fun e w' => e = .returned (measV (.mk h lk)) ∧ Below w.heap.size w w' := by
  have HT := Lib.hid hT
  have HXs := Lib.hid hX
  have HSm := Lib.hid hsm
  clear hT hX hsm
  refine (callsIn_wide (n := 9)).1 ?_
  refine callsIn_of_wp_marks Tryz.func62 rfl trivial ?_ rfl
  simp only [Tryz.ntmps62, List.size_toArray, List.length_cons, List.length_nil, Nat.reduceAdd, Nat.reduceSub, Array.replicate_succ, Array.replicate_zero, List.push_toArray, List.append_toArray, List.nil_append, List.cons_append]
  gi_wp2_with ((try refine ⟨trivial, ?_⟩); gi_at_call 114; refine (through_in Fence.wide _ trivial rfl _ _ _ _ _).mono ?_; rintro e w' ⟨rfl, rfl⟩)
  have bS := ((((Boxed.new (w.alloc (xbox h A lk.length cap)) 3 (.int .i64 0)).alloc (.cells #[.int .i64 0] 3)).alloc (.cells #[.bool false] 4)).alloc (.cells #[.int .i64 0] 3)).alloc (xbox h A lk.length cap)
  have bD := (((Boxed.new ((w.alloc (xbox h A lk.length cap)).alloc (.cells #[.int .i64 0] 3)) 3 (.int .i64 0)).alloc (.cells #[.bool false] 4)).alloc (.cells #[.int .i64 0] 3)).alloc (xbox h A lk.length cap)
  have bO := ((Boxed.new (((w.alloc (xbox h A lk.length cap)).alloc (.cells #[.int .i64 0] 3)).alloc (.cells #[.int .i64 0] 3)) 4 (.bool false)).alloc (.cells #[.int .i64 0] 3)).alloc (xbox h A lk.length cap)
  have bA := (Boxed.new ((((w.alloc (xbox h A lk.length cap)).alloc (.cells #[.int .i64 0] 3)).alloc (.cells #[.int .i64 0] 3)).alloc (.cells #[.bool false] 4)) 3 (.int .i64 0)).alloc (xbox h A lk.length cap)
  have bX := (MapKept.heap_alloc (((((w.alloc (xbox h A lk.length cap)).alloc (.cells #[.int .i64 0] 3)).alloc (.cells #[.int .i64 0] 3)).alloc (.cells #[.bool false] 4)).alloc (.cells #[.int .i64 0] 3)) (xbox h A lk.length cap)).1
  simp only [World.size_alloc] at bS bD bO bA bX
  have hB0 : Below w.heap.size w ((((((w.alloc (xbox h A lk.length cap)).alloc (.cells #[.int .i64 0] 3)).alloc (.cells #[.int .i64 0] 3)).alloc (.cells #[.bool false] 4)).alloc (.cells #[.int .i64 0] 3)).alloc (xbox h A lk.length cap)) :=
    bt (bt (ba2 w _ _) (ba2 _ _ _)) (ba2 _ _ _)
  have hsz0 : ((((((w.alloc (xbox h A lk.length cap)).alloc (.cells #[.int .i64 0] 3)).alloc (.cells #[.int .i64 0] 3)).alloc (.cells #[.bool false] 4)).alloc (.cells #[.int .i64 0] 3)).alloc (xbox h A lk.length cap)).heap.size = w.heap.size + 6 := by simp
  obtain ⟨W0, hW0⟩ : ∃ W0, (((((w.alloc (xbox h A lk.length cap)).alloc (.cells #[.int .i64 0] 3)).alloc (.cells #[.int .i64 0] 3)).alloc (.cells #[.bool false] 4)).alloc (.cells #[.int .i64 0] 3)).alloc (xbox h A lk.length cap) = W0 := ⟨_, rfl⟩
  rw [hW0] at bS bD bO bA bX hB0 hsz0 ⊢
  clear hW0
  obtain ⟨u1, hu1⟩ : ∃ u, w.heap.size + 1 = u := ⟨_, rfl⟩
  rw [hu1] at bS bD bO bA bX ⊢
  obtain ⟨u2, hu2⟩ : ∃ u, u1 + 1 = u := ⟨_, rfl⟩
  rw [hu2] at bD bO bA bX ⊢
  obtain ⟨u3, hu3⟩ : ∃ u, u2 + 1 = u := ⟨_, rfl⟩
  rw [hu3] at bO bA bX ⊢
  obtain ⟨u4, hu4⟩ : ∃ u, u3 + 1 = u := ⟨_, rfl⟩
  rw [hu4] at bA bX ⊢
  obtain ⟨u5, hu5⟩ : ∃ u, u4 + 1 = u := ⟨_, rfl⟩
  rw [hu5] at bX ⊢
  obtain ⟨S, hSd⟩ : ∃ S : Nat → Prop, (fun k => u1 ≤ k ∧ k ≤ u4) = S := ⟨_, rfl⟩
  have hSi : ∀ k, S k ↔ (u1 ≤ k ∧ k ≤ u4) := fun k => by rw [← hSd]
  have hS1 : S u1 := (hSi _).2 (by omega)
  have hS2 : S u2 := (hSi _).2 (by omega)
  have hS3 : S u3 := (hSi _).2 (by omega)
  have hS4 : S u4 := (hSi _).2 (by omega)
  have hSB : ∀ k, S k → k < W0.heap.size := fun k hk => by have := (hSi k).1 hk; omega
  have hSU : ∀ k, S k → w.heap.size ≤ k := fun k hk => by have := (hSi k).1 hk; omega
  have h12 : u1 ≠ u2 := by omega
  have h23 : u2 ≠ u3 := by omega
  have h34 : u3 ≠ u4 := by omega
  have h14 : u1 ≠ u4 := by omega
  have h24 : u2 ≠ u4 := by omega
  have hX0 : XsAt w.heap.size W0 lk A := HXs.out.kept hB0
  have own1 : ∀ {X Y : World} {row : Option Nat} {B : Nat} {t : TypeId} {v : Value}, Boxed X B t v → X.grownBy Y row → (∀ r, row = some r → W0.heap.size ≤ r ∧ ∃ o : Obj, X.heap[r]? = some o ∧ o.isCells = false) → Boxed Y B t v :=
    fun hb hg hr => boxed_own _ _ (fun (_ : Unit) => _) () _ _ _ hb hg (fun r e => (hr r e).2)
  have ownM : ∀ {X Y : World} {row : Option Nat} {s d a : Nat} {b : Bool}, MB u1 u2 u3 u4 X s d a b → X.grownBy Y row → (∀ r, row = some r → W0.heap.size ≤ r ∧ ∃ o : Obj, X.heap[r]? = some o ∧ o.isCells = false) → MB u1 u2 u3 u4 Y s d a b :=
    fun m hg hr => ⟨own1 m.s hg hr, own1 m.d hg hr, own1 m.b hg hr, own1 m.a hg hr⟩
  have ownB := @ownFrom_below Unit w.heap.size W0.heap.size w (Nat.le_refl _) (by omega)
  refine wpIn_rangeFunc_ownH rfl (by omega) (gf := 140) (lb := #[.pointer (some ⟨u5, 0, none⟩)]) rfl trivial (enters_of Tryz.func140 (by kernel_rfl) rfl)
    (through_stops Fence.wide rfl _ trivial trivial rfl u5 w.heap.size S (fun _ => False) (fun _ _ _ _ h => h) W0 ⟨⟨.mk h lk, A, cap, 1⟩, ⟨hX0, hcap, HSm.out, by simp only; omega⟩⟩ rfl (by omega) (by omega) hSB bX) KpS.trans (kpS_put (by omega)) (Below.refl _ _) (fun _ => rfl)
    (fun pre W => ∃ a s d b, msr (pre.map ndp) = some (a, s, d) ∧ MB u1 u2 u3 u4 W s d a b ∧ Below w.heap.size w W ∧ W0.heap.size ≤ W.heap.size)
    (fun c pre W => c = .ret ∧ msr (pre.map ndp) = none ∧ (∃ a, MB u1 u2 u3 u4 W 0 0 a false) ∧ Below w.heap.size w W)
    (fun pre X Y row hs hg hr => by
      obtain ⟨a, s, d, b, h1, h2, h3, h4⟩ := hs
      exact ⟨a, s, d, b, h1, ownM h2 hg hr, ownB () X Y row h3 hg hr, Nat.le_trans h4 hg.size⟩)
    (fun c pre X Y row hs hg hr => by
      obtain ⟨h0, h1, ⟨a, h2⟩, h3⟩ := hs
      exact ⟨h0, h1, ⟨a, ownM h2 hg hr⟩, ownB () X Y row h3 hg hr⟩)
    ⟨0, 0, 0, false, rfl, ⟨bS, bD, bO, bA⟩, hB0, Nat.le_refl _⟩
    (fun x a' W => ∃ Bx, u5 < Bx ∧ W.heap[Bx]? = some (xbox x.1.ex.hd x.1.A x.1.ex.kids.length x.1.cap) ∧
      a' = { tmps := #[XV h A lk.length cap, .pointer (some ⟨w.heap.size, 0, none⟩), .pointer (some ⟨u1, 0, none⟩), .pointer (some ⟨u2, 0, none⟩), .pointer (some ⟨u3, 0, none⟩), .pointer (some ⟨u4, 0, none⟩), .pointer (some ⟨Bx, 0, none⟩), .int .i64 x.1.lv, undef, XV h A lk.length cap, .func (.func 140) #[] #[.pointer (some ⟨u5, 0, none⟩)], XV x.1.ex.hd x.1.A x.1.ex.kids.length x.1.cap, .int .i64 x.1.lv, undef, undef, undef, undef, undef, undef, undef, undef, undef, undef, undef, undef, undef, undef, undef, undef, undef, undef, undef, undef, undef, undef, undef, undef, undef, undef, undef, undef, undef, undef, undef, undef, undef, undef, undef], defers := [] })
    (fun x a' _ X Y row hs hg hr => by
      obtain ⟨Bx, h1, h2, h3⟩ := hs
      refine ⟨Bx, h1, (hg.block Bx (Array.getElem?_eq_some_iff.1 h2).1 (fun e => ?_)).trans h2, h3⟩
      obtain ⟨_, o, ho, hoc⟩ := hr Bx e.symm
      rw [h2] at ho; cases ho; cases hoc)
    ?assign ?body ?done ?stop
  case assign =>
    rintro l pre x W K ⟨a, s, d, b, h1, h2, h3, h4⟩ hK
    gi_wp2
    exact hK _ _ ((KeepsOthers.alloc _ _).from _) ((Rd.of (S := S) (ba W _)).kp hSU (by omega)) ⟨a, s, d, b, h1, h2.kept (ba W _), bt' h3 (ba W _), by rw [World.size_alloc]; omega⟩ ⟨W.heap.size, by have := h2.a.lt; omega, (MapKept.heap_alloc W _).1, rfl⟩
  case body =>
    rintro l pre x a' W hl _ ⟨a, s, d, b, hms, hm, hB, hsz⟩ ⟨Bx, hBx, hXb, rfl⟩ hlt
    obtain ⟨hab, hsb, hdb⟩ := msr_le _ hms (fun a s d e => by cases e; exact ⟨by omega, by omega, by omega⟩)
    obtain ⟨⟨⟨⟨kk, nn, vk, vn, vs, tb, cl⟩, l'⟩, A', cap', lv⟩, ok⟩ := x
    have hlv := ok.lv
    have hcn := cnt_pos (.mk ⟨kk, nn, vk, vn, vs, tb, cl⟩ l')
    have hln : l'.length ≤ 1000000 := by have := cntL_len l'; simp only [cnt_mk] at hlv; omega
    simp only at hlv
    have Hms := Lib.hid hms
    have HM0 := Lib.hid hm
    obtain ⟨bf, hbf⟩ : ∃ bf, fitsB ⟨kk, nn, vk, vn, vs, tb, cl⟩ l'.length = bf := ⟨_, rfl⟩
    have Hbf := Lib.hid hbf
    have HF := Lib.hid (fun W1 (hb1 : Below w.heap.size w W1) => fits_any ⟨kk, nn, vk, vn, vs, tb, cl⟩ A' l'.length cap' W1 (by have := ok.sm; rw [AllSm] at this; exact this.1) (HT.out.kept hb1) (by omega))
    rw [hbf] at HF
    have hXb : W.heap[Bx]? = some (.cells #[.int .i64 kk, .int .i64 nn, .int .i64 vk, .int .i64 vn, .string vs, .string tb, .string cl, .slice A' l'.length cap'] 37 (0, 0)) := hXb
    have HX0 := Lib.hid hXb
    have HBl := Lib.hid (Array.getElem?_eq_some_iff.1 hXb).1
    obtain ⟨⟨k1, g1⟩, ⟨k2, g2⟩, ⟨k3, g3⟩, k4, g4⟩ := hm.cells
    obtain ⟨⟨y0, y1, y2, y3, y4, y5, y6, y7⟩, _⟩ := cell8 hXb
    clear hms hm hXb hbf
    by_cases hla : lv ≤ a
    · have hla1 : (lv : Int) ≤ (a : Int) := by omega
      have HM := Lib.hid (HM0.out.lvl h14 h24 h34 0)
      have HBc := Lib.hid (hB.setCell (p := ⟨u4, 0, none⟩) (by simp only; omega) (.int .i64 0))
      have HRc := Lib.hid ((Rd.refl S W).set (j := 0) hS4 (.int .i64 0))
      have HXb := Lib.hid ((setc_other (W := W) (U := u4) (k := Bx) (j := 0) (by omega) (.int .i64 0)).trans HX0.out)
      have HXl := Lib.hid (show Bx < (W.setCell ⟨u4, 0, none⟩ (.int .i64 0)).heap.size by rw [setc_size]; exact HBl.out)
      by_cases hk4 : kk = 4
      · subst hk4
        by_cases hs : s = 512
        · have hs1 : (s : Int) = 512 := by omega
          have HN := Lib.hid (show msr ((pre ++ [(⟨⟨.mk ⟨4, nn, vk, vn, vs, tb, cl⟩ l', A', cap', lv⟩, ok⟩ : NdS w.heap.size W0)]).map ndp) = none by rw [List.map_append, List.map_cons, List.map_nil, msr_snoc, Hms.out]; exact mstep_bad (.inl hs))
          gi_wp2_with ((try refine ⟨trivial, ?_⟩); gi_at_call 115; refine (CallsIn.inRound l (callsIn_wide.2 (HF.out _ HBc.out))).mono ?_; rintro e W5 ⟨rfl, hb5⟩; have m5 := HM.out.kept hb5; obtain ⟨⟨k1, g1⟩, ⟨k2, g2⟩, ⟨k3, g3⟩, k4, g4⟩ := m5.cells; have x5 := (hb5.block Bx HXl.out).trans HXb.out; have y0 := (cell8 x5).1.1; have HM5 := Lib.hid m5; have HR5 := Lib.hid (HRc.out.trans (Rd.of hb5)); have HB5 := Lib.hid (HBc.out.trans (hb5.mono HBc.out.size)); clear hb5 m5 x5)
          try (refine ⟨trivial, ?_⟩; gi_wp2)
          refine ⟨?_, rfl, HN.out, ?_, ?_⟩
          · first
              | exact (((HR5.out.set hS1 _).set hS2 _).set hS3 _).from hSB
              | exact (((HRc.out.set hS1 _).set hS2 _).set hS3 _).from hSB
          · first
              | exact ⟨_, HM5.out.zero h12 h23 h34⟩
              | exact ⟨_, HM.out.zero h12 h23 h34⟩
          · first
              | exact ((HB5.out.setCell (p := ⟨u1, 0, none⟩) (by simp only; omega) _).setCell (p := ⟨u2, 0, none⟩) (by simp only; omega) _).setCell (p := ⟨u3, 0, none⟩) (by simp only; omega) _
              | exact ((HBc.out.setCell (p := ⟨u1, 0, none⟩) (by simp only; omega) _).setCell (p := ⟨u2, 0, none⟩) (by simp only; omega) _).setCell (p := ⟨u3, 0, none⟩) (by simp only; omega) _
        · have hs1 : ¬ (s : Int) = 512 := by omega
          by_cases hl : 32 < lv
          · have hl1 : (32 : Int) < (lv : Int) := by omega
            omega
          · have hl1 : ¬ (32 : Int) < (lv : Int) := by omega
            cases hft : bf
            · have HFt := Lib.hid (Hbf.out.trans hft)
              subst hft
              have HN := Lib.hid (show msr ((pre ++ [(⟨⟨.mk ⟨4, nn, vk, vn, vs, tb, cl⟩ l', A', cap', lv⟩, ok⟩ : NdS w.heap.size W0)]).map ndp) = none by rw [List.map_append, List.map_cons, List.map_nil, msr_snoc, Hms.out]; exact mstep_bad (.inr (.inr (.inr HFt.out))))
              gi_wp2_with ((try refine ⟨trivial, ?_⟩); gi_at_call 115; refine (CallsIn.inRound l (callsIn_wide.2 (HF.out _ HBc.out))).mono ?_; rintro e W5 ⟨rfl, hb5⟩; have m5 := HM.out.kept hb5; obtain ⟨⟨k1, g1⟩, ⟨k2, g2⟩, ⟨k3, g3⟩, k4, g4⟩ := m5.cells; have x5 := (hb5.block Bx HXl.out).trans HXb.out; have y0 := (cell8 x5).1.1; have HM5 := Lib.hid m5; have HR5 := Lib.hid (HRc.out.trans (Rd.of hb5)); have HB5 := Lib.hid (HBc.out.trans (hb5.mono HBc.out.size)); clear hb5 m5 x5)
              try (refine ⟨trivial, ?_⟩; gi_wp2)
              refine ⟨?_, rfl, HN.out, ?_, ?_⟩
              · first
                  | exact (((HR5.out.set hS1 _).set hS2 _).set hS3 _).from hSB
                  | exact (((HRc.out.set hS1 _).set hS2 _).set hS3 _).from hSB
              · first
                  | exact ⟨_, HM5.out.zero h12 h23 h34⟩
                  | exact ⟨_, HM.out.zero h12 h23 h34⟩
              · first
                  | exact ((HB5.out.setCell (p := ⟨u1, 0, none⟩) (by simp only; omega) _).setCell (p := ⟨u2, 0, none⟩) (by simp only; omega) _).setCell (p := ⟨u3, 0, none⟩) (by simp only; omega) _
                  | exact ((HBc.out.setCell (p := ⟨u1, 0, none⟩) (by simp only; omega) _).setCell (p := ⟨u2, 0, none⟩) (by simp only; omega) _).setCell (p := ⟨u3, 0, none⟩) (by simp only; omega) _
            · have HFt := Lib.hid (Hbf.out.trans hft)
              subst hft
              have HN := Lib.hid (show msr ((pre ++ [(⟨⟨.mk ⟨4, nn, vk, vn, vs, tb, cl⟩ l', A', cap', lv⟩, ok⟩ : NdS w.heap.size W0)]).map ndp) = some (lv, s + 1, (max d lv)) by rw [List.map_append, List.map_cons, List.map_nil, msr_snoc, Hms.out]; exact mstep_agg rfl (by unfold aggl; split <;> omega) hs hl HFt.out rfl)
              gi_wp2_with ((try refine ⟨trivial, ?_⟩); gi_at_call 115; refine (CallsIn.inRound l (callsIn_wide.2 (HF.out _ HBc.out))).mono ?_; rintro e W5 ⟨rfl, hb5⟩; have m5 := HM.out.kept hb5; obtain ⟨⟨k1, g1⟩, ⟨k2, g2⟩, ⟨k3, g3⟩, k4, g4⟩ := m5.cells; have x5 := (hb5.block Bx HXl.out).trans HXb.out; have y0 := (cell8 x5).1.1; have HM5 := Lib.hid m5; have HR5 := Lib.hid (HRc.out.trans (Rd.of hb5)); have HB5 := Lib.hid (HBc.out.trans (hb5.mono HBc.out.size)); clear hb5 m5 x5)
              try (refine ⟨trivial, ?_⟩; gi_wp2)
              exact ⟨(((HR5.out.set hS4 _).set hS1 _).set hS2 _).from hSB, (((HR5.out.set hS4 _).set hS1 _).set hS2 _).kp hSU (by omega), _, _, _, _, HN.out, (HM5.out.lvl h14 h24 h34 lv).next h12 h23 h14 h24 (max d lv) (max (d : Int) lv) (by omega), ((HB5.out.setCell (p := ⟨u4, 0, none⟩) (by simp only; omega) _).setCell (p := ⟨u1, 0, none⟩) (by simp only; omega) _).setCell (p := ⟨u2, 0, none⟩) (by simp only; omega) _, Nat.le_trans hsz (((HR5.out.set hS4 _).set hS1 _).set hS2 _).size⟩
      · by_cases hs : s = 512
        · have hs1 : (s : Int) = 512 := by omega
          have HN := Lib.hid (show msr ((pre ++ [(⟨⟨.mk ⟨kk, nn, vk, vn, vs, tb, cl⟩ l', A', cap', lv⟩, ok⟩ : NdS w.heap.size W0)]).map ndp) = none by rw [List.map_append, List.map_cons, List.map_nil, msr_snoc, Hms.out]; exact mstep_bad (.inl hs))
          gi_wp2_with ((try refine ⟨trivial, ?_⟩); gi_at_call 115; refine (CallsIn.inRound l (callsIn_wide.2 (HF.out _ HBc.out))).mono ?_; rintro e W5 ⟨rfl, hb5⟩; have m5 := HM.out.kept hb5; obtain ⟨⟨k1, g1⟩, ⟨k2, g2⟩, ⟨k3, g3⟩, k4, g4⟩ := m5.cells; have x5 := (hb5.block Bx HXl.out).trans HXb.out; have y0 := (cell8 x5).1.1; have HM5 := Lib.hid m5; have HR5 := Lib.hid (HRc.out.trans (Rd.of hb5)); have HB5 := Lib.hid (HBc.out.trans (hb5.mono HBc.out.size)); clear hb5 m5 x5)
          try (refine ⟨trivial, ?_⟩; gi_wp2)
          refine ⟨?_, rfl, HN.out, ?_, ?_⟩
          · first
              | exact (((HR5.out.set hS1 _).set hS2 _).set hS3 _).from hSB
              | exact (((HRc.out.set hS1 _).set hS2 _).set hS3 _).from hSB
          · first
              | exact ⟨_, HM5.out.zero h12 h23 h34⟩
              | exact ⟨_, HM.out.zero h12 h23 h34⟩
          · first
              | exact ((HB5.out.setCell (p := ⟨u1, 0, none⟩) (by simp only; omega) _).setCell (p := ⟨u2, 0, none⟩) (by simp only; omega) _).setCell (p := ⟨u3, 0, none⟩) (by simp only; omega) _
              | exact ((HBc.out.setCell (p := ⟨u1, 0, none⟩) (by simp only; omega) _).setCell (p := ⟨u2, 0, none⟩) (by simp only; omega) _).setCell (p := ⟨u3, 0, none⟩) (by simp only; omega) _
        · have hs1 : ¬ (s : Int) = 512 := by omega
          by_cases hl : 32 < lv
          · have hl1 : (32 : Int) < (lv : Int) := by omega
            omega
          · have hl1 : ¬ (32 : Int) < (lv : Int) := by omega
            cases hft : bf
            · have HFt := Lib.hid (Hbf.out.trans hft)
              subst hft
              have HN := Lib.hid (show msr ((pre ++ [(⟨⟨.mk ⟨kk, nn, vk, vn, vs, tb, cl⟩ l', A', cap', lv⟩, ok⟩ : NdS w.heap.size W0)]).map ndp) = none by rw [List.map_append, List.map_cons, List.map_nil, msr_snoc, Hms.out]; exact mstep_bad (.inr (.inr (.inr HFt.out))))
              gi_wp2_with ((try refine ⟨trivial, ?_⟩); gi_at_call 115; refine (CallsIn.inRound l (callsIn_wide.2 (HF.out _ HBc.out))).mono ?_; rintro e W5 ⟨rfl, hb5⟩; have m5 := HM.out.kept hb5; obtain ⟨⟨k1, g1⟩, ⟨k2, g2⟩, ⟨k3, g3⟩, k4, g4⟩ := m5.cells; have x5 := (hb5.block Bx HXl.out).trans HXb.out; have y0 := (cell8 x5).1.1; have HM5 := Lib.hid m5; have HR5 := Lib.hid (HRc.out.trans (Rd.of hb5)); have HB5 := Lib.hid (HBc.out.trans (hb5.mono HBc.out.size)); clear hb5 m5 x5)
              try (refine ⟨trivial, ?_⟩; gi_wp2)
              refine ⟨?_, rfl, HN.out, ?_, ?_⟩
              · first
                  | exact (((HR5.out.set hS1 _).set hS2 _).set hS3 _).from hSB
                  | exact (((HRc.out.set hS1 _).set hS2 _).set hS3 _).from hSB
              · first
                  | exact ⟨_, HM5.out.zero h12 h23 h34⟩
                  | exact ⟨_, HM.out.zero h12 h23 h34⟩
              · first
                  | exact ((HB5.out.setCell (p := ⟨u1, 0, none⟩) (by simp only; omega) _).setCell (p := ⟨u2, 0, none⟩) (by simp only; omega) _).setCell (p := ⟨u3, 0, none⟩) (by simp only; omega) _
                  | exact ((HBc.out.setCell (p := ⟨u1, 0, none⟩) (by simp only; omega) _).setCell (p := ⟨u2, 0, none⟩) (by simp only; omega) _).setCell (p := ⟨u3, 0, none⟩) (by simp only; omega) _
            · have HFt := Lib.hid (Hbf.out.trans hft)
              subst hft
              have HN := Lib.hid (show msr ((pre ++ [(⟨⟨.mk ⟨kk, nn, vk, vn, vs, tb, cl⟩ l', A', cap', lv⟩, ok⟩ : NdS w.heap.size W0)]).map ndp) = some (0, s + 1, (max d lv)) by rw [List.map_append, List.map_cons, List.map_nil, msr_snoc, Hms.out]; exact mstep_on hk4 hs hl HFt.out rfl (by unfold aggl; first | rw [if_pos hla] | rw [if_neg hla]))
              gi_wp2_with ((try refine ⟨trivial, ?_⟩); gi_at_call 115; refine (CallsIn.inRound l (callsIn_wide.2 (HF.out _ HBc.out))).mono ?_; rintro e W5 ⟨rfl, hb5⟩; have m5 := HM.out.kept hb5; obtain ⟨⟨k1, g1⟩, ⟨k2, g2⟩, ⟨k3, g3⟩, k4, g4⟩ := m5.cells; have x5 := (hb5.block Bx HXl.out).trans HXb.out; have y0 := (cell8 x5).1.1; have HM5 := Lib.hid m5; have HR5 := Lib.hid (HRc.out.trans (Rd.of hb5)); have HB5 := Lib.hid (HBc.out.trans (hb5.mono HBc.out.size)); clear hb5 m5 x5)
              try (refine ⟨trivial, ?_⟩; gi_wp2)
              exact ⟨((HR5.out.set hS1 _).set hS2 _).from hSB, ((HR5.out.set hS1 _).set hS2 _).kp hSU (by omega), _, _, _, _, HN.out, HM5.out.next h12 h23 h14 h24 (max d lv) (max (d : Int) lv) (by omega), (HB5.out.setCell (p := ⟨u1, 0, none⟩) (by simp only; omega) _).setCell (p := ⟨u2, 0, none⟩) (by simp only; omega) _, Nat.le_trans hsz ((HR5.out.set hS1 _).set hS2 _).size⟩
    · have hla1 : ¬ (lv : Int) ≤ (a : Int) := by omega
      have HM := HM0
      have HBc := Lib.hid hB
      have HRc := Lib.hid (Rd.refl S W)
      have HXb := HX0
      have HXl := HBl
      by_cases hk4 : kk = 4
      · subst hk4
        by_cases ha : a = 0
        · have ha1 : ¬ (0 : Int) < (a : Int) := by omega
          have ha2 : ¬ 0 < a := by omega
          by_cases hs : s = 512
          · have hs1 : (s : Int) = 512 := by omega
            have HN := Lib.hid (show msr ((pre ++ [(⟨⟨.mk ⟨4, nn, vk, vn, vs, tb, cl⟩ l', A', cap', lv⟩, ok⟩ : NdS w.heap.size W0)]).map ndp) = none by rw [List.map_append, List.map_cons, List.map_nil, msr_snoc, Hms.out]; exact mstep_bad (.inl hs))
            gi_wp2_with ((try refine ⟨trivial, ?_⟩); gi_at_call 115; refine (CallsIn.inRound l (callsIn_wide.2 (HF.out _ HBc.out))).mono ?_; rintro e W5 ⟨rfl, hb5⟩; have m5 := HM.out.kept hb5; obtain ⟨⟨k1, g1⟩, ⟨k2, g2⟩, ⟨k3, g3⟩, k4, g4⟩ := m5.cells; have x5 := (hb5.block Bx HXl.out).trans HXb.out; have y0 := (cell8 x5).1.1; have HM5 := Lib.hid m5; have HR5 := Lib.hid (HRc.out.trans (Rd.of hb5)); have HB5 := Lib.hid (HBc.out.trans (hb5.mono HBc.out.size)); clear hb5 m5 x5)
            try (refine ⟨trivial, ?_⟩; gi_wp2)
            refine ⟨?_, rfl, HN.out, ?_, ?_⟩
            · first
                | exact (((HR5.out.set hS1 _).set hS2 _).set hS3 _).from hSB
                | exact (((HRc.out.set hS1 _).set hS2 _).set hS3 _).from hSB
            · first
                | exact ⟨_, HM5.out.zero h12 h23 h34⟩
                | exact ⟨_, HM.out.zero h12 h23 h34⟩
            · first
                | exact ((HB5.out.setCell (p := ⟨u1, 0, none⟩) (by simp only; omega) _).setCell (p := ⟨u2, 0, none⟩) (by simp only; omega) _).setCell (p := ⟨u3, 0, none⟩) (by simp only; omega) _
                | exact ((HBc.out.setCell (p := ⟨u1, 0, none⟩) (by simp only; omega) _).setCell (p := ⟨u2, 0, none⟩) (by simp only; omega) _).setCell (p := ⟨u3, 0, none⟩) (by simp only; omega) _
          · have hs1 : ¬ (s : Int) = 512 := by omega
            by_cases hl : 32 < lv
            · have hl1 : (32 : Int) < (lv : Int) := by omega
              have HN := Lib.hid (show msr ((pre ++ [(⟨⟨.mk ⟨4, nn, vk, vn, vs, tb, cl⟩ l', A', cap', lv⟩, ok⟩ : NdS w.heap.size W0)]).map ndp) = none by rw [List.map_append, List.map_cons, List.map_nil, msr_snoc, Hms.out]; exact mstep_bad (.inr (.inl hl)))
              gi_wp2_with ((try refine ⟨trivial, ?_⟩); gi_at_call 115; refine (CallsIn.inRound l (callsIn_wide.2 (HF.out _ HBc.out))).mono ?_; rintro e W5 ⟨rfl, hb5⟩; have m5 := HM.out.kept hb5; obtain ⟨⟨k1, g1⟩, ⟨k2, g2⟩, ⟨k3, g3⟩, k4, g4⟩ := m5.cells; have x5 := (hb5.block Bx HXl.out).trans HXb.out; have y0 := (cell8 x5).1.1; have HM5 := Lib.hid m5; have HR5 := Lib.hid (HRc.out.trans (Rd.of hb5)); have HB5 := Lib.hid (HBc.out.trans (hb5.mono HBc.out.size)); clear hb5 m5 x5)
              try (refine ⟨trivial, ?_⟩; gi_wp2)
              refine ⟨?_, rfl, HN.out, ?_, ?_⟩
              · first
                  | exact (((HR5.out.set hS1 _).set hS2 _).set hS3 _).from hSB
                  | exact (((HRc.out.set hS1 _).set hS2 _).set hS3 _).from hSB
              · first
                  | exact ⟨_, HM5.out.zero h12 h23 h34⟩
                  | exact ⟨_, HM.out.zero h12 h23 h34⟩
              · first
                  | exact ((HB5.out.setCell (p := ⟨u1, 0, none⟩) (by simp only; omega) _).setCell (p := ⟨u2, 0, none⟩) (by simp only; omega) _).setCell (p := ⟨u3, 0, none⟩) (by simp only; omega) _
                  | exact ((HBc.out.setCell (p := ⟨u1, 0, none⟩) (by simp only; omega) _).setCell (p := ⟨u2, 0, none⟩) (by simp only; omega) _).setCell (p := ⟨u3, 0, none⟩) (by simp only; omega) _
            · have hl1 : ¬ (32 : Int) < (lv : Int) := by omega
              cases hft : bf
              · have HFt := Lib.hid (Hbf.out.trans hft)
                subst hft
                have HN := Lib.hid (show msr ((pre ++ [(⟨⟨.mk ⟨4, nn, vk, vn, vs, tb, cl⟩ l', A', cap', lv⟩, ok⟩ : NdS w.heap.size W0)]).map ndp) = none by rw [List.map_append, List.map_cons, List.map_nil, msr_snoc, Hms.out]; exact mstep_bad (.inr (.inr (.inr HFt.out))))
                gi_wp2_with ((try refine ⟨trivial, ?_⟩); gi_at_call 115; refine (CallsIn.inRound l (callsIn_wide.2 (HF.out _ HBc.out))).mono ?_; rintro e W5 ⟨rfl, hb5⟩; have m5 := HM.out.kept hb5; obtain ⟨⟨k1, g1⟩, ⟨k2, g2⟩, ⟨k3, g3⟩, k4, g4⟩ := m5.cells; have x5 := (hb5.block Bx HXl.out).trans HXb.out; have y0 := (cell8 x5).1.1; have HM5 := Lib.hid m5; have HR5 := Lib.hid (HRc.out.trans (Rd.of hb5)); have HB5 := Lib.hid (HBc.out.trans (hb5.mono HBc.out.size)); clear hb5 m5 x5)
                try (refine ⟨trivial, ?_⟩; gi_wp2)
                refine ⟨?_, rfl, HN.out, ?_, ?_⟩
                · first
                    | exact (((HR5.out.set hS1 _).set hS2 _).set hS3 _).from hSB
                    | exact (((HRc.out.set hS1 _).set hS2 _).set hS3 _).from hSB
                · first
                    | exact ⟨_, HM5.out.zero h12 h23 h34⟩
                    | exact ⟨_, HM.out.zero h12 h23 h34⟩
                · first
                    | exact ((HB5.out.setCell (p := ⟨u1, 0, none⟩) (by simp only; omega) _).setCell (p := ⟨u2, 0, none⟩) (by simp only; omega) _).setCell (p := ⟨u3, 0, none⟩) (by simp only; omega) _
                    | exact ((HBc.out.setCell (p := ⟨u1, 0, none⟩) (by simp only; omega) _).setCell (p := ⟨u2, 0, none⟩) (by simp only; omega) _).setCell (p := ⟨u3, 0, none⟩) (by simp only; omega) _
              · have HFt := Lib.hid (Hbf.out.trans hft)
                subst hft
                have HN := Lib.hid (show msr ((pre ++ [(⟨⟨.mk ⟨4, nn, vk, vn, vs, tb, cl⟩ l', A', cap', lv⟩, ok⟩ : NdS w.heap.size W0)]).map ndp) = some (lv, s + 1, (max d lv)) by rw [List.map_append, List.map_cons, List.map_nil, msr_snoc, Hms.out]; exact mstep_agg rfl (by unfold aggl; split <;> omega) hs hl HFt.out rfl)
                gi_wp2_with ((try refine ⟨trivial, ?_⟩); gi_at_call 115; refine (CallsIn.inRound l (callsIn_wide.2 (HF.out _ HBc.out))).mono ?_; rintro e W5 ⟨rfl, hb5⟩; have m5 := HM.out.kept hb5; obtain ⟨⟨k1, g1⟩, ⟨k2, g2⟩, ⟨k3, g3⟩, k4, g4⟩ := m5.cells; have x5 := (hb5.block Bx HXl.out).trans HXb.out; have y0 := (cell8 x5).1.1; have HM5 := Lib.hid m5; have HR5 := Lib.hid (HRc.out.trans (Rd.of hb5)); have HB5 := Lib.hid (HBc.out.trans (hb5.mono HBc.out.size)); clear hb5 m5 x5)
                try (refine ⟨trivial, ?_⟩; gi_wp2)
                exact ⟨(((HR5.out.set hS4 _).set hS1 _).set hS2 _).from hSB, (((HR5.out.set hS4 _).set hS1 _).set hS2 _).kp hSU (by omega), _, _, _, _, HN.out, (HM5.out.lvl h14 h24 h34 lv).next h12 h23 h14 h24 (max d lv) (max (d : Int) lv) (by omega), ((HB5.out.setCell (p := ⟨u4, 0, none⟩) (by simp only; omega) _).setCell (p := ⟨u1, 0, none⟩) (by simp only; omega) _).setCell (p := ⟨u2, 0, none⟩) (by simp only; omega) _, Nat.le_trans hsz (((HR5.out.set hS4 _).set hS1 _).set hS2 _).size⟩
        · have ha1 : (0 : Int) < (a : Int) := by omega
          have ha2 : 0 < a := by omega
          by_cases hs : s = 512
          · have hs1 : (s : Int) = 512 := by omega
            have HN := Lib.hid (show msr ((pre ++ [(⟨⟨.mk ⟨4, nn, vk, vn, vs, tb, cl⟩ l', A', cap', lv⟩, ok⟩ : NdS w.heap.size W0)]).map ndp) = none by rw [List.map_append, List.map_cons, List.map_nil, msr_snoc, Hms.out]; exact mstep_bad (.inl hs))
            gi_wp2_with ((try refine ⟨trivial, ?_⟩); gi_at_call 115; refine (CallsIn.inRound l (callsIn_wide.2 (HF.out _ HBc.out))).mono ?_; rintro e W5 ⟨rfl, hb5⟩; have m5 := HM.out.kept hb5; obtain ⟨⟨k1, g1⟩, ⟨k2, g2⟩, ⟨k3, g3⟩, k4, g4⟩ := m5.cells; have x5 := (hb5.block Bx HXl.out).trans HXb.out; have y0 := (cell8 x5).1.1; have HM5 := Lib.hid m5; have HR5 := Lib.hid (HRc.out.trans (Rd.of hb5)); have HB5 := Lib.hid (HBc.out.trans (hb5.mono HBc.out.size)); clear hb5 m5 x5)
            try (refine ⟨trivial, ?_⟩; gi_wp2)
            refine ⟨?_, rfl, HN.out, ?_, ?_⟩
            · first
                | exact (((HR5.out.set hS1 _).set hS2 _).set hS3 _).from hSB
                | exact (((HRc.out.set hS1 _).set hS2 _).set hS3 _).from hSB
            · first
                | exact ⟨_, HM5.out.zero h12 h23 h34⟩
                | exact ⟨_, HM.out.zero h12 h23 h34⟩
            · first
                | exact ((HB5.out.setCell (p := ⟨u1, 0, none⟩) (by simp only; omega) _).setCell (p := ⟨u2, 0, none⟩) (by simp only; omega) _).setCell (p := ⟨u3, 0, none⟩) (by simp only; omega) _
                | exact ((HBc.out.setCell (p := ⟨u1, 0, none⟩) (by simp only; omega) _).setCell (p := ⟨u2, 0, none⟩) (by simp only; omega) _).setCell (p := ⟨u3, 0, none⟩) (by simp only; omega) _
          · have hs1 : ¬ (s : Int) = 512 := by omega
            by_cases hl : 32 < lv
            · have hl1 : (32 : Int) < (lv : Int) := by omega
              have HN := Lib.hid (show msr ((pre ++ [(⟨⟨.mk ⟨4, nn, vk, vn, vs, tb, cl⟩ l', A', cap', lv⟩, ok⟩ : NdS w.heap.size W0)]).map ndp) = none by rw [List.map_append, List.map_cons, List.map_nil, msr_snoc, Hms.out]; exact mstep_bad (.inr (.inl hl)))
              gi_wp2_with ((try refine ⟨trivial, ?_⟩); gi_at_call 115; refine (CallsIn.inRound l (callsIn_wide.2 (HF.out _ HBc.out))).mono ?_; rintro e W5 ⟨rfl, hb5⟩; have m5 := HM.out.kept hb5; obtain ⟨⟨k1, g1⟩, ⟨k2, g2⟩, ⟨k3, g3⟩, k4, g4⟩ := m5.cells; have x5 := (hb5.block Bx HXl.out).trans HXb.out; have y0 := (cell8 x5).1.1; have HM5 := Lib.hid m5; have HR5 := Lib.hid (HRc.out.trans (Rd.of hb5)); have HB5 := Lib.hid (HBc.out.trans (hb5.mono HBc.out.size)); clear hb5 m5 x5)
              try (refine ⟨trivial, ?_⟩; gi_wp2)
              refine ⟨?_, rfl, HN.out, ?_, ?_⟩
              · first
                  | exact (((HR5.out.set hS1 _).set hS2 _).set hS3 _).from hSB
                  | exact (((HRc.out.set hS1 _).set hS2 _).set hS3 _).from hSB
              · first
                  | exact ⟨_, HM5.out.zero h12 h23 h34⟩
                  | exact ⟨_, HM.out.zero h12 h23 h34⟩
              · first
                  | exact ((HB5.out.setCell (p := ⟨u1, 0, none⟩) (by simp only; omega) _).setCell (p := ⟨u2, 0, none⟩) (by simp only; omega) _).setCell (p := ⟨u3, 0, none⟩) (by simp only; omega) _
                  | exact ((HBc.out.setCell (p := ⟨u1, 0, none⟩) (by simp only; omega) _).setCell (p := ⟨u2, 0, none⟩) (by simp only; omega) _).setCell (p := ⟨u3, 0, none⟩) (by simp only; omega) _
            · have hl1 : ¬ (32 : Int) < (lv : Int) := by omega
              have HN := Lib.hid (show msr ((pre ++ [(⟨⟨.mk ⟨4, nn, vk, vn, vs, tb, cl⟩ l', A', cap', lv⟩, ok⟩ : NdS w.heap.size W0)]).map ndp) = none by rw [List.map_append, List.map_cons, List.map_nil, msr_snoc, Hms.out]; exact mstep_bad (.inr (.inr (.inl ⟨rfl, by unfold aggl; rw [if_neg hla]; exact ha2⟩))))
              gi_wp2_with ((try refine ⟨trivial, ?_⟩); gi_at_call 115; refine (CallsIn.inRound l (callsIn_wide.2 (HF.out _ HBc.out))).mono ?_; rintro e W5 ⟨rfl, hb5⟩; have m5 := HM.out.kept hb5; obtain ⟨⟨k1, g1⟩, ⟨k2, g2⟩, ⟨k3, g3⟩, k4, g4⟩ := m5.cells; have x5 := (hb5.block Bx HXl.out).trans HXb.out; have y0 := (cell8 x5).1.1; have HM5 := Lib.hid m5; have HR5 := Lib.hid (HRc.out.trans (Rd.of hb5)); have HB5 := Lib.hid (HBc.out.trans (hb5.mono HBc.out.size)); clear hb5 m5 x5)
              try (refine ⟨trivial, ?_⟩; gi_wp2)
              refine ⟨?_, rfl, HN.out, ?_, ?_⟩
              · first
                  | exact (((HR5.out.set hS1 _).set hS2 _).set hS3 _).from hSB
                  | exact (((HRc.out.set hS1 _).set hS2 _).set hS3 _).from hSB
              · first
                  | exact ⟨_, HM5.out.zero h12 h23 h34⟩
                  | exact ⟨_, HM.out.zero h12 h23 h34⟩
              · first
                  | exact ((HB5.out.setCell (p := ⟨u1, 0, none⟩) (by simp only; omega) _).setCell (p := ⟨u2, 0, none⟩) (by simp only; omega) _).setCell (p := ⟨u3, 0, none⟩) (by simp only; omega) _
                  | exact ((HBc.out.setCell (p := ⟨u1, 0, none⟩) (by simp only; omega) _).setCell (p := ⟨u2, 0, none⟩) (by simp only; omega) _).setCell (p := ⟨u3, 0, none⟩) (by simp only; omega) _
      · by_cases hs : s = 512
        · have hs1 : (s : Int) = 512 := by omega
          have HN := Lib.hid (show msr ((pre ++ [(⟨⟨.mk ⟨kk, nn, vk, vn, vs, tb, cl⟩ l', A', cap', lv⟩, ok⟩ : NdS w.heap.size W0)]).map ndp) = none by rw [List.map_append, List.map_cons, List.map_nil, msr_snoc, Hms.out]; exact mstep_bad (.inl hs))
          gi_wp2_with ((try refine ⟨trivial, ?_⟩); gi_at_call 115; refine (CallsIn.inRound l (callsIn_wide.2 (HF.out _ HBc.out))).mono ?_; rintro e W5 ⟨rfl, hb5⟩; have m5 := HM.out.kept hb5; obtain ⟨⟨k1, g1⟩, ⟨k2, g2⟩, ⟨k3, g3⟩, k4, g4⟩ := m5.cells; have x5 := (hb5.block Bx HXl.out).trans HXb.out; have y0 := (cell8 x5).1.1; have HM5 := Lib.hid m5; have HR5 := Lib.hid (HRc.out.trans (Rd.of hb5)); have HB5 := Lib.hid (HBc.out.trans (hb5.mono HBc.out.size)); clear hb5 m5 x5)
          try (refine ⟨trivial, ?_⟩; gi_wp2)
          refine ⟨?_, rfl, HN.out, ?_, ?_⟩
          · first
              | exact (((HR5.out.set hS1 _).set hS2 _).set hS3 _).from hSB
              | exact (((HRc.out.set hS1 _).set hS2 _).set hS3 _).from hSB
          · first
              | exact ⟨_, HM5.out.zero h12 h23 h34⟩
              | exact ⟨_, HM.out.zero h12 h23 h34⟩
          · first
              | exact ((HB5.out.setCell (p := ⟨u1, 0, none⟩) (by simp only; omega) _).setCell (p := ⟨u2, 0, none⟩) (by simp only; omega) _).setCell (p := ⟨u3, 0, none⟩) (by simp only; omega) _
              | exact ((HBc.out.setCell (p := ⟨u1, 0, none⟩) (by simp only; omega) _).setCell (p := ⟨u2, 0, none⟩) (by simp only; omega) _).setCell (p := ⟨u3, 0, none⟩) (by simp only; omega) _
        · have hs1 : ¬ (s : Int) = 512 := by omega
          by_cases hl : 32 < lv
          · have hl1 : (32 : Int) < (lv : Int) := by omega
            have HN := Lib.hid (show msr ((pre ++ [(⟨⟨.mk ⟨kk, nn, vk, vn, vs, tb, cl⟩ l', A', cap', lv⟩, ok⟩ : NdS w.heap.size W0)]).map ndp) = none by rw [List.map_append, List.map_cons, List.map_nil, msr_snoc, Hms.out]; exact mstep_bad (.inr (.inl hl)))
            gi_wp2_with ((try refine ⟨trivial, ?_⟩); gi_at_call 115; refine (CallsIn.inRound l (callsIn_wide.2 (HF.out _ HBc.out))).mono ?_; rintro e W5 ⟨rfl, hb5⟩; have m5 := HM.out.kept hb5; obtain ⟨⟨k1, g1⟩, ⟨k2, g2⟩, ⟨k3, g3⟩, k4, g4⟩ := m5.cells; have x5 := (hb5.block Bx HXl.out).trans HXb.out; have y0 := (cell8 x5).1.1; have HM5 := Lib.hid m5; have HR5 := Lib.hid (HRc.out.trans (Rd.of hb5)); have HB5 := Lib.hid (HBc.out.trans (hb5.mono HBc.out.size)); clear hb5 m5 x5)
            try (refine ⟨trivial, ?_⟩; gi_wp2)
            refine ⟨?_, rfl, HN.out, ?_, ?_⟩
            · first
                | exact (((HR5.out.set hS1 _).set hS2 _).set hS3 _).from hSB
                | exact (((HRc.out.set hS1 _).set hS2 _).set hS3 _).from hSB
            · first
                | exact ⟨_, HM5.out.zero h12 h23 h34⟩
                | exact ⟨_, HM.out.zero h12 h23 h34⟩
            · first
                | exact ((HB5.out.setCell (p := ⟨u1, 0, none⟩) (by simp only; omega) _).setCell (p := ⟨u2, 0, none⟩) (by simp only; omega) _).setCell (p := ⟨u3, 0, none⟩) (by simp only; omega) _
                | exact ((HBc.out.setCell (p := ⟨u1, 0, none⟩) (by simp only; omega) _).setCell (p := ⟨u2, 0, none⟩) (by simp only; omega) _).setCell (p := ⟨u3, 0, none⟩) (by simp only; omega) _
          · have hl1 : ¬ (32 : Int) < (lv : Int) := by omega
            cases hft : bf
            · have HFt := Lib.hid (Hbf.out.trans hft)
              subst hft
              have HN := Lib.hid (show msr ((pre ++ [(⟨⟨.mk ⟨kk, nn, vk, vn, vs, tb, cl⟩ l', A', cap', lv⟩, ok⟩ : NdS w.heap.size W0)]).map ndp) = none by rw [List.map_append, List.map_cons, List.map_nil, msr_snoc, Hms.out]; exact mstep_bad (.inr (.inr (.inr HFt.out))))
              gi_wp2_with ((try refine ⟨trivial, ?_⟩); gi_at_call 115; refine (CallsIn.inRound l (callsIn_wide.2 (HF.out _ HBc.out))).mono ?_; rintro e W5 ⟨rfl, hb5⟩; have m5 := HM.out.kept hb5; obtain ⟨⟨k1, g1⟩, ⟨k2, g2⟩, ⟨k3, g3⟩, k4, g4⟩ := m5.cells; have x5 := (hb5.block Bx HXl.out).trans HXb.out; have y0 := (cell8 x5).1.1; have HM5 := Lib.hid m5; have HR5 := Lib.hid (HRc.out.trans (Rd.of hb5)); have HB5 := Lib.hid (HBc.out.trans (hb5.mono HBc.out.size)); clear hb5 m5 x5)
              try (refine ⟨trivial, ?_⟩; gi_wp2)
              refine ⟨?_, rfl, HN.out, ?_, ?_⟩
              · first
                  | exact (((HR5.out.set hS1 _).set hS2 _).set hS3 _).from hSB
                  | exact (((HRc.out.set hS1 _).set hS2 _).set hS3 _).from hSB
              · first
                  | exact ⟨_, HM5.out.zero h12 h23 h34⟩
                  | exact ⟨_, HM.out.zero h12 h23 h34⟩
              · first
                  | exact ((HB5.out.setCell (p := ⟨u1, 0, none⟩) (by simp only; omega) _).setCell (p := ⟨u2, 0, none⟩) (by simp only; omega) _).setCell (p := ⟨u3, 0, none⟩) (by simp only; omega) _
                  | exact ((HBc.out.setCell (p := ⟨u1, 0, none⟩) (by simp only; omega) _).setCell (p := ⟨u2, 0, none⟩) (by simp only; omega) _).setCell (p := ⟨u3, 0, none⟩) (by simp only; omega) _
            · have HFt := Lib.hid (Hbf.out.trans hft)
              subst hft
              have HN := Lib.hid (show msr ((pre ++ [(⟨⟨.mk ⟨kk, nn, vk, vn, vs, tb, cl⟩ l', A', cap', lv⟩, ok⟩ : NdS w.heap.size W0)]).map ndp) = some (a, s + 1, (max d lv)) by rw [List.map_append, List.map_cons, List.map_nil, msr_snoc, Hms.out]; exact mstep_on hk4 hs hl HFt.out rfl (by unfold aggl; first | rw [if_pos hla] | rw [if_neg hla]))
              gi_wp2_with ((try refine ⟨trivial, ?_⟩); gi_at_call 115; refine (CallsIn.inRound l (callsIn_wide.2 (HF.out _ HBc.out))).mono ?_; rintro e W5 ⟨rfl, hb5⟩; have m5 := HM.out.kept hb5; obtain ⟨⟨k1, g1⟩, ⟨k2, g2⟩, ⟨k3, g3⟩, k4, g4⟩ := m5.cells; have x5 := (hb5.block Bx HXl.out).trans HXb.out; have y0 := (cell8 x5).1.1; have HM5 := Lib.hid m5; have HR5 := Lib.hid (HRc.out.trans (Rd.of hb5)); have HB5 := Lib.hid (HBc.out.trans (hb5.mono HBc.out.size)); clear hb5 m5 x5)
              try (refine ⟨trivial, ?_⟩; gi_wp2)
              exact ⟨((HR5.out.set hS1 _).set hS2 _).from hSB, ((HR5.out.set hS1 _).set hS2 _).kp hSU (by omega), _, _, _, _, HN.out, HM5.out.next h12 h23 h14 h24 (max d lv) (max (d : Int) lv) (by omega), (HB5.out.setCell (p := ⟨u1, 0, none⟩) (by simp only; omega) _).setCell (p := ⟨u2, 0, none⟩) (by simp only; omega) _, Nat.le_trans hsz ((HR5.out.set hS1 _).set hS2 _).size⟩
  case done =>
    rintro D ys W hD hys ⟨a, s, d, b, h1, h2, h3, h4⟩ hK
    obtain ⟨⟨k1, g1⟩, ⟨k2, g2⟩, ⟨k3, g3⟩, k4, g4⟩ := h2.cells
    have hz := h2.ends h12 h23 h34
    have hR := (((Rd.refl S W).set (j := 0) hS1 (.int .i64 s)).set (j := 0) hS2 (.int .i64 d)).set (j := 0) hS3 (.bool true)
    have hKD := (hR.block D (Array.getElem?_eq_some_iff.1 hK).1 (fun e => by have := hSB D e; omega)).trans hK
    have HE := Lib.hid (measV_some (x := .mk h lk) (by rw [← hys]; exact h1))
    have HBl := Lib.hid (h3.trans (hR.below (n₀ := w.heap.size) hSU (by omega)))
    clear hR hK
    gi_wp2
    gi_region
    all_goals gi_wp2
    refine ⟨by simp, .inl ⟨_, _, rfl, run_takeDeferred hKD, ?_⟩⟩
    obtain ⟨q1, q2, q3⟩ := (show MB u1 u2 u3 u4 (((W.setCell ⟨u1, 0, none⟩ (.int .i64 s)).setCell ⟨u2, 0, none⟩ (.int .i64 d)).setCell ⟨u3, 0, none⟩ (.bool true)).drew s d a true from ⟨hz.s, hz.d, hz.b, hz.a⟩).put' (o' := .deferred none) hKD rfl
    refine ⟨measV (.mk h lk), ?_, rfl, ?_⟩
    · rw [HE.out]; simp [results, Tryz.results62, go_sem, q1, q2, q3]
    · exact (Below.drew HBl.out).trans (belowK_b (w := w) (Nat.le_refl _) _ D _ _ (by omega) hKD rfl rfl)
  case stop =>
    rintro D c pre W hD hSp ⟨rfl, h1, ⟨a, h2⟩, h3⟩ hK
    have HE := Lib.hid (measV_none (x := .mk h lk) (msr_pre hSp h1))
    gi_wp2
    refine ⟨by simp, .inl ⟨_, _, rfl, run_takeDeferred hK, ?_⟩⟩
    obtain ⟨q1, q2, q3⟩ := h2.put' (o' := .deferred none) hK rfl
    refine ⟨measV (.mk h lk), ?_, rfl, ?_⟩
    · rw [HE.out]; simp [results, Tryz.results62, go_sem, q1, q2, q3]
    · exact h3.trans (belowK_b (w := w) (Nat.le_refl _) _ D _ _ (by omega) hK rfl rfl)
end Go.Proofs.YtfjimoccliejdaaGreatDoor
end
section
namespace Go.Proofs.YtfjimoccliejdaaGreatDoor
open Go.RowKit Go.Shelf
attribute [local go_sem] Oper.semAt_some

def chkI (x : Ex) : Int := if (measO x).isSome then 0 else 100
theorem xcheck_any (h : Hd) (lk : List Ex) (A : Option Addr) (cap : Nat) (w : World) (hX : XsAt w.heap.size w lk A) (hcap : lk.length ≤ cap) (hsm : AllSm (.mk h lk)) (hc : cnt (.mk h lk) ≤ 999999) (hT : Tabs w) :
    Calls Tryz.prog 30 #[XV h A lk.length cap] w fun e w' => e = .returned (.int .i64 (chkI (.mk h lk))) ∧ Below w.heap.size w w' := by
  have HC := Lib.hid (measure_any h lk A cap (w.alloc (xbox h A lk.length cap)) (hX.next (ba w _)) hcap hsm hc (hT.kept (ba w _)))
  have HB := Lib.hid (ba w (xbox h A lk.length cap))
  clear hX hT
  cases hm : measO (.mk h lk) with
  | none =>
    have HV := Lib.hid (show measV (.mk h lk) = .tuple #[.int .i64 0, .int .i64 0, .bool false] by simp [measV, hm])
    have HM := Lib.hid hm
    rw [HV.out] at HC
    clear hm
    go_enter Tryz.func30, Tryz.ntmps30
    go_wp2_with fail
    refine HC.out.mono ?_
    rintro e w1 ⟨rfl, hb⟩
    have HB2 := Lib.hid (bt HB.out hb)
    clear hb
    go_wp2_with fail
    go_ret
    exact ⟨by simp [chkI, HM.out], HB2.out⟩
  | some sd =>
    obtain ⟨s, d⟩ := sd
    have HV := Lib.hid (show measV (.mk h lk) = .tuple #[.int .i64 s, .int .i64 d, .bool true] by simp [measV, hm])
    have HM := Lib.hid hm
    rw [HV.out] at HC
    clear hm
    go_enter Tryz.func30, Tryz.ntmps30
    go_wp2_with fail
    refine HC.out.mono ?_
    rintro e w1 ⟨rfl, hb⟩
    have HB2 := Lib.hid (bt HB.out hb)
    clear hb
    go_wp2_with fail
    go_ret
    exact ⟨by simp [chkI, HM.out], HB2.out⟩

end Go.Proofs.YtfjimoccliejdaaGreatDoor
end
section
namespace Go.Proofs.YtfjimoccliejdaaGreatDoor
open Go.RowKit Go.Shelf

def noDef (ops : Array Oper) : Bool := ops.all fun o => match o.op with | .defer _ => false | _ => true
theorem noDef_at {ops : Array Oper} (h : noDef ops = true) {i : Nat} {o : Oper} (ho : ops[i]? = some o) : ∀ c, o.op ≠ .defer c := by
  intro c hc
  have := Array.all_eq_true_iff_forall_mem.1 h o (Array.mem_of_getElem? ho)
  rw [hc] at this
  cases this
theorem upon_in {l n : Nat} {P : Program} {o : Oper} {a : Act} {K : Act → World → Prop} {Q : Exit → Act → World → Prop} {r : Result Next} (h : o.upon P a K Q r) : o.uponIn (Fence.wide.inRound l) n P a K Q r := by
  cases r with
  | ok x w =>
    cases x with
    | value v => exact h
    | skip => exact h
    | «defer» d => exact h
    | enter f args => exact ⟨(fun e => by cases e), CallsIn.inRound l (callsIn_wide.2 h)⟩
    | row row args =>
      refine ⟨(fun e => by cases e), fun c cs _ => ?_⟩
      obtain ⟨v, w', hv, hs⟩ := h c cs
      exact ⟨v, w', hv, stepsIn_wide.2 hs⟩
    | _ => exact absurd h id
  | halt x w =>
    cases x with
    | panic v => exact h
    | _ => exact absurd h id
theorem wpOp_in {l n : Nat} {P : Program} {ops : Array Oper} {Q : Exit → Act → World → Prop} {i : Nat} {K : Act → World → Prop} {a : Act} {w : World} (hd : noDef ops = true) (hq : ¬ LetsOut Q) (h : wpOp P ops Q i K a w) :
    wpOpIn (Fence.wide.inRound l) n P ops Q i K a w := by
  unfold wpOp at h
  unfold wpOpIn
  cases ho : ops[i]? with
  | none => rw [ho] at h; exact h
  | some o =>
    rw [ho] at h
    simp only at h ⊢
    split
    · rename_i hw
      rw [if_pos hw] at h
      rcases h with h | ⟨_, hl⟩
      · refine ⟨fun _ _ => trivial, ?_⟩
        rw [Oper.semAt_eq _ _ _ (noDef_at hd ho)]
        exact upon_in h
      · exact absurd hl hq
    · rename_i hw
      rw [if_neg hw] at h
      exact ⟨fun _ _ => trivial, h⟩
theorem wpAny_in {l n : Nat} {P : Program} {md : Region.Mode} {ops : Array Oper} {Q : Exit → Act → World → Prop} (hd : noDef ops = true) (hq : ¬ LetsOut Q) : ∀ (fuel : Nat) (listed : Array Bool) (a : Act) (w : World), wpAny P md ops Q fuel listed a w → wpAnyIn (Fence.wide.inRound l) n P md ops Q fuel listed a w := by
  intro fuel
  induction fuel with
  | zero => intro listed a w h; exact h
  | succ fuel ih =>
    intro listed a w h
    exact ⟨h.1, fun i hi => wpOpIn_mono (fun a w => ih _ a w) (wpOp_in hd hq (h.2 i hi))⟩
theorem wpIn_held {l n : Nat} {P : Program} {id : Nat} {ops : Array Oper} {Q : Exit → Act → World → Prop} {S : World → Prop} {a : Act} {w : World} (hm : P.follows .mixedOrders = true) (hd : noDef ops = true) (hq : ∀ a w, ¬ Q .outgrown a w) (hS : S w.drew)
    (h : S w.drew → wpAnyH P .any ops (NoPanic Q) S ops.size (Array.replicate ops.size false) a w.drew) : (Code.region id ops true).wpIn (Fence.wide.inRound l) n P Q a w :=
  Code.wpIn_mono NoPanic.imp (wpIn_region_any hm (wpAny_in (Q := NoPanic Q) hd (fun ⟨a, w, e⟩ => hq a w e) _ _ _ _ (wpAny_of_held _ _ _ _ (h hS))))
end Go.Proofs.YtfjimoccliejdaaGreatDoor
end
section
namespace Go.Proofs.YtfjimoccliejdaaGreatDoor
open Go.Lib

/-- Each quote doubled. -/
def dbl (l : List UInt8) : List UInt8 := l.flatMap fun c => if c = 39 then [39, 39] else [c]

theorem dbl_le (l : List UInt8) : (dbl l).length ≤ 2 * l.length := by
  induction l with
  | nil => simp [dbl]
  | cons b l ih =>
    have e : dbl (b :: l) = (if b = 39 then [39, 39] else [b]) ++ dbl l := rfl
    rw [e, List.length_append]
    split <;> simp <;> omega



end Go.Proofs.YtfjimoccliejdaaGreatDoor
end
section
namespace Go.Proofs.YtfjimoccliejdaaGreatDoor
open Go.RowKit Go.Shelf Go.Sort

abbrev qt : ByteArray := ⟨#[39]⟩

/-- The text of a value. -/
def showL (k n : Int) (s : ByteArray) : List UInt8 :=
  if okV k n s = true then
    (if k = 1 then (if n = 1 then [84, 82, 85, 69] else [70, 65, 76, 83, 69])
     else if k = 2 then Lib.itoa n else if k = 3 then 39 :: (dbl s.data.toList ++ [39]) else [78, 85, 76, 76])
  else [63]
/-- A text out of its bytes. -/
def bstr (l : List UInt8) : ByteArray := ⟨l.toArray⟩


theorem ret_str {a b : ByteArray} (h : a = b) : Ending.returned (.string a) = .returned (.string b) := by rw [h]

end Go.Proofs.YtfjimoccliejdaaGreatDoor
end
section
namespace Go.Proofs.YtfjimoccliejdaaGreatDoor
open Go.RowKit Go.Shelf

/-- What stands between two parts. -/
def btw : List (List UInt8) := [[], [79, 82], [65, 78, 68], [], [61], [60, 62], [60], [60, 61], [62], [62, 61], [43], [45], [42], [47], [37]]
def opX (n : Int) (f s : List UInt8) : List UInt8 :=
  if n = 3 then [78, 79, 84, 32] ++ f else if n = 15 then [45, 32] ++ f else if n = 16 then f ++ [32, 73, 83, 32, 78, 85, 76, 76] else if n = 17 then f ++ [32, 73, 83, 32, 78, 79, 84, 32, 78, 85, 76, 76]
  else f ++ [32] ++ btw.getD n.toNat [] ++ [32] ++ s
def aggX (n : Int) (f : List UInt8) : List UInt8 :=
  if n = 2 then [67, 79, 85, 78, 84, 40] ++ f ++ [41] else if n = 3 then [83, 85, 77, 40] ++ f ++ [41] else if n = 4 then [77, 73, 78, 40] ++ f ++ [41] else if n = 5 then [77, 65, 88, 40] ++ f ++ [41]
  else [67, 79, 85, 78, 84, 40, 42, 41]
def colX (t c : ByteArray) : List UInt8 := if t.toList.isEmpty then c.data.toList else t.data.toList ++ [46] ++ c.data.toList
mutual
/-- The text of an expression. -/
def shwX : Ex → List UInt8
  | .mk h l =>
    if h.k = 1 then showL h.vk h.vn h.vs
    else if h.k = 2 then colX h.tab h.col
    else if h.k = 4 then aggX h.n ((shwXs l).getD 0 [])
    else [40] ++ opX h.n ((shwXs l).getD 0 []) ((shwXs l).getD 1 []) ++ [41]
def shwXs : List Ex → List (List UInt8)
  | [] => []
  | x :: r => shwX x :: shwXs r
end
mutual
def FitX : Ex → Prop
  | .mk h l => fitsB h l.length = true ∧ FitXs l
def FitXs : List Ex → Prop
  | [] => True
  | x :: r => FitX x ∧ FitXs r
end
theorem FitXs.at : ∀ {l : List Ex}, FitXs l → ∀ {i : Nat} {x : Ex}, l[i]? = some x → FitX x
  | [], _, i, x, h => by simp at h
  | y :: r, H, 0, x, h => by
    obtain rfl : y = x := by simpa using h
    rw [FitXs] at H; exact H.1
  | y :: r, H, i + 1, x, h => by
    rw [FitXs] at H; exact FitXs.at H.2 (i := i) (by simpa using h)
theorem dec_lenE : ∀ u : Nat, (Lib.decDigits u).length ≤ u + 1 := by
  intro u
  induction u using Nat.strongRecOn with
  | _ u ih =>
    by_cases h : u < 10
    · rw [Lib.decDigits, dif_pos h]; simp
    · rw [Lib.decDigits, dif_neg h]
      have := ih (u / 10) (by omega)
      simp; omega
theorem itoa_lenE (n : Int) : (Lib.itoa n).length ≤ n.natAbs + 2 := by
  have h1 := dec_lenE n.toNat
  have h2 := dec_lenE n.natAbs
  unfold Lib.itoa
  split
  all_goals
    simp
    try omega
theorem showL_len (k n : Int) (s : ByteArray) : (showL k n s).length ≤ 9007199254741000 := by
  unfold showL
  split
  · rename_i ho
    split
    · split <;> simp
    · rename_i h1
      split
      · rename_i h2
        subst h2
        have hb : -9007199254740991 ≤ n ∧ n ≤ 9007199254740991 := by simp [okV] at ho; exact ho.1
        have := itoa_lenE n
        omega
      · rename_i h2
        split
        · rename_i h3
          subst h3
          have h64 : s.size ≤ 64 := by simp [okV] at ho; exact ho.2
          have hd := dbl_le s.data.toList
          have hsz : s.data.toList.length = s.size := by simp
          simp; omega
        · simp
  · simp
theorem btw_len (n : Nat) : (btw.getD n []).length ≤ 3 := by
  by_cases h : n < 15
  · have : ∀ k : Fin 15, (btw.getD k.1 []).length ≤ 3 := by decide +kernel
    exact this ⟨n, h⟩
  · rw [List.getD_eq_getElem?_getD, List.getElem?_eq_none (by simp [btw]; omega)]; simp
theorem opX_len (n : Int) (f s : List UInt8) : (opX n f s).length ≤ f.length + s.length + 13 := by
  have := btw_len n.toNat
  unfold opX
  repeat' split
  all_goals
    simp only [List.length_append, List.length_cons, List.length_nil]
    omega
theorem aggX_len (n : Int) (f : List UInt8) : (aggX n f).length ≤ f.length + 8 := by
  unfold aggX
  repeat' split
  all_goals simp
mutual
theorem shwX_len : ∀ x : Ex, AllSm x → (shwX x).length ≤ 9007199254742000 * cnt x
  | .mk h l, H => by
    rw [AllSm] at H
    obtain ⟨h1, h2⟩ := shwXs_len l H.2
    have hl := showL_len h.vk h.vn h.vs
    have ht := H.1.t
    have hc := H.1.c
    have ho := opX_len h.n ((shwXs l).getD 0 []) ((shwXs l).getD 1 [])
    have ha := aggX_len h.n ((shwXs l).getD 0 [])
    have hcx : (colX h.tab h.col).length ≤ 401 := by
      unfold colX; split
      · simp; omega
      · simp; omega
    rw [shwX, cnt_mk]
    repeat' split
    · omega
    · omega
    · omega
    · simp only [List.length_append, List.length_singleton]; omega
theorem shwXs_len : ∀ l : List Ex, AllSmL l → ((shwXs l).getD 0 []).length + ((shwXs l).getD 1 []).length ≤ 9007199254742000 * cntL l ∧ ((shwXs l).getD 0 []).length ≤ 9007199254742000 * cntL l
  | [], _ => by simp [shwXs]
  | [x], H => by
    rw [AllSmL] at H
    have := shwX_len x H.1
    simp only [shwXs, cntL, List.getD_cons_zero, List.getD_cons_succ, List.getD_nil, List.length_nil]
    omega
  | x :: y :: r, H => by
    rw [AllSmL, AllSmL] at H
    have h1 := shwX_len x H.1
    have h2 := shwX_len y H.2.1
    simp only [shwXs, cntL, List.getD_cons_zero, List.getD_cons_succ]
    omega
end
end Go.Proofs.YtfjimoccliejdaaGreatDoor
end
section
namespace Go.Proofs.YtfjimoccliejdaaGreatDoor
open Go.RowKit Go.Shelf

/-! What is known of an expression that may be. -/
theorem XsAt.one {n : Nat} {w : World} {x : Ex} {r : List Ex} {A : Option Addr} (H : XsAt n w (x :: r) A) : ∃ g o A' cap, A = some ⟨g, o, none⟩ ∧ g < n ∧ XC w g o x.hd A' x.kids.length cap ∧ x.kids.length ≤ cap ∧ XsAt n w x.kids A' := by
  obtain ⟨h, l⟩ := x
  obtain ⟨g, o, A', cap, e, hg, hc, hl, hx⟩ := H.at (i := 0) rfl
  exact ⟨g, o, A', cap, e, hg, by rw [Nat.zero_mul, Nat.add_zero] at hc; exact hc, hl, hx⟩
theorem XsAt.two {n : Nat} {w : World} {x y : Ex} {r : List Ex} {g o : Nat} (H : XsAt n w (x :: y :: r) (some ⟨g, o, none⟩)) : ∃ A' cap, XC w g (o + 8) y.hd A' y.kids.length cap ∧ y.kids.length ≤ cap ∧ XsAt n w y.kids A' := by
  obtain ⟨h, l⟩ := y
  obtain ⟨g', o', A', cap, e, hg, hc, hl, hx⟩ := H.at (i := 1) rfl
  simp only [Option.some.injEq, Addr.mk.injEq] at e
  obtain ⟨rfl, rfl, _⟩ := e
  exact ⟨A', cap, by rw [Nat.one_mul] at hc; exact hc, hl, hx⟩
theorem len2 : ∀ {l : List Ex}, l.length = 2 → ∃ x y, l = [x, y]
  | [], h => by simp at h
  | [_], h => by simp at h
  | [x, y], _ => ⟨x, y, rfl⟩
  | _ :: _ :: _ :: _, h => by simp at h
end Go.Proofs.YtfjimoccliejdaaGreatDoor
end
section
namespace Go.Proofs.YtfjimoccliejdaaGreatDoor
open Go.RowKit Go.Shelf

mutual
/-- May it be, so deep, within an aggregate? -/
def goodB : Ex → Nat → Bool → Bool
  | .mk h l, d, ag => decide (d ≤ 32) && !(h.k == 4 && ag) && fitsB h l.length && goodBs l (d + 1) (ag || h.k == 4)
def goodBs : List Ex → Nat → Bool → Bool
  | [], _, _ => true
  | x :: r, d, ag => goodB x d ag && goodBs r d ag
end
mutual
def depX : Ex → Nat
  | .mk _ l => depXs l + 1
def depXs : List Ex → Nat
  | [] => 0
  | x :: r => max (depX x) (depXs r)
end
theorem goodB_mk (h : Hd) (l : List Ex) (d : Nat) (ag : Bool) : goodB (.mk h l) d ag = (decide (d ≤ 32) && !(h.k == 4 && ag) && fitsB h l.length && goodBs l (d + 1) (ag || h.k == 4)) := by rw [goodB]
theorem mstep_go {a s d lv : Nat} {x : Ex} (h : ¬ (s = 512 ∨ 32 < lv ∨ (x.hd.k = 4 ∧ 0 < aggl a lv) ∨ fitsB x.hd x.kids.length = false)) : mstep (some (a, s, d)) (x, lv) = some (if x.hd.k = 4 then lv else aggl a lv, s + 1, max d lv) := by
  rw [mstep, if_neg h]
mutual
theorem fold_yes : ∀ (x : Ex) (lv a s d : Nat), 1 ≤ lv → goodB x lv (decide (0 < aggl a lv)) = true → s + cnt x ≤ 512 →
    ∃ a2, (preo x lv).foldl mstep (some (a, s, d)) = some (a2, s + cnt x, max d (lv + depX x - 1)) ∧ ∀ lv', lv' ≤ lv → aggl a2 lv' = aggl a lv'
  | .mk h l, lv, a, s, d, h1, hg, hs => by
    rw [goodB_mk] at hg
    simp only [Bool.and_eq_true, decide_eq_true_eq, Bool.not_eq_true'] at hg
    obtain ⟨⟨⟨g1, g2⟩, g3⟩, g4⟩ := hg
    rw [cnt_mk] at hs
    have hn : ¬ (s = 512 ∨ 32 < lv ∨ ((Ex.mk h l).hd.k = 4 ∧ 0 < aggl a lv) ∨ fitsB (Ex.mk h l).hd (Ex.mk h l).kids.length = false) := by
      rintro (e | e | ⟨e1, e2⟩ | e)
      · omega
      · omega
      · have e1 : h.k = 4 := e1
        simp [e1, e2] at g2
      · have e : fitsB h l.length = false := e
        rw [g3] at e; cases e
    have ha : decide (0 < aggl a lv) = true → h.k ≠ 4 := fun e e2 => by simp [e2] at g2; rw [decide_eq_true_eq] at e; omega
    obtain ⟨a2, e1, e2⟩ := folds_yes l (lv + 1) (if h.k = 4 then lv else aggl a lv) (s + 1) (max d lv) (by omega) (by omega) (by
      have : (decide (0 < aggl a lv) || h.k == 4) = decide (0 < aggl (if h.k = 4 then lv else aggl a lv) (lv + 1)) := by
        by_cases hk : h.k = 4
        · rw [if_pos hk]
          have : 0 < aggl lv (lv + 1) := by unfold aggl; split <;> omega
          simp [hk, this]
        · rw [if_neg hk]
          have : aggl (aggl a lv) (lv + 1) = aggl a lv := by unfold aggl; repeat' split
                                                             all_goals omega
          rw [this]; simp [hk]
      rw [← this]; exact g4) (by omega)
    refine ⟨a2, ?_, fun lv' hl => ?_⟩
    · rw [preo_mk, List.foldl_cons, mstep_go hn, cnt_mk, depX]
      show List.foldl mstep (some (if h.k = 4 then lv else aggl a lv, s + 1, max d lv)) _ = _
      rw [e1, show s + 1 + cntL l = s + (1 + cntL l) by omega, show max (max d lv) (lv + 1 + depXs l - 1) = max d (lv + (depXs l + 1) - 1) by omega]
    · rw [e2 lv' (by omega)]
      by_cases hk : h.k = 4
      · rw [if_pos hk]
        have : ¬ 0 < aggl a lv := fun e => ha (by simpa using e) hk
        unfold aggl at this ⊢
        split at this
        all_goals repeat' split
        all_goals omega
      · rw [if_neg hk]
        unfold aggl
        repeat' split
        all_goals omega
theorem folds_yes : ∀ (l : List Ex) (lv a s d : Nat), 1 ≤ lv → lv ≤ d + 1 → goodBs l lv (decide (0 < aggl a lv)) = true → s + cntL l ≤ 512 →
    ∃ a2, (preoL l lv).foldl mstep (some (a, s, d)) = some (a2, s + cntL l, max d (lv + depXs l - 1)) ∧ ∀ lv', lv' ≤ lv → aggl a2 lv' = aggl a lv'
  | [], lv, a, s, d, h1, h2, hg, hs => by
    refine ⟨a, ?_, fun _ _ => rfl⟩
    rw [preoL, cntL, depXs, List.foldl_nil, show max d (lv + 0 - 1) = d by omega]; rfl
  | x :: r, lv, a, s, d, h1, h2, hg, hs => by
    rw [goodBs, Bool.and_eq_true] at hg
    rw [cntL] at hs
    obtain ⟨a1, e1, e2⟩ := fold_yes x lv a s d h1 hg.1 (by omega)
    obtain ⟨a2, e3, e4⟩ := folds_yes r lv a1 (s + cnt x) (max d (lv + depX x - 1)) h1 (by omega) (by rw [e2 lv (Nat.le_refl _)]; exact hg.2) (by omega)
    refine ⟨a2, ?_, fun lv' hl => (e4 lv' hl).trans (e2 lv' hl)⟩
    rw [preoL, List.foldl_append, e1, e3, cntL, depXs, show s + cnt x + cntL r = s + (cnt x + cntL r) by omega, show max (max d (lv + depX x - 1)) (lv + depXs r - 1) = max d (lv + max (depX x) (depXs r) - 1) by omega]
end
mutual
theorem fold_no : ∀ (x : Ex) (lv a s d : Nat), 1 ≤ lv → s ≤ 512 → ¬ (goodB x lv (decide (0 < aggl a lv)) = true ∧ s + cnt x ≤ 512) → (preo x lv).foldl mstep (some (a, s, d)) = none
  | .mk h l, lv, a, s, d, h1, hs, hg => by
    rw [preo_mk, List.foldl_cons]
    by_cases hn : s = 512 ∨ 32 < lv ∨ ((Ex.mk h l).hd.k = 4 ∧ 0 < aggl a lv) ∨ fitsB (Ex.mk h l).hd (Ex.mk h l).kids.length = false
    · rw [mstep, if_pos hn, mstep_none]
    · rw [mstep_go hn]
      show List.foldl mstep (some (if h.k = 4 then lv else aggl a lv, s + 1, max d lv)) _ = none
      have n1 : ¬ s = 512 := fun e => hn (.inl e)
      have n2 : ¬ 32 < lv := fun e => hn (.inr (.inl e))
      have n3 : ¬ (h.k = 4 ∧ 0 < aggl a lv) := fun e => hn (.inr (.inr (.inl e)))
      have n4 : fitsB h l.length = true := by
        cases hf : fitsB h l.length with
        | true => rfl
        | false => exact absurd (.inr (.inr (.inr hf))) hn
      refine folds_no l (lv + 1) _ (s + 1) (max d lv) (by omega) (by omega) (by omega) fun ⟨e1, e2⟩ => hg ⟨?_, by rw [cnt_mk]; omega⟩
      rw [goodB_mk]
      have : (decide (0 < aggl a lv) || h.k == 4) = decide (0 < aggl (if h.k = 4 then lv else aggl a lv) (lv + 1)) := by
        by_cases hk : h.k = 4
        · rw [if_pos hk]
          have : 0 < aggl lv (lv + 1) := by unfold aggl; split <;> omega
          simp [hk, this]
        · rw [if_neg hk]
          have : aggl (aggl a lv) (lv + 1) = aggl a lv := by unfold aggl; repeat' split
                                                             all_goals omega
          rw [this]; simp [hk]
      rw [this, e1, n4]
      have h3 : (h.k == 4 && decide (0 < aggl a lv)) = false := by
        cases hk : (h.k == 4 && decide (0 < aggl a lv)) with
        | false => rfl
        | true => exact absurd (by simpa using hk) n3
      rw [h3]
      simp; omega
theorem folds_no : ∀ (l : List Ex) (lv a s d : Nat), 1 ≤ lv → lv ≤ d + 1 → s ≤ 512 → ¬ (goodBs l lv (decide (0 < aggl a lv)) = true ∧ s + cntL l ≤ 512) → (preoL l lv).foldl mstep (some (a, s, d)) = none
  | [], lv, a, s, d, h1, h2, hs, hg => by
    exfalso
    exact hg ⟨by rw [goodBs], by rw [cntL]; omega⟩
  | x :: r, lv, a, s, d, h1, h2, hs, hg => by
    rw [preoL, List.foldl_append]
    by_cases hx : goodB x lv (decide (0 < aggl a lv)) = true ∧ s + cnt x ≤ 512
    · obtain ⟨a1, e1, e2⟩ := fold_yes x lv a s d h1 hx.1 hx.2
      rw [e1]
      refine folds_no r lv a1 (s + cnt x) (max d (lv + depX x - 1)) h1 (by omega) hx.2 fun ⟨g1, g2⟩ => hg ⟨?_, by rw [cntL]; omega⟩
      rw [e2 lv (Nat.le_refl _)] at g1
      rw [goodBs, hx.1, g1]; rfl
    · rw [fold_no x lv a s d h1 hs hx, mstep_none]
end
/-- May it be at all? -/
def okX (x : Ex) : Bool := goodB x 1 false && decide (cnt x ≤ 512)
theorem meas_eq (x : Ex) : measO x = if okX x = true then some (cnt x, depX x) else none := by
  have ha : decide (0 < aggl 0 1) = false := by decide
  unfold measO msr
  cases ho : okX x with
  | true =>
    have : goodB x 1 false = true ∧ cnt x ≤ 512 := by simpa [okX] using ho
    obtain ⟨a2, e, _⟩ := fold_yes x 1 0 0 0 (Nat.le_refl _) (by rw [ha]; exact this.1) (by omega)
    rw [e, show 0 + cnt x = cnt x by omega, show max 0 (1 + depX x - 1) = depX x by omega]; rfl
  | false =>
    rw [fold_no x 1 0 0 0 (Nat.le_refl _) (by omega) (by
      rw [ha]
      rintro ⟨e1, e2⟩
      have : okX x = true := by rw [okX, e1]; simp; omega
      rw [ho] at this; cases this)]
    rfl
theorem meas_some (x : Ex) : (measO x).isSome = okX x := by rw [meas_eq]; cases okX x <;> rfl
/-! What stands in an expression. -/
mutual
/-- Those of a kind. -/
def kndX (k : Int) : Ex → List Ex
  | .mk h l => (if h.k = k then [.mk h l] else []) ++ kndXs k l
def kndXs (k : Int) : List Ex → List Ex
  | [] => []
  | x :: r => kndX k x ++ kndXs k r
end
mutual
theorem knd_preo (k : Int) : ∀ (x : Ex) (d : Nat), ((preo x d).map (·.1)).filter (fun y => y.hd.k == k) = kndX k x
  | .mk h l, d => by
    rw [preo_mk, List.map_cons, List.filter_cons, knd_preoL k l (d + 1), kndX]
    by_cases hk : h.k = k
    · simp [Ex.hd, hk]
    · simp [Ex.hd, hk]
theorem knd_preoL (k : Int) : ∀ (l : List Ex) (d : Nat), ((preoL l d).map (·.1)).filter (fun y => y.hd.k == k) = kndXs k l
  | [], d => by rw [preoL, kndXs]; rfl
  | x :: r, d => by rw [preoL, List.map_append, List.filter_append, knd_preo k x d, knd_preoL k r d, kndXs]
end
end Go.Proofs.YtfjimoccliejdaaGreatDoor
end
section
namespace Go.Proofs.YtfjimoccliejdaaGreatDoor
open Go.RowKit Go.Shelf

def IsC (W : World) (k : Nat) : Prop := ∃ o, W.heap[k]? = some o ∧ o.isCells = true
theorem isC_of_cell {W : World} {g o : Nat} {v : Value} (h : W.cell? ⟨g, o, none⟩ = some v) : IsC W g := by
  simp only [World.cell?] at h
  cases hg : W.heap[g]? with
  | none => rw [hg] at h; cases h
  | some x =>
    cases x with
    | cells cs t f => exact ⟨_, hg, rfl⟩
    | _ => rw [hg] at h; cases h
theorem IsC.of {W W' : World} {k : Nat} (h : IsC W k) (e : W'.heap[k]? = W.heap[k]?) : IsC W' k := by
  obtain ⟨o, ho, hc⟩ := h
  exact ⟨o, e.trans ho, hc⟩
theorem XsB.isC {B : Nat → Prop} {w : World} : ∀ {l : List Ex} {A : Option Addr}, XsB B w l A → XsB (fun k => B k ∧ IsC w k) w l A
  | [], _, _ => by rw [XsB]; trivial
  | .mk h l :: r, A, H => by
    rw [XsB] at H ⊢
    obtain ⟨g, o, e, hg, ⟨A', cap, hc, hl, h1⟩, h2⟩ := H
    exact ⟨g, o, e, ⟨hg, isC_of_cell hc.c0⟩, ⟨A', cap, hc, hl, XsB.isC h1⟩, XsB.isC h2⟩
termination_by l => SizeOf.sizeOf l
abbrev zcell : List Value := [.int .i64 0, .int .i64 0, .int .i64 0, .int .i64 0, .string ⟨#[]⟩, .string ⟨#[]⟩, .string ⟨#[]⟩, .slice none 0 0]
abbrev Op8 (b : Nat) (W : World) (v : Value) (k : Nat) : Prop := b ≤ k ∧ k < W.heap.size ∧ v.ownBlock ≠ some k ∧ IsC W k
/-- The list in the box. -/
structure PK (b u : Nat) (W : World) (v : Value) (q : List XQ) (L : List Ex) : Prop where
  box : Boxed W u 35 v
  kids : XRs (Op8 b W v) W L q
  own : W.ownsRow b 37 8 v L.length (xcells q)
  nil : L = [] → v = .slice none 0 0
  le : b ≤ W.heap.size
  ub : u < b
theorem PK.below {b u : Nat} {W W' : World} {v : Value} {q : List XQ} {L : List Ex} (h : PK b u W v q L) (hb : Below W.heap.size W W') : PK b u W' v q L := by
  refine ⟨boxed_below h.box hb, h.kids.go (fun k hk => hb.block k hk.2.1) (fun k hk => ⟨hk.1, Nat.lt_of_lt_of_le hk.2.1 hb.size, hk.2.2.1, hk.2.2.2.of (hb.block k hk.2.1)⟩), ⟨h.own.1, ?_⟩, h.nil, Nat.le_trans h.le hb.size, h.ub⟩
  rcases h.own.2 with hn | ⟨g, cap, cur, hv, hb1, hg, hc, hm, hsz, ht⟩
  · exact .inl hn
  · exact .inr ⟨g, cap, cur, hv, hb1, (hb.block g (Array.getElem?_eq_some_iff.1 hg).1).trans hg, hc, hm, hsz, ht⟩
/-- Behind what turns no cells. -/
theorem PK.other {b u : Nat} {W W' : World} {v : Value} {q : List XQ} {L : List Ex} (h : PK b u W v q L) {row : Option Nat} (hg : W.grownBy W' row) (hr : ∀ r, row = some r → ∃ o : Obj, W.heap[r]? = some o ∧ o.isCells = false) : PK b u W' v q L := by
  have keep : ∀ k, IsC W k → W'.heap[k]? = W.heap[k]? := fun k ⟨o, ho, hc⟩ => hg.block k (Array.getElem?_eq_some_iff.1 ho).1 (fun e => by
    obtain ⟨o', h1, h2⟩ := hr k e.symm
    rw [ho] at h1; cases h1; rw [hc] at h2; cases h2)
  refine ⟨(keep u ⟨_, h.box, rfl⟩).trans h.box, h.kids.go (fun k hk => keep k hk.2.2.2) (fun k hk => ⟨hk.1, Nat.lt_of_lt_of_le hk.2.1 hg.size, hk.2.2.1, hk.2.2.2.of (keep k hk.2.2.2)⟩), ⟨h.own.1, ?_⟩, h.nil, Nat.le_trans h.le hg.size, h.ub⟩
  rcases h.own.2 with hn | ⟨g, cap, cur, hv, hb1, hg, hc, hm, hsz, ht⟩
  · exact .inl hn
  · exact .inr ⟨g, cap, cur, hv, hb1, (keep g ⟨_, hg, rfl⟩).trans hg, hc, hm, hsz, ht⟩
/-- An object larger than an expression's box. -/
def Big (o : Obj) : Prop := ∃ cs t f, o = .cells cs t f ∧ 8 < cs.size
theorem big_box (h : Hd) (A : Option Addr) (len cap : Nat) : ¬ Big (xbox h A len cap) := by
  rintro ⟨cs, t, f, e, hs⟩
  injection e with e1
  rw [← e1] at hs
  simp at hs
/-- One nothing appended: in the row, where there is room; else in new memory, the old row as it was. -/
theorem append1 {b : Nat} {v : Value} {n : Nat} {xs : List Value} {W : World} (hown : W.ownsRow b 37 8 v n xs) (hnil : n = 0 → v = .slice none 0 0) (hb : b ≤ W.heap.size) (hn : n ≤ 1000000) (ad : Addr) (hnews : ∀ j u, zcell[j]? = some u → W.cell? (ad.add j) = some u) :
    ∃ g' cap' w', (Builtin.append_ #[35, 35] 35 #[v, .slice (some ad) 1 1]).run Tryz.prog W = .ok (.slice (some ⟨g', 0, none⟩) (n + 1) cap') w' ∧ w'.ownsRow b 37 8 (.slice (some ⟨g', 0, none⟩) (n + 1) cap') (n + 1) (xs ++ zcell) ∧
      W.grownBy w' (some g') ∧ b ≤ g' ∧ (g' < W.heap.size → v.ownBlock = some g' ∧ ∃ o, W.heap[g']? = some o ∧ Big o) := by
  obtain ⟨i0, hi, hz0, hz1, hz2⟩ := infoE_parts info_expr
  have h1 : ∀ u ∈ zcell, u.oneCell' = true := by intro u hu; simp at hu; rcases hu with rfl | rfl | rfl | rfl <;> rfl
  obtain ⟨v', w', hr, ho, hg, _, hat⟩ := run_append_own_at (P := Tryz.prog) W b 35 35 37 i0 _ 8 104 Tryz.underlying35 hi hz0 hz1 hz2 rfl (by decide) v n xs hown ad 1 1 zcell rfl hnews h1 (by unfold maxLen; omega) (by omega) hb
  rcases ho.2 with ⟨_, h0⟩ | ⟨g', cap', cur', rfl, hb', hg', hc', hm', hs', ht'⟩
  · omega
  refine ⟨g', cap', w', hr, ho, ?_, hb', ?_⟩
  all_goals rcases hown.2 with ⟨rfl, rfl⟩ | ⟨g, cap, cur, rfl, hbg, hgg, hnc, hcm, hcs, htake⟩
  · exact ⟨hg.os, hg.tape, hg.output, hg.size, fun k hk hne => hg.block k hk (by simp [Value.ownBlock])⟩
  · by_cases hroom : n + 1 ≤ cap
    · have hr2 := run_append_room (P := Tryz.prog) W 35 35 37 i0 Tryz.underlying35 hi g n cap cur hgg ad 1 1 zcell (by rw [hz1]; rfl) hnews h1 hroom (by rw [hz1, hcs]; show n * 8 + 8 ≤ _; omega)
      rw [hr] at hr2
      injection hr2 with e1 e2
      injection e1 with e3
      injection e3 with e4
      injection e4 with e5
      subst e5
      exact hg
    · have holds : ∀ j u, xs[j]? = some u → W.cell? ((⟨g, 0, none⟩ : Addr).add j) = some u := hown.cells (g := g) rfl
      have hr2 := run_append_grow (P := Tryz.prog) W 35 35 37 i0 _ Tryz.underlying35 hi hz0 ⟨g, 0, none⟩ n cap xs (by rw [hz1]; exact hown.1) holds ad 1 1 zcell (by rw [hz1]; rfl) hnews (by omega) (by omega) (growslice_fits (by omega) (by rw [hz2]; omega))
      rw [hr] at hr2
      injection hr2 with e1 e2
      rw [e2]
      exact ⟨rfl, rfl, rfl, by simp, fun k hk _ => (Below.drew (Below.refl _ W) |>.alloc (Nat.le_refl _) _).block k hk⟩
  · intro hlt
    rcases hat with h | h
    · simp [Value.ownBlock] at h
    · simp [Value.ownBlock] at h; omega
  · intro hlt
    by_cases hroom : n + 1 ≤ cap
    · rcases hat with h | h
      · simp only [Value.ownBlock, Option.some.injEq] at h
        subst h
        refine ⟨rfl, _, hgg, _, _, _, rfl, ?_⟩
        have hn0 : n ≠ 0 := fun e => by have := hnil e; cases this
        rw [hcs]; omega
      · simp [Value.ownBlock] at h; omega
    · have holds : ∀ j u, xs[j]? = some u → W.cell? ((⟨g, 0, none⟩ : Addr).add j) = some u := hown.cells (g := g) rfl
      have hr2 := run_append_grow (P := Tryz.prog) W 35 35 37 i0 _ Tryz.underlying35 hi hz0 ⟨g, 0, none⟩ n cap xs (by rw [hz1]; exact hown.1) holds ad 1 1 zcell (by rw [hz1]; rfl) hnews (by omega) (by omega) (growslice_fits (by omega) (by rw [hz2]; omega))
      rw [hr] at hr2
      injection hr2 with e1 e2
      injection e1 with e3
      injection e3 with e4
      injection e4 with e5
      omega
/-- The last one of a row, stored. -/
def put8 (W : World) (g o : Nat) (x : XQ) : World := ((((((((W.setCell ⟨g, o, none⟩ (.int .i64 x.1.k)).setCell ⟨g, o + 1, none⟩ (.int .i64 x.1.n)).setCell ⟨g, o + 2, none⟩ (.int .i64 x.1.vk)).setCell ⟨g, o + 3, none⟩ (.int .i64 x.1.vn)).setCell ⟨g, o + 4, none⟩ (.string x.1.vs)).setCell ⟨g, o + 5, none⟩ (.string x.1.tab)).setCell ⟨g, o + 6, none⟩ (.string x.1.col)).setCell ⟨g, o + 7, none⟩ (.slice x.2.1 x.2.2.1 x.2.2.2))
theorem put8_other {W : World} {g o k : Nat} (hk : k ≠ g) (x : XQ) : (put8 W g o x).heap[k]? = W.heap[k]? := by
  simp only [put8, World.setCell, Array.getElem?_modify]
  simp [Ne.symm hk]
theorem put8_size (W : World) (g o : Nat) (x : XQ) : (put8 W g o x).heap.size = W.heap.size := by simp [put8, World.setCell]
theorem put8_box {W : World} {g o : Nat} {cs : Array Value} {T : TypeId} (h : W.heap[g]? = some (.cells cs T (0, 0))) (x : XQ) : (put8 W g o x).heap[g]? = some (.cells ((((((((cs.setIfInBounds o (.int .i64 x.1.k)).setIfInBounds (o + 1) (.int .i64 x.1.n)).setIfInBounds (o + 2) (.int .i64 x.1.vk)).setIfInBounds (o + 3) (.int .i64 x.1.vn)).setIfInBounds (o + 4) (.string x.1.vs)).setIfInBounds (o + 5) (.string x.1.tab)).setIfInBounds (o + 6) (.string x.1.col)).setIfInBounds (o + 7) (.slice x.2.1 x.2.2.1 x.2.2.2)) T (0, 0)) :=
  setc_box (setc_box (setc_box (setc_box (setc_box (setc_box (setc_box (setc_box h o _) (o + 1) _) (o + 2) _) (o + 3) _) (o + 4) _) (o + 5) _) (o + 6) _) (o + 7) _
theorem set8_list (xs : List Value) (rest : List Value) (z0 z1 z2 z3 z4 z5 z6 z7 a0 a1 a2 a3 a4 a5 a6 a7 : Value) (o : Nat) (ho : o = xs.length) :
    (((((((((xs ++ z0 :: z1 :: z2 :: z3 :: z4 :: z5 :: z6 :: z7 :: rest).set o a0).set (o + 1) a1).set (o + 2) a2).set (o + 3) a3).set (o + 4) a4).set (o + 5) a5).set (o + 6) a6).set (o + 7) a7) = xs ++ a0 :: a1 :: a2 :: a3 :: a4 :: a5 :: a6 :: a7 :: rest := by
  subst ho
  rw [List.set_append_right _ _ (by omega), List.set_append_right _ _ (by omega), List.set_append_right _ _ (by omega), List.set_append_right _ _ (by omega), List.set_append_right _ _ (by omega), List.set_append_right _ _ (by omega), List.set_append_right _ _ (by omega), List.set_append_right _ _ (by omega)]
  simp
theorem set8_take (cur xs : List Value) (n : Nat) (hx : xs.length = n * 8) (ht : cur.take ((n + 1) * 8) = xs ++ zcell) (a0 a1 a2 a3 a4 a5 a6 a7 : Value) :
    (((((((((cur.set (n * 8) a0).set (n * 8 + 1) a1).set (n * 8 + 2) a2).set (n * 8 + 3) a3).set (n * 8 + 4) a4).set (n * 8 + 5) a5).set (n * 8 + 6) a6).set (n * 8 + 7) a7).take ((n + 1) * 8)) = xs ++ [a0, a1, a2, a3, a4, a5, a6, a7] := by
  have hcur : cur = xs ++ zcell ++ cur.drop ((n + 1) * 8) := by rw [← ht]; exact (List.take_append_drop _ _).symm
  generalize cur.drop ((n + 1) * 8) = rest at hcur
  have e := set8_list xs rest (.int .i64 0) (.int .i64 0) (.int .i64 0) (.int .i64 0) (.string ⟨#[]⟩) (.string ⟨#[]⟩) (.string ⟨#[]⟩) (.slice none 0 0) a0 a1 a2 a3 a4 a5 a6 a7 (n * 8) hx.symm
  rw [show cur = xs ++ .int .i64 0 :: .int .i64 0 :: .int .i64 0 :: .int .i64 0 :: .string ⟨#[]⟩ :: .string ⟨#[]⟩ :: .string ⟨#[]⟩ :: .slice none 0 0 :: rest by rw [hcur, List.append_assoc]; rfl, e]
  rw [show xs ++ a0 :: a1 :: a2 :: a3 :: a4 :: a5 :: a6 :: a7 :: rest = (xs ++ [a0, a1, a2, a3, a4, a5, a6, a7]) ++ rest by rw [List.append_assoc]; rfl]
  refine List.take_left' ?_
  rw [List.length_append, hx]; show n * 8 + 8 = _; omega
theorem put8_own {b g n cap : Nat} {xs : List Value} {W : World} (h : W.ownsRow b 37 8 (.slice (some ⟨g, 0, none⟩) (n + 1) cap) (n + 1) (xs ++ zcell)) (hx : xs.length = n * 8) (x : XQ) :
    (put8 W g (n * 8) x).ownsRow b 37 8 (.slice (some ⟨g, 0, none⟩) (n + 1) cap) (n + 1) (xs ++ xcell x) := by
  rcases h.2 with ⟨hbad, _⟩ | ⟨g', cap', cur, hv, hb, hg, hc, hm, hs, ht⟩
  · cases hbad
  have hg2 : g' = g := by injection hv with e1; injection e1 with e4; injection e4 with e5; exact e5.symm
  have hc2 : cap' = cap := by injection hv with _ _ e3; exact e3.symm
  subst hg2 hc2
  refine ⟨by rw [List.length_append, hx]; show n * 8 + 8 = _; omega, .inr ⟨g', cap', _, rfl, hb, put8_box hg x, hc, hm, ?_, ?_⟩⟩
  · simp only [Array.size_setIfInBounds]; exact hs
  · simp only [Array.toList_setIfInBounds]
    exact set8_take _ _ _ hx ht _ _ _ _ _ _ _ _
theorem PK.blk {b u : Nat} {W : World} {v : Value} {q : List XQ} {L : List Ex} (h : PK b u W v q L) : ∀ k, v.ownBlock = some k → k < W.heap.size := fun k e => (h.own.lt k e).2
/-- One more. -/
theorem PK.grow {b u : Nat} {W : World} {v : Value} {q : List XQ} {L : List Ex} (h : PK b u W v q L) {x : Ex} {A3 : Option Addr} {cap3 : Nat} (hle : x.kids.length ≤ cap3) (hx : XsB (Op8 b W v) W x.kids A3) {g' cap' : Nat} {w1 F : World}
    (ho : w1.ownsRow b 37 8 (.slice (some ⟨g', 0, none⟩) (L.length + 1) cap') (L.length + 1) (xcells q ++ zcell)) (hg : W.grownBy w1 (some g')) (hbg : b ≤ g') (hold : g' < W.heap.size → v.ownBlock = some g' ∧ ∃ o, W.heap[g']? = some o ∧ Big o)
    (hsz : F.heap.size = w1.heap.size) (hu : Boxed F u 35 (.slice (some ⟨g', 0, none⟩) (L.length + 1) cap')) (hF : ∀ k, k ≠ u → F.heap[k]? = (put8 w1 g' (L.length * 8) (x.hd, A3, x.kids.length, cap3)).heap[k]?) :
    PK b u F (.slice (some ⟨g', 0, none⟩) (L.length + 1) cap') (q ++ [(x.hd, A3, x.kids.length, cap3)]) (L ++ [x]) := by
  have hub := h.ub
  have hlb := h.le
  have hgs := hg.size
  have keep : ∀ k, Op8 b W v k → F.heap[k]? = W.heap[k]? := fun k hk => by
    have h1 := hk.1
    have h2 := hk.2.1
    have hne : k ≠ g' := fun e => by
      subst e
      exact hk.2.2.1 (hold h2).1
    rw [hF k (by omega), put8_other hne, hg.block k h2 (fun e => hne (by cases e; rfl))]
  have hB : ∀ k, Op8 b W v k → Op8 b F (.slice (some ⟨g', 0, none⟩) (L.length + 1) cap') k := fun k hk => by
    have h1 := hk.1
    have h2 := hk.2.1
    refine ⟨h1, by omega, fun e => ?_, hk.2.2.2.of (keep k hk)⟩
    simp only [Value.ownBlock, Option.some.injEq] at e
    subst e
    exact hk.2.2.1 (hold h2).1
  have hq : (xcells q).length = L.length * 8 := by rw [xcells_len, h.kids.len]
  have hr := put8_own ho hq (x.hd, A3, x.kids.length, cap3)
  refine ⟨hu, (h.kids.go keep hB).snoc ⟨rfl, rfl, hle, XsB.go keep hB _ _ hx⟩, ?_, fun e => by simp at e, by omega, hub⟩
  have e1 : xcells (q ++ [(x.hd, A3, x.kids.length, cap3)]) = xcells q ++ xcell (x.hd, A3, x.kids.length, cap3) := by rw [xcells_app]; simp [xcells]
  rw [e1, List.length_append]
  refine ⟨hr.1, ?_⟩
  rcases hr.2 with ⟨hbad, _⟩ | ⟨g2, cap2, cur, hv, hb2, hg2, hrest⟩
  · cases hbad
  have e2 : g' = g2 := by have := congrArg Value.ownBlock hv; simpa [Value.ownBlock] using this
  subst e2
  exact .inr ⟨g', cap2, cur, hv, hb2, (hF g' (by omega)).trans hg2, hrest⟩
theorem PK.kept {u : Nat} {W : World} {n : Nat} {x : XQ} {g' : Nat} {w1 F : World} (hg : W.grownBy w1 (some g')) {v : Value} (hold : g' < W.heap.size → v.ownBlock = some g' ∧ ∃ o, W.heap[g']? = some o ∧ Big o)
    (hF : ∀ k, k ≠ u → F.heap[k]? = (put8 w1 g' (n * 8) x).heap[k]?) (k : Nat) (hk : k < W.heap.size) (hu : k ≠ u) (hb : ∀ o, W.heap[k]? = some o → ¬ Big o) : F.heap[k]? = W.heap[k]? := by
  have hne : k ≠ g' := fun e => by
    subst e
    obtain ⟨_, o, ho, hbg⟩ := hold hk
    exact hb o ho hbg
  rw [hF k hu, put8_other hne, hg.block k hk (fun e => hne (by cases e; rfl))]
/-- What the list reads as. -/
theorem PK.list {b u : Nat} {W : World} {v : Value} {q : List XQ} {L : List Ex} (h : PK b u W v q L) : ∃ A cap, v = .slice A L.length cap ∧ L.length ≤ cap ∧ XsAt W.heap.size W L A := by
  rcases h.own.2 with ⟨rfl, h0⟩ | ⟨g, cap, cur, hv, hb1, hg, hc, _⟩
  · obtain rfl := List.eq_nil_of_length_eq_zero h0
    exact ⟨none, 0, rfl, Nat.le_refl _, by rw [XsAt, XsB]; trivial⟩
  · have hgl := (Array.getElem?_eq_some_iff.1 hg).1
    refine ⟨_, cap, hv, hc, XRs.xsB (B := fun k => k < W.heap.size) hgl (h.kids.go (fun _ _ => rfl) (fun k hk => hk.2.1)) fun j u hj => ?_⟩
    have := h.own.cells (g := g) (by rw [hv]; rfl) j u hj
    rw [show (⟨g, 0, none⟩ : Addr).add j = ⟨g, j, none⟩ by simp only [Addr.add]; split <;> simp_all] at this
    rwa [Nat.zero_add]
end Go.Proofs.YtfjimoccliejdaaGreatDoor
end
section
namespace Go.Proofs.YtfjimoccliejdaaGreatDoor
open Go.RowKit Go.Shelf

/-- A list that is told, in whatever memory. -/
def ListBack (w : World) (l : List Ex) (e : Ending) (w' : World) : Prop :=
  ∃ A cap, e = .returned (.slice A l.length cap) ∧ l.length ≤ cap ∧ XsAt w'.heap.size w' l A ∧ Below w.heap.size w w'
theorem XsB.rows {B : Nat → Prop} {w : World} : ∀ {l : List Ex} {g o : Nat}, XsB B w l (some ⟨g, o, none⟩) → ∃ q, XRs B w l q ∧ ∀ j u, (xcells q)[j]? = some u → w.cell? ⟨g, o + j, none⟩ = some u
  | [], g, o, _ => ⟨[], .nil, fun j u h => by simp [xcells] at h⟩
  | .mk h l :: r, g, o, H => by
    rw [XsB] at H
    obtain ⟨g', o', e, hg, ⟨A', cap, hc, hl, h1⟩, h2⟩ := H
    simp only [Option.some.injEq, Addr.mk.injEq] at e
    obtain ⟨rfl, rfl, _⟩ := e
    obtain ⟨q, hq, hn⟩ := XsB.rows h2
    refine ⟨(h, A', l.length, cap) :: q, .cons ⟨rfl, rfl, hl, h1⟩ hq, fun j u hj => ?_⟩
    have e : xcells ((h, A', l.length, cap) :: q) = xcell (h, A', l.length, cap) ++ xcells q := rfl
    have e8 : (xcell (h, A', l.length, cap)).length = 8 := rfl
    rw [e] at hj
    by_cases h8 : j < 8
    · rw [List.getElem?_append_left (by omega)] at hj
      obtain ⟨c0, c1, c2, c3, c4, c5, c6, c7⟩ := hc
      rcases (show j = 0 ∨ j = 1 ∨ j = 2 ∨ j = 3 ∨ j = 4 ∨ j = 5 ∨ j = 6 ∨ j = 7 by omega) with rfl | rfl | rfl | rfl | rfl | rfl | rfl | rfl
      all_goals
        simp only [xcell, List.getElem?_cons_zero, List.getElem?_cons_succ, Option.some.injEq] at hj
        subst hj
        assumption
    · rw [List.getElem?_append_right (by omega), e8] at hj
      have := hn (j - 8) u hj
      rwa [show o + 8 + (j - 8) = o + j by omega] at this
end Go.Proofs.YtfjimoccliejdaaGreatDoor
end
