/-
  measure: which expressions may be, how large and deep they are.
Check, Size, Depth, Safe.
Plain: a text with each quote doubled is what ReplaceAll makes of it; digits of numbers. Nothing of the program stands here.
The contract of value.Show, over the library's ReplaceAll and Itoa.
show.
show, Show.
Which expressions may be, plainly, level by level: as the program's fold has it.
-/
import Derived.Test.YtofhaokaldpmaaaGreatDoorZ3
import Derived.Maps.AppendAt
import Derived.Lib.Replace
import Derived.Lib.IndexBytes
import Derived.Lib.ItoaNum
import Derived.Lib.LaidTab
import Derived.Sort.Grow
import Derived.WalkSmall
import Derived.Deep.RegionHeld3
section
namespace Go.Proofs.YtofhaokaldpmaaaGreatDoor
open Go.RowKit Go.Shelf
attribute [local go_sem] Oper.semAt_some

def aggl (a lv : Nat) : Nat := if lv ≤ a then 0 else a
/-- One more expression, gone through: the aggregate's level, how many, how deep. -/
def mstep : Option (Nat × Nat × Nat) → Ex × Nat → Option (Nat × Nat × Nat)
  | none, _ => none
  | some (a, s, d), (x, lv) =>
    if s = 512 ∨ 32 < lv ∨ (x.hd.k = 4 ∧ 0 < aggl a lv) ∨ fitsB x.hd x.kids.length = false then none
    else some (if x.hd.k = 4 then lv else aggl a lv, s + 1, max d lv)
def msr (ys : List (Ex × Nat)) : Option (Nat × Nat × Nat) := ys.foldl mstep (some (0, 0, 0))
theorem msr_snoc (ys : List (Ex × Nat)) (y : Ex × Nat) : msr (ys ++ [y]) = mstep (msr ys) y := by simp [msr]
theorem mstep_none : ∀ ys : List (Ex × Nat), ys.foldl mstep none = none
  | [] => rfl
  | y :: ys => by rw [List.foldl_cons]; exact mstep_none ys
theorem msr_pre {ys zs : List (Ex × Nat)} (h : ys <+: zs) (hn : msr ys = none) : msr zs = none := by
  obtain ⟨r, rfl⟩ := h
  unfold msr at hn ⊢
  rw [List.foldl_append, hn, mstep_none]
def measO (x : Ex) : Option (Nat × Nat) := (msr (preo x 1)).map (·.2)
def measV (x : Ex) : Value := match measO x with
  | some (s, d) => .tuple #[.int .i64 s, .int .i64 d, .bool true]
  | none => .tuple #[.int .i64 0, .int .i64 0, .bool false]

/-- The four boxes of measure. -/
structure MB (u1 u2 u3 u4 : Nat) (W : World) (s d a : Nat) (b : Bool) : Prop where
  s : Boxed W u1 3 (.int .i64 s)
  d : Boxed W u2 3 (.int .i64 d)
  b : Boxed W u3 4 (.bool b)
  a : Boxed W u4 3 (.int .i64 a)
theorem mstep_bad {a s d lv : Nat} {h : Hd} {l : List Ex} (hb : s = 512 ∨ 32 < lv ∨ (h.k = 4 ∧ 0 < aggl a lv) ∨ fitsB h l.length = false) : mstep (some (a, s, d)) (.mk h l, lv) = none := by
  rw [mstep]; exact if_pos hb
theorem mstep_agg {a s d lv D : Nat} {h : Hd} {l : List Ex} (hk : h.k = 4) (ha : aggl a lv = 0) (hs : ¬ s = 512) (hl : ¬ 32 < lv) (hf : fitsB h l.length = true) (hD : max d lv = D) : mstep (some (a, s, d)) (.mk h l, lv) = some (lv, s + 1, D) := by
  subst hD
  rw [mstep]
  refine (if_neg ?_).trans ?_
  · rintro (e | e | ⟨_, e⟩ | e)
    · exact hs e
    · exact hl e
    · omega
    · have e2 : fitsB h l.length = false := e
      rw [hf] at e2; cases e2
  · rw [show (Ex.mk h l).hd.k = 4 from hk]; rfl
theorem mstep_on {a s d lv D a1 : Nat} {h : Hd} {l : List Ex} (hk : ¬ h.k = 4) (hs : ¬ s = 512) (hl : ¬ 32 < lv) (hf : fitsB h l.length = true) (hD : max d lv = D) (ha : aggl a lv = a1) : mstep (some (a, s, d)) (.mk h l, lv) = some (a1, s + 1, D) := by
  subst hD ha
  rw [mstep]
  refine (if_neg ?_).trans ?_
  · rintro (e | e | ⟨e, _⟩ | e)
    · exact hs e
    · exact hl e
    · exact hk e
    · have e2 : fitsB h l.length = false := e
      rw [hf] at e2; cases e2
  · rw [if_neg (show ¬ (Ex.mk h l).hd.k = 4 from hk)]
theorem bt' {n : Nat} {w w1 w2 : World} (h1 : Below n w w1) (h2 : Below w1.heap.size w1 w2) (hn : n ≤ w1.heap.size := by first | exact h1.size | omega) : Below n w w2 := h1.trans (h2.mono hn)
theorem boxed_below {W W' : World} {B : Nat} {t : TypeId} {v : Value} (h : Boxed W B t v) (hb : Below W.heap.size W W') : Boxed W' B t v := (hb.block B h.lt).trans h
theorem MB.kept {u1 u2 u3 u4 : Nat} {W W' : World} {s d a : Nat} {b : Bool} (m : MB u1 u2 u3 u4 W s d a b) (hb : Below W.heap.size W W') : MB u1 u2 u3 u4 W' s d a b :=
  ⟨boxed_below m.s hb, boxed_below m.d hb, boxed_below m.b hb, boxed_below m.a hb⟩
theorem MB.cells {u1 u2 u3 u4 : Nat} {W : World} {s d a : Nat} {b : Bool} (m : MB u1 u2 u3 u4 W s d a b) :
    (W.cell? ⟨u1, 0, none⟩ = some (.int .i64 s) ∧ W.frozen? ⟨u1, 0, none⟩ = false) ∧ (W.cell? ⟨u2, 0, none⟩ = some (.int .i64 d) ∧ W.frozen? ⟨u2, 0, none⟩ = false) ∧ (W.cell? ⟨u3, 0, none⟩ = some (.bool b) ∧ W.frozen? ⟨u3, 0, none⟩ = false) ∧
    W.cell? ⟨u4, 0, none⟩ = some (.int .i64 a) ∧ W.frozen? ⟨u4, 0, none⟩ = false :=
  ⟨⟨m.s.cell, m.s.frozen⟩, ⟨m.d.cell, m.d.frozen⟩, ⟨m.b.cell, m.b.frozen⟩, m.a.cell, m.a.frozen⟩
theorem MB.lvl {u1 u2 u3 u4 : Nat} {W : World} {s d a : Nat} {b : Bool} (m : MB u1 u2 u3 u4 W s d a b) (h14 : u1 ≠ u4) (h24 : u2 ≠ u4) (h34 : u3 ≠ u4) (a' : Nat) : MB u1 u2 u3 u4 (W.setCell ⟨u4, 0, none⟩ (.int .i64 a')) s d a' b :=
  ⟨m.s.other h14 _, m.d.other h24 _, m.b.other h34 _, m.a.set _⟩
theorem MB.next {u1 u2 u3 u4 : Nat} {W : World} {s d a : Nat} {b : Bool} (m : MB u1 u2 u3 u4 W s d a b) (h12 : u1 ≠ u2) (h23 : u2 ≠ u3) (h14 : u1 ≠ u4) (h24 : u2 ≠ u4) (d' : Nat) (vd : Int) (hvd : vd = d') (h13 : u1 ≠ u3 := by omega) :
    MB u1 u2 u3 u4 ((W.setCell ⟨u1, 0, none⟩ (.int .i64 ((s : Int) + 1))).setCell ⟨u2, 0, none⟩ (.int .i64 vd)) (s + 1) d' a b := by
  subst hvd
  exact ⟨(m.s.set (.int .i64 ((s : Int) + 1))).other h12 _, (m.d.other h12.symm _).set _, (m.b.other h13.symm _).other h23.symm _, (m.a.other h14.symm _).other h24.symm _⟩
theorem MB.zero {u1 u2 u3 u4 : Nat} {W : World} {s d a : Nat} {b : Bool} (m : MB u1 u2 u3 u4 W s d a b) (h12 : u1 ≠ u2) (h23 : u2 ≠ u3) (h34 : u3 ≠ u4) (h13 : u1 ≠ u3 := by omega) (h14 : u1 ≠ u4 := by omega) (h24 : u2 ≠ u4 := by omega) :
    MB u1 u2 u3 u4 (((W.setCell ⟨u1, 0, none⟩ (.int .i64 0)).setCell ⟨u2, 0, none⟩ (.int .i64 0)).setCell ⟨u3, 0, none⟩ (.bool false)) 0 0 a false :=
  ⟨((m.s.set _).other h12 _).other h13 _, ((m.d.other h12.symm _).set _).other h23 _, ((m.b.other h13.symm _).other h23.symm _).set _, ((m.a.other h14.symm _).other h24.symm _).other h34.symm _⟩
theorem cells_put {W : World} {B D : Nat} {t : TypeId} {v : Value} {o o' : Obj} (h : Boxed W B t v) (hD : W.heap[D]? = some o) (ho : o.isCells = false) : (W.putObj D o').cell? ⟨B, 0, none⟩ = some v :=
  (h.kept (grownBy_putObj' W D o') (fun e => by
    obtain rfl : B = D := by simpa using e
    rw [show W.heap[B]? = _ from h] at hD; cases hD; cases ho)).cell
theorem MB.put' {u1 u2 u3 u4 : Nat} {W : World} {s d a : Nat} {b : Bool} (m : MB u1 u2 u3 u4 W s d a b) {D : Nat} {o o' : Obj} (hD : W.heap[D]? = some o) (ho : o.isCells = false) :
    (W.putObj D o').cell? ⟨u1, 0, none⟩ = some (.int .i64 s) ∧ (W.putObj D o').cell? ⟨u2, 0, none⟩ = some (.int .i64 d) ∧ (W.putObj D o').cell? ⟨u3, 0, none⟩ = some (.bool b) :=
  ⟨cells_put m.s hD ho, cells_put m.d hD ho, cells_put m.b hD ho⟩
theorem MB.ends {u1 u2 u3 u4 : Nat} {W : World} {s d a : Nat} {b : Bool} (m : MB u1 u2 u3 u4 W s d a b) (h12 : u1 ≠ u2) (h23 : u2 ≠ u3) (h34 : u3 ≠ u4) (h13 : u1 ≠ u3 := by omega) (h14 : u1 ≠ u4 := by omega) (h24 : u2 ≠ u4 := by omega) :
    MB u1 u2 u3 u4 (((W.setCell ⟨u1, 0, none⟩ (.int .i64 s)).setCell ⟨u2, 0, none⟩ (.int .i64 d)).setCell ⟨u3, 0, none⟩ (.bool true)) s d a true :=
  ⟨((m.s.set _).other h12 _).other h13 _, ((m.d.other h12.symm _).set _).other h23 _, ((m.b.other h13.symm _).other h23.symm _).set _, ((m.a.other h14.symm _).other h24.symm _).other h34.symm _⟩
theorem measV_some {x : Ex} {a s d : Nat} (h : msr (preo x 1) = some (a, s, d)) : measV x = .tuple #[.int .i64 s, .int .i64 d, .bool true] := by
  simp [measV, measO, h]
theorem measV_none {x : Ex} (h : msr (preo x 1) = none) : measV x = .tuple #[.int .i64 0, .int .i64 0, .bool false] := by
  simp [measV, measO, h]
theorem mstep_le {o : Option (Nat × Nat × Nat)} {y : Ex × Nat} {a s d : Nat} (h : mstep o y = some (a, s, d)) (ho : ∀ a s d, o = some (a, s, d) → a ≤ 32 ∧ s ≤ 512 ∧ d ≤ 32) : a ≤ 32 ∧ s ≤ 512 ∧ d ≤ 32 := by
  obtain ⟨x, lv⟩ := y
  cases o with
  | none => cases h
  | some o =>
    obtain ⟨a0, s0, d0⟩ := o
    have h0 := ho _ _ _ rfl
    have hA : aggl a0 lv ≤ 32 := by unfold aggl; split <;> omega
    by_cases hn : s0 = 512 ∨ 32 < lv ∨ (x.hd.k = 4 ∧ 0 < aggl a0 lv) ∨ fitsB x.hd x.kids.length = false
    · rw [mstep, if_pos hn] at h; cases h
    · rw [mstep, if_neg hn] at h
      simp only [Option.some.injEq, Prod.mk.injEq] at h
      obtain ⟨h1, h2, h3⟩ := h
      have hs : s0 ≠ 512 := fun e => hn (.inl e)
      have hl : ¬ 32 < lv := fun e => hn (.inr (.inl e))
      refine ⟨?_, by omega, by omega⟩
      rw [← h1]; split <;> omega
theorem msr_le : ∀ (ys : List (Ex × Nat)) {o : Option (Nat × Nat × Nat)} {a s d : Nat}, ys.foldl mstep o = some (a, s, d) → (∀ a s d, o = some (a, s, d) → a ≤ 32 ∧ s ≤ 512 ∧ d ≤ 32) → a ≤ 32 ∧ s ≤ 512 ∧ d ≤ 32
  | [], _, _, _, _, h, ho => ho _ _ _ h
  | y :: ys, _, _, _, _, h, ho => msr_le ys (by rw [List.foldl_cons] at h; exact h) (fun _ _ _ e => mstep_le e ho)

set_option maxRecDepth 100000 in
set_option maxHeartbeats 16000000 in
theorem measure_any (h : Hd) (lk : List Ex) (A : Option Addr) (cap : Nat) (w : World) (hX : XsAt w.heap.size w lk A) (hcap : lk.length ≤ cap) (hsm : AllSm (.mk h lk)) (hc : cnt (.mk h lk) ≤ 999999) (hT : Tabs w) :
    Calls Tryz.prog 49 #[XV h A lk.length cap] w fun e w' => e = .returned (measV (.mk h lk)) ∧ Below w.heap.size w w' := by
  have HT := Lib.hid hT
  have HXs := Lib.hid hX
  have HSm := Lib.hid hsm
  clear hT hX hsm
  refine (callsIn_wide (n := 9)).1 ?_
  refine callsIn_of_wp_marks Tryz.func49 rfl trivial ?_ rfl
  simp only [Tryz.ntmps49, List.size_toArray, List.length_cons, List.length_nil, Nat.reduceAdd, Nat.reduceSub, Array.replicate_succ, Array.replicate_zero, List.push_toArray, List.append_toArray, List.nil_append, List.cons_append]
  gi_wp2_with ((try refine ⟨trivial, ?_⟩); gi_at_call 67; refine (through_in Fence.wide _ trivial rfl _ _ _ _ _).mono ?_; rintro e w' ⟨rfl, rfl⟩)
  have bS := ((((Boxed.new (w.alloc (xbox h A lk.length cap)) 3 (.int .i64 0)).alloc (.cells #[.int .i64 0] 3)).alloc (.cells #[.bool false] 4)).alloc (.cells #[.int .i64 0] 3)).alloc (xbox h A lk.length cap)
  have bD := (((Boxed.new ((w.alloc (xbox h A lk.length cap)).alloc (.cells #[.int .i64 0] 3)) 3 (.int .i64 0)).alloc (.cells #[.bool false] 4)).alloc (.cells #[.int .i64 0] 3)).alloc (xbox h A lk.length cap)
  have bO := ((Boxed.new (((w.alloc (xbox h A lk.length cap)).alloc (.cells #[.int .i64 0] 3)).alloc (.cells #[.int .i64 0] 3)) 4 (.bool false)).alloc (.cells #[.int .i64 0] 3)).alloc (xbox h A lk.length cap)
  have bA := (Boxed.new ((((w.alloc (xbox h A lk.length cap)).alloc (.cells #[.int .i64 0] 3)).alloc (.cells #[.int .i64 0] 3)).alloc (.cells #[.bool false] 4)) 3 (.int .i64 0)).alloc (xbox h A lk.length cap)
  have bX := (MapKept.heap_alloc (((((w.alloc (xbox h A lk.length cap)).alloc (.cells #[.int .i64 0] 3)).alloc (.cells #[.int .i64 0] 3)).alloc (.cells #[.bool false] 4)).alloc (.cells #[.int .i64 0] 3)) (xbox h A lk.length cap)).1
  simp only [World.size_alloc] at bS bD bO bA bX
  have hB0 : Below w.heap.size w ((((((w.alloc (xbox h A lk.length cap)).alloc (.cells #[.int .i64 0] 3)).alloc (.cells #[.int .i64 0] 3)).alloc (.cells #[.bool false] 4)).alloc (.cells #[.int .i64 0] 3)).alloc (xbox h A lk.length cap)) :=
    bt (bt (ba2 w _ _) (ba2 _ _ _)) (ba2 _ _ _)
  have hsz0 : ((((((w.alloc (xbox h A lk.length cap)).alloc (.cells #[.int .i64 0] 3)).alloc (.cells #[.int .i64 0] 3)).alloc (.cells #[.bool false] 4)).alloc (.cells #[.int .i64 0] 3)).alloc (xbox h A lk.length cap)).heap.size = w.heap.size + 6 := by simp
  obtain ⟨W0, hW0⟩ : ∃ W0, (((((w.alloc (xbox h A lk.length cap)).alloc (.cells #[.int .i64 0] 3)).alloc (.cells #[.int .i64 0] 3)).alloc (.cells #[.bool false] 4)).alloc (.cells #[.int .i64 0] 3)).alloc (xbox h A lk.length cap) = W0 := ⟨_, rfl⟩
  rw [hW0] at bS bD bO bA bX hB0 hsz0 ⊢
  clear hW0
  obtain ⟨u1, hu1⟩ : ∃ u, w.heap.size + 1 = u := ⟨_, rfl⟩
  rw [hu1] at bS bD bO bA bX ⊢
  obtain ⟨u2, hu2⟩ : ∃ u, u1 + 1 = u := ⟨_, rfl⟩
  rw [hu2] at bD bO bA bX ⊢
  obtain ⟨u3, hu3⟩ : ∃ u, u2 + 1 = u := ⟨_, rfl⟩
  rw [hu3] at bO bA bX ⊢
  obtain ⟨u4, hu4⟩ : ∃ u, u3 + 1 = u := ⟨_, rfl⟩
  rw [hu4] at bA bX ⊢
  obtain ⟨u5, hu5⟩ : ∃ u, u4 + 1 = u := ⟨_, rfl⟩
  rw [hu5] at bX ⊢
  obtain ⟨S, hSd⟩ : ∃ S : Nat → Prop, (fun k => u1 ≤ k ∧ k ≤ u4) = S := ⟨_, rfl⟩
  have hSi : ∀ k, S k ↔ (u1 ≤ k ∧ k ≤ u4) := fun k => by rw [← hSd]
  have hS1 : S u1 := (hSi _).2 (by omega)
  have hS2 : S u2 := (hSi _).2 (by omega)
  have hS3 : S u3 := (hSi _).2 (by omega)
  have hS4 : S u4 := (hSi _).2 (by omega)
  have hSB : ∀ k, S k → k < W0.heap.size := fun k hk => by have := (hSi k).1 hk; omega
  have hSU : ∀ k, S k → w.heap.size ≤ k := fun k hk => by have := (hSi k).1 hk; omega
  have h12 : u1 ≠ u2 := by omega
  have h23 : u2 ≠ u3 := by omega
  have h34 : u3 ≠ u4 := by omega
  have h14 : u1 ≠ u4 := by omega
  have h24 : u2 ≠ u4 := by omega
  have hX0 : XsAt w.heap.size W0 lk A := HXs.out.kept hB0
  have own1 : ∀ {X Y : World} {row : Option Nat} {B : Nat} {t : TypeId} {v : Value}, Boxed X B t v → X.grownBy Y row → (∀ r, row = some r → W0.heap.size ≤ r ∧ ∃ o : Obj, X.heap[r]? = some o ∧ o.isCells = false) → Boxed Y B t v :=
    fun hb hg hr => boxed_own _ _ (fun (_ : Unit) => _) () _ _ _ hb hg (fun r e => (hr r e).2)
  have ownM : ∀ {X Y : World} {row : Option Nat} {s d a : Nat} {b : Bool}, MB u1 u2 u3 u4 X s d a b → X.grownBy Y row → (∀ r, row = some r → W0.heap.size ≤ r ∧ ∃ o : Obj, X.heap[r]? = some o ∧ o.isCells = false) → MB u1 u2 u3 u4 Y s d a b :=
    fun m hg hr => ⟨own1 m.s hg hr, own1 m.d hg hr, own1 m.b hg hr, own1 m.a hg hr⟩
  have ownB := @ownFrom_below Unit w.heap.size W0.heap.size w (Nat.le_refl _) (by omega)
  refine wpIn_rangeFunc_ownH rfl (by omega) (gf := 90) (lb := #[.pointer (some ⟨u5, 0, none⟩)]) rfl trivial (enters_of Tryz.func90 (by kernel_rfl) rfl)
    (through_stops Fence.wide rfl _ trivial trivial rfl u5 w.heap.size S (fun _ => False) (fun _ _ _ _ h => h) W0 ⟨⟨.mk h lk, A, cap, 1⟩, ⟨hX0, hcap, HSm.out, by simp only; omega⟩⟩ rfl (by omega) (by omega) hSB bX) KpS.trans (kpS_put (by omega)) (Below.refl _ _) (fun _ => rfl)
    (fun pre W => ∃ a s d b, msr (pre.map ndp) = some (a, s, d) ∧ MB u1 u2 u3 u4 W s d a b ∧ Below w.heap.size w W ∧ W0.heap.size ≤ W.heap.size)
    (fun c pre W => c = .ret ∧ msr (pre.map ndp) = none ∧ (∃ a, MB u1 u2 u3 u4 W 0 0 a false) ∧ Below w.heap.size w W)
    (fun pre X Y row hs hg hr => by
      obtain ⟨a, s, d, b, h1, h2, h3, h4⟩ := hs
      exact ⟨a, s, d, b, h1, ownM h2 hg hr, ownB () X Y row h3 hg hr, Nat.le_trans h4 hg.size⟩)
    (fun c pre X Y row hs hg hr => by
      obtain ⟨h0, h1, ⟨a, h2⟩, h3⟩ := hs
      exact ⟨h0, h1, ⟨a, ownM h2 hg hr⟩, ownB () X Y row h3 hg hr⟩)
    ⟨0, 0, 0, false, rfl, ⟨bS, bD, bO, bA⟩, hB0, Nat.le_refl _⟩
    (fun x a' W => ∃ Bx, u5 < Bx ∧ W.heap[Bx]? = some (xbox x.1.ex.hd x.1.A x.1.ex.kids.length x.1.cap) ∧
      a' = { tmps := #[XV h A lk.length cap, .pointer (some ⟨w.heap.size, 0, none⟩), .pointer (some ⟨u1, 0, none⟩), .pointer (some ⟨u2, 0, none⟩), .pointer (some ⟨u3, 0, none⟩), .pointer (some ⟨u4, 0, none⟩), .pointer (some ⟨Bx, 0, none⟩), .int .i64 x.1.lv, undef, XV h A lk.length cap, .func (.func 90) #[] #[.pointer (some ⟨u5, 0, none⟩)], XV x.1.ex.hd x.1.A x.1.ex.kids.length x.1.cap, .int .i64 x.1.lv, undef, undef, undef, undef, undef, undef, undef, undef, undef, undef, undef, undef, undef, undef, undef, undef, undef, undef, undef, undef, undef, undef, undef, undef, undef, undef, undef, undef, undef, undef, undef, undef, undef, undef, undef], defers := [] })
    (fun x a' _ X Y row hs hg hr => by
      obtain ⟨Bx, h1, h2, h3⟩ := hs
      refine ⟨Bx, h1, (hg.block Bx (Array.getElem?_eq_some_iff.1 h2).1 (fun e => ?_)).trans h2, h3⟩
      obtain ⟨_, o, ho, hoc⟩ := hr Bx e.symm
      rw [h2] at ho; cases ho; cases hoc)
    ?assign ?body ?done ?stop
  case assign =>
    rintro l pre x W K ⟨a, s, d, b, h1, h2, h3, h4⟩ hK
    gi_wp2
    exact hK _ _ ((KeepsOthers.alloc _ _).from _) ((Rd.of (S := S) (ba W _)).kp hSU (by omega)) ⟨a, s, d, b, h1, h2.kept (ba W _), bt' h3 (ba W _), by rw [World.size_alloc]; omega⟩ ⟨W.heap.size, by have := h2.a.lt; omega, (MapKept.heap_alloc W _).1, rfl⟩
  case body =>
    rintro l pre x a' W hl _ ⟨a, s, d, b, hms, hm, hB, hsz⟩ ⟨Bx, hBx, hXb, rfl⟩ hlt
    obtain ⟨hab, hsb, hdb⟩ := msr_le _ hms (fun a s d e => by cases e; exact ⟨by omega, by omega, by omega⟩)
    obtain ⟨⟨⟨⟨kk, nn, vk, vn, vs, tb, cl⟩, l'⟩, A', cap', lv⟩, ok⟩ := x
    have hlv := ok.lv
    have hcn := cnt_pos (.mk ⟨kk, nn, vk, vn, vs, tb, cl⟩ l')
    have hln : l'.length ≤ 1000000 := by have := cntL_len l'; simp only [cnt_mk] at hlv; omega
    simp only at hlv
    have Hms := Lib.hid hms
    have HM0 := Lib.hid hm
    obtain ⟨bf, hbf⟩ : ∃ bf, fitsB ⟨kk, nn, vk, vn, vs, tb, cl⟩ l'.length = bf := ⟨_, rfl⟩
    have Hbf := Lib.hid hbf
    have HF := Lib.hid (fun W1 (hb1 : Below w.heap.size w W1) => fits_any ⟨kk, nn, vk, vn, vs, tb, cl⟩ A' l'.length cap' W1 (by have := ok.sm; rw [AllSm] at this; exact this.1) (HT.out.kept hb1) (by omega))
    rw [hbf] at HF
    have hXb : W.heap[Bx]? = some (.cells #[.int .i64 kk, .int .i64 nn, .int .i64 vk, .int .i64 vn, .string vs, .string tb, .string cl, .slice A' l'.length cap'] 35 (0, 0)) := hXb
    have HX0 := Lib.hid hXb
    have HBl := Lib.hid (Array.getElem?_eq_some_iff.1 hXb).1
    obtain ⟨⟨k1, g1⟩, ⟨k2, g2⟩, ⟨k3, g3⟩, k4, g4⟩ := hm.cells
    obtain ⟨⟨y0, y1, y2, y3, y4, y5, y6, y7⟩, _⟩ := cell8 hXb
    clear hms hm hXb hbf
    by_cases hla : lv ≤ a
    · have hla1 : (lv : Int) ≤ (a : Int) := by omega
      have HM := Lib.hid (HM0.out.lvl h14 h24 h34 0)
      have HBc := Lib.hid (hB.setCell (p := ⟨u4, 0, none⟩) (by simp only; omega) (.int .i64 0))
      have HRc := Lib.hid ((Rd.refl S W).set (j := 0) hS4 (.int .i64 0))
      have HXb := Lib.hid ((setc_other (W := W) (U := u4) (k := Bx) (j := 0) (by omega) (.int .i64 0)).trans HX0.out)
      have HXl := Lib.hid (show Bx < (W.setCell ⟨u4, 0, none⟩ (.int .i64 0)).heap.size by rw [setc_size]; exact HBl.out)
      by_cases hk4 : kk = 4
      · subst hk4
        by_cases hs : s = 512
        · have hs1 : (s : Int) = 512 := by omega
          have HN := Lib.hid (show msr ((pre ++ [(⟨⟨.mk ⟨4, nn, vk, vn, vs, tb, cl⟩ l', A', cap', lv⟩, ok⟩ : NdS w.heap.size W0)]).map ndp) = none by rw [List.map_append, List.map_cons, List.map_nil, msr_snoc, Hms.out]; exact mstep_bad (.inl hs))
          gi_wp2_with ((try refine ⟨trivial, ?_⟩); gi_at_call 68; refine (CallsIn.inRound l (callsIn_wide.2 (HF.out _ HBc.out))).mono ?_; rintro e W5 ⟨rfl, hb5⟩; have m5 := HM.out.kept hb5; obtain ⟨⟨k1, g1⟩, ⟨k2, g2⟩, ⟨k3, g3⟩, k4, g4⟩ := m5.cells; have x5 := (hb5.block Bx HXl.out).trans HXb.out; have y0 := (cell8 x5).1.1; have HM5 := Lib.hid m5; have HR5 := Lib.hid (HRc.out.trans (Rd.of hb5)); have HB5 := Lib.hid (HBc.out.trans (hb5.mono HBc.out.size)); clear hb5 m5 x5)
          try (refine ⟨trivial, ?_⟩; gi_wp2)
          refine ⟨?_, rfl, HN.out, ?_, ?_⟩
          · first
              | exact (((HR5.out.set hS1 _).set hS2 _).set hS3 _).from hSB
              | exact (((HRc.out.set hS1 _).set hS2 _).set hS3 _).from hSB
          · first
              | exact ⟨_, HM5.out.zero h12 h23 h34⟩
              | exact ⟨_, HM.out.zero h12 h23 h34⟩
          · first
              | exact ((HB5.out.setCell (p := ⟨u1, 0, none⟩) (by simp only; omega) _).setCell (p := ⟨u2, 0, none⟩) (by simp only; omega) _).setCell (p := ⟨u3, 0, none⟩) (by simp only; omega) _
              | exact ((HBc.out.setCell (p := ⟨u1, 0, none⟩) (by simp only; omega) _).setCell (p := ⟨u2, 0, none⟩) (by simp only; omega) _).setCell (p := ⟨u3, 0, none⟩) (by simp only; omega) _
        · have hs1 : ¬ (s : Int) = 512 := by omega
          by_cases hl : 32 < lv
          · have hl1 : (32 : Int) < (lv : Int) := by omega
            omega
          · have hl1 : ¬ (32 : Int) < (lv : Int) := by omega
            cases hft : bf
            · have HFt := Lib.hid (Hbf.out.trans hft)
              subst hft
              have HN := Lib.hid (show msr ((pre ++ [(⟨⟨.mk ⟨4, nn, vk, vn, vs, tb, cl⟩ l', A', cap', lv⟩, ok⟩ : NdS w.heap.size W0)]).map ndp) = none by rw [List.map_append, List.map_cons, List.map_nil, msr_snoc, Hms.out]; exact mstep_bad (.inr (.inr (.inr HFt.out))))
              gi_wp2_with ((try refine ⟨trivial, ?_⟩); gi_at_call 68; refine (CallsIn.inRound l (callsIn_wide.2 (HF.out _ HBc.out))).mono ?_; rintro e W5 ⟨rfl, hb5⟩; have m5 := HM.out.kept hb5; obtain ⟨⟨k1, g1⟩, ⟨k2, g2⟩, ⟨k3, g3⟩, k4, g4⟩ := m5.cells; have x5 := (hb5.block Bx HXl.out).trans HXb.out; have y0 := (cell8 x5).1.1; have HM5 := Lib.hid m5; have HR5 := Lib.hid (HRc.out.trans (Rd.of hb5)); have HB5 := Lib.hid (HBc.out.trans (hb5.mono HBc.out.size)); clear hb5 m5 x5)
              try (refine ⟨trivial, ?_⟩; gi_wp2)
              refine ⟨?_, rfl, HN.out, ?_, ?_⟩
              · first
                  | exact (((HR5.out.set hS1 _).set hS2 _).set hS3 _).from hSB
                  | exact (((HRc.out.set hS1 _).set hS2 _).set hS3 _).from hSB
              · first
                  | exact ⟨_, HM5.out.zero h12 h23 h34⟩
                  | exact ⟨_, HM.out.zero h12 h23 h34⟩
              · first
                  | exact ((HB5.out.setCell (p := ⟨u1, 0, none⟩) (by simp only; omega) _).setCell (p := ⟨u2, 0, none⟩) (by simp only; omega) _).setCell (p := ⟨u3, 0, none⟩) (by simp only; omega) _
                  | exact ((HBc.out.setCell (p := ⟨u1, 0, none⟩) (by simp only; omega) _).setCell (p := ⟨u2, 0, none⟩) (by simp only; omega) _).setCell (p := ⟨u3, 0, none⟩) (by simp only; omega) _
            · have HFt := Lib.hid (Hbf.out.trans hft)
              subst hft
              have HN := Lib.hid (show msr ((pre ++ [(⟨⟨.mk ⟨4, nn, vk, vn, vs, tb, cl⟩ l', A', cap', lv⟩, ok⟩ : NdS w.heap.size W0)]).map ndp) = some (lv, s + 1, (max d lv)) by rw [List.map_append, List.map_cons, List.map_nil, msr_snoc, Hms.out]; exact mstep_agg rfl (by unfold aggl; split <;> omega) hs hl HFt.out rfl)
              gi_wp2_with ((try refine ⟨trivial, ?_⟩); gi_at_call 68; refine (CallsIn.inRound l (callsIn_wide.2 (HF.out _ HBc.out))).mono ?_; rintro e W5 ⟨rfl, hb5⟩; have m5 := HM.out.kept hb5; obtain ⟨⟨k1, g1⟩, ⟨k2, g2⟩, ⟨k3, g3⟩, k4, g4⟩ := m5.cells; have x5 := (hb5.block Bx HXl.out).trans HXb.out; have y0 := (cell8 x5).1.1; have HM5 := Lib.hid m5; have HR5 := Lib.hid (HRc.out.trans (Rd.of hb5)); have HB5 := Lib.hid (HBc.out.trans (hb5.mono HBc.out.size)); clear hb5 m5 x5)
              try (refine ⟨trivial, ?_⟩; gi_wp2)
              exact ⟨(((HR5.out.set hS4 _).set hS1 _).set hS2 _).from hSB, (((HR5.out.set hS4 _).set hS1 _).set hS2 _).kp hSU (by omega), _, _, _, _, HN.out, (HM5.out.lvl h14 h24 h34 lv).next h12 h23 h14 h24 (max d lv) (max (d : Int) lv) (by omega), ((HB5.out.setCell (p := ⟨u4, 0, none⟩) (by simp only; omega) _).setCell (p := ⟨u1, 0, none⟩) (by simp only; omega) _).setCell (p := ⟨u2, 0, none⟩) (by simp only; omega) _, Nat.le_trans hsz (((HR5.out.set hS4 _).set hS1 _).set hS2 _).size⟩
      · by_cases hs : s = 512
        · have hs1 : (s : Int) = 512 := by omega
          have HN := Lib.hid (show msr ((pre ++ [(⟨⟨.mk ⟨kk, nn, vk, vn, vs, tb, cl⟩ l', A', cap', lv⟩, ok⟩ : NdS w.heap.size W0)]).map ndp) = none by rw [List.map_append, List.map_cons, List.map_nil, msr_snoc, Hms.out]; exact mstep_bad (.inl hs))
          gi_wp2_with ((try refine ⟨trivial, ?_⟩); gi_at_call 68; refine (CallsIn.inRound l (callsIn_wide.2 (HF.out _ HBc.out))).mono ?_; rintro e W5 ⟨rfl, hb5⟩; have m5 := HM.out.kept hb5; obtain ⟨⟨k1, g1⟩, ⟨k2, g2⟩, ⟨k3, g3⟩, k4, g4⟩ := m5.cells; have x5 := (hb5.block Bx HXl.out).trans HXb.out; have y0 := (cell8 x5).1.1; have HM5 := Lib.hid m5; have HR5 := Lib.hid (HRc.out.trans (Rd.of hb5)); have HB5 := Lib.hid (HBc.out.trans (hb5.mono HBc.out.size)); clear hb5 m5 x5)
          try (refine ⟨trivial, ?_⟩; gi_wp2)
          refine ⟨?_, rfl, HN.out, ?_, ?_⟩
          · first
              | exact (((HR5.out.set hS1 _).set hS2 _).set hS3 _).from hSB
              | exact (((HRc.out.set hS1 _).set hS2 _).set hS3 _).from hSB
          · first
              | exact ⟨_, HM5.out.zero h12 h23 h34⟩
              | exact ⟨_, HM.out.zero h12 h23 h34⟩
          · first
              | exact ((HB5.out.setCell (p := ⟨u1, 0, none⟩) (by simp only; omega) _).setCell (p := ⟨u2, 0, none⟩) (by simp only; omega) _).setCell (p := ⟨u3, 0, none⟩) (by simp only; omega) _
              | exact ((HBc.out.setCell (p := ⟨u1, 0, none⟩) (by simp only; omega) _).setCell (p := ⟨u2, 0, none⟩) (by simp only; omega) _).setCell (p := ⟨u3, 0, none⟩) (by simp only; omega) _
        · have hs1 : ¬ (s : Int) = 512 := by omega
          by_cases hl : 32 < lv
          · have hl1 : (32 : Int) < (lv : Int) := by omega
            omega
          · have hl1 : ¬ (32 : Int) < (lv : Int) := by omega
            cases hft : bf
            · have HFt := Lib.hid (Hbf.out.trans hft)
              subst hft
              have HN := Lib.hid (show msr ((pre ++ [(⟨⟨.mk ⟨kk, nn, vk, vn, vs, tb, cl⟩ l', A', cap', lv⟩, ok⟩ : NdS w.heap.size W0)]).map ndp) = none by rw [List.map_append, List.map_cons, List.map_nil, msr_snoc, Hms.out]; exact mstep_bad (.inr (.inr (.inr HFt.out))))
              gi_wp2_with ((try refine ⟨trivial, ?_⟩); gi_at_call 68; refine (CallsIn.inRound l (callsIn_wide.2 (HF.out _ HBc.out))).mono ?_; rintro e W5 ⟨rfl, hb5⟩; have m5 := HM.out.kept hb5; obtain ⟨⟨k1, g1⟩, ⟨k2, g2⟩, ⟨k3, g3⟩, k4, g4⟩ := m5.cells; have x5 := (hb5.block Bx HXl.out).trans HXb.out; have y0 := (cell8 x5).1.1; have HM5 := Lib.hid m5; have HR5 := Lib.hid (HRc.out.trans (Rd.of hb5)); have HB5 := Lib.hid (HBc.out.trans (hb5.mono HBc.out.size)); clear hb5 m5 x5)
              try (refine ⟨trivial, ?_⟩; gi_wp2)
              refine ⟨?_, rfl, HN.out, ?_, ?_⟩
              · first
                  | exact (((HR5.out.set hS1 _).set hS2 _).set hS3 _).from hSB
                  | exact (((HRc.out.set hS1 _).set hS2 _).set hS3 _).from hSB
              · first
                  | exact ⟨_, HM5.out.zero h12 h23 h34⟩
                  | exact ⟨_, HM.out.zero h12 h23 h34⟩
              · first
                  | exact ((HB5.out.setCell (p := ⟨u1, 0, none⟩) (by simp only; omega) _).setCell (p := ⟨u2, 0, none⟩) (by simp only; omega) _).setCell (p := ⟨u3, 0, none⟩) (by simp only; omega) _
                  | exact ((HBc.out.setCell (p := ⟨u1, 0, none⟩) (by simp only; omega) _).setCell (p := ⟨u2, 0, none⟩) (by simp only; omega) _).setCell (p := ⟨u3, 0, none⟩) (by simp only; omega) _
            · have HFt := Lib.hid (Hbf.out.trans hft)
              subst hft
              have HN := Lib.hid (show msr ((pre ++ [(⟨⟨.mk ⟨kk, nn, vk, vn, vs, tb, cl⟩ l', A', cap', lv⟩, ok⟩ : NdS w.heap.size W0)]).map ndp) = some (0, s + 1, (max d lv)) by rw [List.map_append, List.map_cons, List.map_nil, msr_snoc, Hms.out]; exact mstep_on hk4 hs hl HFt.out rfl (by unfold aggl; first | rw [if_pos hla] | rw [if_neg hla]))
              gi_wp2_with ((try refine ⟨trivial, ?_⟩); gi_at_call 68; refine (CallsIn.inRound l (callsIn_wide.2 (HF.out _ HBc.out))).mono ?_; rintro e W5 ⟨rfl, hb5⟩; have m5 := HM.out.kept hb5; obtain ⟨⟨k1, g1⟩, ⟨k2, g2⟩, ⟨k3, g3⟩, k4, g4⟩ := m5.cells; have x5 := (hb5.block Bx HXl.out).trans HXb.out; have y0 := (cell8 x5).1.1; have HM5 := Lib.hid m5; have HR5 := Lib.hid (HRc.out.trans (Rd.of hb5)); have HB5 := Lib.hid (HBc.out.trans (hb5.mono HBc.out.size)); clear hb5 m5 x5)
              try (refine ⟨trivial, ?_⟩; gi_wp2)
              exact ⟨((HR5.out.set hS1 _).set hS2 _).from hSB, ((HR5.out.set hS1 _).set hS2 _).kp hSU (by omega), _, _, _, _, HN.out, HM5.out.next h12 h23 h14 h24 (max d lv) (max (d : Int) lv) (by omega), (HB5.out.setCell (p := ⟨u1, 0, none⟩) (by simp only; omega) _).setCell (p := ⟨u2, 0, none⟩) (by simp only; omega) _, Nat.le_trans hsz ((HR5.out.set hS1 _).set hS2 _).size⟩
    · have hla1 : ¬ (lv : Int) ≤ (a : Int) := by omega
      have HM := HM0
      have HBc := Lib.hid hB
      have HRc := Lib.hid (Rd.refl S W)
      have HXb := HX0
      have HXl := HBl
      by_cases hk4 : kk = 4
      · subst hk4
        by_cases ha : a = 0
        · have ha1 : ¬ (0 : Int) < (a : Int) := by omega
          have ha2 : ¬ 0 < a := by omega
          by_cases hs : s = 512
          · have hs1 : (s : Int) = 512 := by omega
            have HN := Lib.hid (show msr ((pre ++ [(⟨⟨.mk ⟨4, nn, vk, vn, vs, tb, cl⟩ l', A', cap', lv⟩, ok⟩ : NdS w.heap.size W0)]).map ndp) = none by rw [List.map_append, List.map_cons, List.map_nil, msr_snoc, Hms.out]; exact mstep_bad (.inl hs))
            gi_wp2_with ((try refine ⟨trivial, ?_⟩); gi_at_call 68; refine (CallsIn.inRound l (callsIn_wide.2 (HF.out _ HBc.out))).mono ?_; rintro e W5 ⟨rfl, hb5⟩; have m5 := HM.out.kept hb5; obtain ⟨⟨k1, g1⟩, ⟨k2, g2⟩, ⟨k3, g3⟩, k4, g4⟩ := m5.cells; have x5 := (hb5.block Bx HXl.out).trans HXb.out; have y0 := (cell8 x5).1.1; have HM5 := Lib.hid m5; have HR5 := Lib.hid (HRc.out.trans (Rd.of hb5)); have HB5 := Lib.hid (HBc.out.trans (hb5.mono HBc.out.size)); clear hb5 m5 x5)
            try (refine ⟨trivial, ?_⟩; gi_wp2)
            refine ⟨?_, rfl, HN.out, ?_, ?_⟩
            · first
                | exact (((HR5.out.set hS1 _).set hS2 _).set hS3 _).from hSB
                | exact (((HRc.out.set hS1 _).set hS2 _).set hS3 _).from hSB
            · first
                | exact ⟨_, HM5.out.zero h12 h23 h34⟩
                | exact ⟨_, HM.out.zero h12 h23 h34⟩
            · first
                | exact ((HB5.out.setCell (p := ⟨u1, 0, none⟩) (by simp only; omega) _).setCell (p := ⟨u2, 0, none⟩) (by simp only; omega) _).setCell (p := ⟨u3, 0, none⟩) (by simp only; omega) _
                | exact ((HBc.out.setCell (p := ⟨u1, 0, none⟩) (by simp only; omega) _).setCell (p := ⟨u2, 0, none⟩) (by simp only; omega) _).setCell (p := ⟨u3, 0, none⟩) (by simp only; omega) _
          · have hs1 : ¬ (s : Int) = 512 := by omega
            by_cases hl : 32 < lv
            · have hl1 : (32 : Int) < (lv : Int) := by omega
              have HN := Lib.hid (show msr ((pre ++ [(⟨⟨.mk ⟨4, nn, vk, vn, vs, tb, cl⟩ l', A', cap', lv⟩, ok⟩ : NdS w.heap.size W0)]).map ndp) = none by rw [List.map_append, List.map_cons, List.map_nil, msr_snoc, Hms.out]; exact mstep_bad (.inr (.inl hl)))
              gi_wp2_with ((try refine ⟨trivial, ?_⟩); gi_at_call 68; refine (CallsIn.inRound l (callsIn_wide.2 (HF.out _ HBc.out))).mono ?_; rintro e W5 ⟨rfl, hb5⟩; have m5 := HM.out.kept hb5; obtain ⟨⟨k1, g1⟩, ⟨k2, g2⟩, ⟨k3, g3⟩, k4, g4⟩ := m5.cells; have x5 := (hb5.block Bx HXl.out).trans HXb.out; have y0 := (cell8 x5).1.1; have HM5 := Lib.hid m5; have HR5 := Lib.hid (HRc.out.trans (Rd.of hb5)); have HB5 := Lib.hid (HBc.out.trans (hb5.mono HBc.out.size)); clear hb5 m5 x5)
              try (refine ⟨trivial, ?_⟩; gi_wp2)
              refine ⟨?_, rfl, HN.out, ?_, ?_⟩
              · first
                  | exact (((HR5.out.set hS1 _).set hS2 _).set hS3 _).from hSB
                  | exact (((HRc.out.set hS1 _).set hS2 _).set hS3 _).from hSB
              · first
                  | exact ⟨_, HM5.out.zero h12 h23 h34⟩
                  | exact ⟨_, HM.out.zero h12 h23 h34⟩
              · first
                  | exact ((HB5.out.setCell (p := ⟨u1, 0, none⟩) (by simp only; omega) _).setCell (p := ⟨u2, 0, none⟩) (by simp only; omega) _).setCell (p := ⟨u3, 0, none⟩) (by simp only; omega) _
                  | exact ((HBc.out.setCell (p := ⟨u1, 0, none⟩) (by simp only; omega) _).setCell (p := ⟨u2, 0, none⟩) (by simp only; omega) _).setCell (p := ⟨u3, 0, none⟩) (by simp only; omega) _
            · have hl1 : ¬ (32 : Int) < (lv : Int) := by omega
              cases hft : bf
              · have HFt := Lib.hid (Hbf.out.trans hft)
                subst hft
                have HN := Lib.hid (show msr ((pre ++ [(⟨⟨.mk ⟨4, nn, vk, vn, vs, tb, cl⟩ l', A', cap', lv⟩, ok⟩ : NdS w.heap.size W0)]).map ndp) = none by rw [List.map_append, List.map_cons, List.map_nil, msr_snoc, Hms.out]; exact mstep_bad (.inr (.inr (.inr HFt.out))))
                gi_wp2_with ((try refine ⟨trivial, ?_⟩); gi_at_call 68; refine (CallsIn.inRound l (callsIn_wide.2 (HF.out _ HBc.out))).mono ?_; rintro e W5 ⟨rfl, hb5⟩; have m5 := HM.out.kept hb5; obtain ⟨⟨k1, g1⟩, ⟨k2, g2⟩, ⟨k3, g3⟩, k4, g4⟩ := m5.cells; have x5 := (hb5.block Bx HXl.out).trans HXb.out; have y0 := (cell8 x5).1.1; have HM5 := Lib.hid m5; have HR5 := Lib.hid (HRc.out.trans (Rd.of hb5)); have HB5 := Lib.hid (HBc.out.trans (hb5.mono HBc.out.size)); clear hb5 m5 x5)
                try (refine ⟨trivial, ?_⟩; gi_wp2)
                refine ⟨?_, rfl, HN.out, ?_, ?_⟩
                · first
                    | exact (((HR5.out.set hS1 _).set hS2 _).set hS3 _).from hSB
                    | exact (((HRc.out.set hS1 _).set hS2 _).set hS3 _).from hSB
                · first
                    | exact ⟨_, HM5.out.zero h12 h23 h34⟩
                    | exact ⟨_, HM.out.zero h12 h23 h34⟩
                · first
                    | exact ((HB5.out.setCell (p := ⟨u1, 0, none⟩) (by simp only; omega) _).setCell (p := ⟨u2, 0, none⟩) (by simp only; omega) _).setCell (p := ⟨u3, 0, none⟩) (by simp only; omega) _
                    | exact ((HBc.out.setCell (p := ⟨u1, 0, none⟩) (by simp only; omega) _).setCell (p := ⟨u2, 0, none⟩) (by simp only; omega) _).setCell (p := ⟨u3, 0, none⟩) (by simp only; omega) _
              · have HFt := Lib.hid (Hbf.out.trans hft)
                subst hft
                have HN := Lib.hid (show msr ((pre ++ [(⟨⟨.mk ⟨4, nn, vk, vn, vs, tb, cl⟩ l', A', cap', lv⟩, ok⟩ : NdS w.heap.size W0)]).map ndp) = some (lv, s + 1, (max d lv)) by rw [List.map_append, List.map_cons, List.map_nil, msr_snoc, Hms.out]; exact mstep_agg rfl (by unfold aggl; split <;> omega) hs hl HFt.out rfl)
                gi_wp2_with ((try refine ⟨trivial, ?_⟩); gi_at_call 68; refine (CallsIn.inRound l (callsIn_wide.2 (HF.out _ HBc.out))).mono ?_; rintro e W5 ⟨rfl, hb5⟩; have m5 := HM.out.kept hb5; obtain ⟨⟨k1, g1⟩, ⟨k2, g2⟩, ⟨k3, g3⟩, k4, g4⟩ := m5.cells; have x5 := (hb5.block Bx HXl.out).trans HXb.out; have y0 := (cell8 x5).1.1; have HM5 := Lib.hid m5; have HR5 := Lib.hid (HRc.out.trans (Rd.of hb5)); have HB5 := Lib.hid (HBc.out.trans (hb5.mono HBc.out.size)); clear hb5 m5 x5)
                try (refine ⟨trivial, ?_⟩; gi_wp2)
                exact ⟨(((HR5.out.set hS4 _).set hS1 _).set hS2 _).from hSB, (((HR5.out.set hS4 _).set hS1 _).set hS2 _).kp hSU (by omega), _, _, _, _, HN.out, (HM5.out.lvl h14 h24 h34 lv).next h12 h23 h14 h24 (max d lv) (max (d : Int) lv) (by omega), ((HB5.out.setCell (p := ⟨u4, 0, none⟩) (by simp only; omega) _).setCell (p := ⟨u1, 0, none⟩) (by simp only; omega) _).setCell (p := ⟨u2, 0, none⟩) (by simp only; omega) _, Nat.le_trans hsz (((HR5.out.set hS4 _).set hS1 _).set hS2 _).size⟩
        · have ha1 : (0 : Int) < (a : Int) := by omega
          have ha2 : 0 < a := by omega
          by_cases hs : s = 512
          · have hs1 : (s : Int) = 512 := by omega
            have HN := Lib.hid (show msr ((pre ++ [(⟨⟨.mk ⟨4, nn, vk, vn, vs, tb, cl⟩ l', A', cap', lv⟩, ok⟩ : NdS w.heap.size W0)]).map ndp) = none by rw [List.map_append, List.map_cons, List.map_nil, msr_snoc, Hms.out]; exact mstep_bad (.inl hs))
            gi_wp2_with ((try refine ⟨trivial, ?_⟩); gi_at_call 68; refine (CallsIn.inRound l (callsIn_wide.2 (HF.out _ HBc.out))).mono ?_; rintro e W5 ⟨rfl, hb5⟩; have m5 := HM.out.kept hb5; obtain ⟨⟨k1, g1⟩, ⟨k2, g2⟩, ⟨k3, g3⟩, k4, g4⟩ := m5.cells; have x5 := (hb5.block Bx HXl.out).trans HXb.out; have y0 := (cell8 x5).1.1; have HM5 := Lib.hid m5; have HR5 := Lib.hid (HRc.out.trans (Rd.of hb5)); have HB5 := Lib.hid (HBc.out.trans (hb5.mono HBc.out.size)); clear hb5 m5 x5)
            try (refine ⟨trivial, ?_⟩; gi_wp2)
            refine ⟨?_, rfl, HN.out, ?_, ?_⟩
            · first
                | exact (((HR5.out.set hS1 _).set hS2 _).set hS3 _).from hSB
                | exact (((HRc.out.set hS1 _).set hS2 _).set hS3 _).from hSB
            · first
                | exact ⟨_, HM5.out.zero h12 h23 h34⟩
                | exact ⟨_, HM.out.zero h12 h23 h34⟩
            · first
                | exact ((HB5.out.setCell (p := ⟨u1, 0, none⟩) (by simp only; omega) _).setCell (p := ⟨u2, 0, none⟩) (by simp only; omega) _).setCell (p := ⟨u3, 0, none⟩) (by simp only; omega) _
                | exact ((HBc.out.setCell (p := ⟨u1, 0, none⟩) (by simp only; omega) _).setCell (p := ⟨u2, 0, none⟩) (by simp only; omega) _).setCell (p := ⟨u3, 0, none⟩) (by simp only; omega) _
          · have hs1 : ¬ (s : Int) = 512 := by omega
            by_cases hl : 32 < lv
            · have hl1 : (32 : Int) < (lv : Int) := by omega
              have HN := Lib.hid (show msr ((pre ++ [(⟨⟨.mk ⟨4, nn, vk, vn, vs, tb, cl⟩ l', A', cap', lv⟩, ok⟩ : NdS w.heap.size W0)]).map ndp) = none by rw [List.map_append, List.map_cons, List.map_nil, msr_snoc, Hms.out]; exact mstep_bad (.inr (.inl hl)))
              gi_wp2_with ((try refine ⟨trivial, ?_⟩); gi_at_call 68; refine (CallsIn.inRound l (callsIn_wide.2 (HF.out _ HBc.out))).mono ?_; rintro e W5 ⟨rfl, hb5⟩; have m5 := HM.out.kept hb5; obtain ⟨⟨k1, g1⟩, ⟨k2, g2⟩, ⟨k3, g3⟩, k4, g4⟩ := m5.cells; have x5 := (hb5.block Bx HXl.out).trans HXb.out; have y0 := (cell8 x5).1.1; have HM5 := Lib.hid m5; have HR5 := Lib.hid (HRc.out.trans (Rd.of hb5)); have HB5 := Lib.hid (HBc.out.trans (hb5.mono HBc.out.size)); clear hb5 m5 x5)
              try (refine ⟨trivial, ?_⟩; gi_wp2)
              refine ⟨?_, rfl, HN.out, ?_, ?_⟩
              · first
                  | exact (((HR5.out.set hS1 _).set hS2 _).set hS3 _).from hSB
                  | exact (((HRc.out.set hS1 _).set hS2 _).set hS3 _).from hSB
              · first
                  | exact ⟨_, HM5.out.zero h12 h23 h34⟩
                  | exact ⟨_, HM.out.zero h12 h23 h34⟩
              · first
                  | exact ((HB5.out.setCell (p := ⟨u1, 0, none⟩) (by simp only; omega) _).setCell (p := ⟨u2, 0, none⟩) (by simp only; omega) _).setCell (p := ⟨u3, 0, none⟩) (by simp only; omega) _
                  | exact ((HBc.out.setCell (p := ⟨u1, 0, none⟩) (by simp only; omega) _).setCell (p := ⟨u2, 0, none⟩) (by simp only; omega) _).setCell (p := ⟨u3, 0, none⟩) (by simp only; omega) _
            · have hl1 : ¬ (32 : Int) < (lv : Int) := by omega
              have HN := Lib.hid (show msr ((pre ++ [(⟨⟨.mk ⟨4, nn, vk, vn, vs, tb, cl⟩ l', A', cap', lv⟩, ok⟩ : NdS w.heap.size W0)]).map ndp) = none by rw [List.map_append, List.map_cons, List.map_nil, msr_snoc, Hms.out]; exact mstep_bad (.inr (.inr (.inl ⟨rfl, by unfold aggl; rw [if_neg hla]; exact ha2⟩))))
              gi_wp2_with ((try refine ⟨trivial, ?_⟩); gi_at_call 68; refine (CallsIn.inRound l (callsIn_wide.2 (HF.out _ HBc.out))).mono ?_; rintro e W5 ⟨rfl, hb5⟩; have m5 := HM.out.kept hb5; obtain ⟨⟨k1, g1⟩, ⟨k2, g2⟩, ⟨k3, g3⟩, k4, g4⟩ := m5.cells; have x5 := (hb5.block Bx HXl.out).trans HXb.out; have y0 := (cell8 x5).1.1; have HM5 := Lib.hid m5; have HR5 := Lib.hid (HRc.out.trans (Rd.of hb5)); have HB5 := Lib.hid (HBc.out.trans (hb5.mono HBc.out.size)); clear hb5 m5 x5)
              try (refine ⟨trivial, ?_⟩; gi_wp2)
              refine ⟨?_, rfl, HN.out, ?_, ?_⟩
              · first
                  | exact (((HR5.out.set hS1 _).set hS2 _).set hS3 _).from hSB
                  | exact (((HRc.out.set hS1 _).set hS2 _).set hS3 _).from hSB
              · first
                  | exact ⟨_, HM5.out.zero h12 h23 h34⟩
                  | exact ⟨_, HM.out.zero h12 h23 h34⟩
              · first
                  | exact ((HB5.out.setCell (p := ⟨u1, 0, none⟩) (by simp only; omega) _).setCell (p := ⟨u2, 0, none⟩) (by simp only; omega) _).setCell (p := ⟨u3, 0, none⟩) (by simp only; omega) _
                  | exact ((HBc.out.setCell (p := ⟨u1, 0, none⟩) (by simp only; omega) _).setCell (p := ⟨u2, 0, none⟩) (by simp only; omega) _).setCell (p := ⟨u3, 0, none⟩) (by simp only; omega) _
      · by_cases hs : s = 512
        · have hs1 : (s : Int) = 512 := by omega
          have HN := Lib.hid (show msr ((pre ++ [(⟨⟨.mk ⟨kk, nn, vk, vn, vs, tb, cl⟩ l', A', cap', lv⟩, ok⟩ : NdS w.heap.size W0)]).map ndp) = none by rw [List.map_append, List.map_cons, List.map_nil, msr_snoc, Hms.out]; exact mstep_bad (.inl hs))
          gi_wp2_with ((try refine ⟨trivial, ?_⟩); gi_at_call 68; refine (CallsIn.inRound l (callsIn_wide.2 (HF.out _ HBc.out))).mono ?_; rintro e W5 ⟨rfl, hb5⟩; have m5 := HM.out.kept hb5; obtain ⟨⟨k1, g1⟩, ⟨k2, g2⟩, ⟨k3, g3⟩, k4, g4⟩ := m5.cells; have x5 := (hb5.block Bx HXl.out).trans HXb.out; have y0 := (cell8 x5).1.1; have HM5 := Lib.hid m5; have HR5 := Lib.hid (HRc.out.trans (Rd.of hb5)); have HB5 := Lib.hid (HBc.out.trans (hb5.mono HBc.out.size)); clear hb5 m5 x5)
          try (refine ⟨trivial, ?_⟩; gi_wp2)
          refine ⟨?_, rfl, HN.out, ?_, ?_⟩
          · first
              | exact (((HR5.out.set hS1 _).set hS2 _).set hS3 _).from hSB
              | exact (((HRc.out.set hS1 _).set hS2 _).set hS3 _).from hSB
          · first
              | exact ⟨_, HM5.out.zero h12 h23 h34⟩
              | exact ⟨_, HM.out.zero h12 h23 h34⟩
          · first
              | exact ((HB5.out.setCell (p := ⟨u1, 0, none⟩) (by simp only; omega) _).setCell (p := ⟨u2, 0, none⟩) (by simp only; omega) _).setCell (p := ⟨u3, 0, none⟩) (by simp only; omega) _
              | exact ((HBc.out.setCell (p := ⟨u1, 0, none⟩) (by simp only; omega) _).setCell (p := ⟨u2, 0, none⟩) (by simp only; omega) _).setCell (p := ⟨u3, 0, none⟩) (by simp only; omega) _
        · have hs1 : ¬ (s : Int) = 512 := by omega
          by_cases hl : 32 < lv
          · have hl1 : (32 : Int) < (lv : Int) := by omega
            have HN := Lib.hid (show msr ((pre ++ [(⟨⟨.mk ⟨kk, nn, vk, vn, vs, tb, cl⟩ l', A', cap', lv⟩, ok⟩ : NdS w.heap.size W0)]).map ndp) = none by rw [List.map_append, List.map_cons, List.map_nil, msr_snoc, Hms.out]; exact mstep_bad (.inr (.inl hl)))
            gi_wp2_with ((try refine ⟨trivial, ?_⟩); gi_at_call 68; refine (CallsIn.inRound l (callsIn_wide.2 (HF.out _ HBc.out))).mono ?_; rintro e W5 ⟨rfl, hb5⟩; have m5 := HM.out.kept hb5; obtain ⟨⟨k1, g1⟩, ⟨k2, g2⟩, ⟨k3, g3⟩, k4, g4⟩ := m5.cells; have x5 := (hb5.block Bx HXl.out).trans HXb.out; have y0 := (cell8 x5).1.1; have HM5 := Lib.hid m5; have HR5 := Lib.hid (HRc.out.trans (Rd.of hb5)); have HB5 := Lib.hid (HBc.out.trans (hb5.mono HBc.out.size)); clear hb5 m5 x5)
            try (refine ⟨trivial, ?_⟩; gi_wp2)
            refine ⟨?_, rfl, HN.out, ?_, ?_⟩
            · first
                | exact (((HR5.out.set hS1 _).set hS2 _).set hS3 _).from hSB
                | exact (((HRc.out.set hS1 _).set hS2 _).set hS3 _).from hSB
            · first
                | exact ⟨_, HM5.out.zero h12 h23 h34⟩
                | exact ⟨_, HM.out.zero h12 h23 h34⟩
            · first
                | exact ((HB5.out.setCell (p := ⟨u1, 0, none⟩) (by simp only; omega) _).setCell (p := ⟨u2, 0, none⟩) (by simp only; omega) _).setCell (p := ⟨u3, 0, none⟩) (by simp only; omega) _
                | exact ((HBc.out.setCell (p := ⟨u1, 0, none⟩) (by simp only; omega) _).setCell (p := ⟨u2, 0, none⟩) (by simp only; omega) _).setCell (p := ⟨u3, 0, none⟩) (by simp only; omega) _
          · have hl1 : ¬ (32 : Int) < (lv : Int) := by omega
            cases hft : bf
            · have HFt := Lib.hid (Hbf.out.trans hft)
              subst hft
              have HN := Lib.hid (show msr ((pre ++ [(⟨⟨.mk ⟨kk, nn, vk, vn, vs, tb, cl⟩ l', A', cap', lv⟩, ok⟩ : NdS w.heap.size W0)]).map ndp) = none by rw [List.map_append, List.map_cons, List.map_nil, msr_snoc, Hms.out]; exact mstep_bad (.inr (.inr (.inr HFt.out))))
              gi_wp2_with ((try refine ⟨trivial, ?_⟩); gi_at_call 68; refine (CallsIn.inRound l (callsIn_wide.2 (HF.out _ HBc.out))).mono ?_; rintro e W5 ⟨rfl, hb5⟩; have m5 := HM.out.kept hb5; obtain ⟨⟨k1, g1⟩, ⟨k2, g2⟩, ⟨k3, g3⟩, k4, g4⟩ := m5.cells; have x5 := (hb5.block Bx HXl.out).trans HXb.out; have y0 := (cell8 x5).1.1; have HM5 := Lib.hid m5; have HR5 := Lib.hid (HRc.out.trans (Rd.of hb5)); have HB5 := Lib.hid (HBc.out.trans (hb5.mono HBc.out.size)); clear hb5 m5 x5)
              try (refine ⟨trivial, ?_⟩; gi_wp2)
              refine ⟨?_, rfl, HN.out, ?_, ?_⟩
              · first
                  | exact (((HR5.out.set hS1 _).set hS2 _).set hS3 _).from hSB
                  | exact (((HRc.out.set hS1 _).set hS2 _).set hS3 _).from hSB
              · first
                  | exact ⟨_, HM5.out.zero h12 h23 h34⟩
                  | exact ⟨_, HM.out.zero h12 h23 h34⟩
              · first
                  | exact ((HB5.out.setCell (p := ⟨u1, 0, none⟩) (by simp only; omega) _).setCell (p := ⟨u2, 0, none⟩) (by simp only; omega) _).setCell (p := ⟨u3, 0, none⟩) (by simp only; omega) _
                  | exact ((HBc.out.setCell (p := ⟨u1, 0, none⟩) (by simp only; omega) _).setCell (p := ⟨u2, 0, none⟩) (by simp only; omega) _).setCell (p := ⟨u3, 0, none⟩) (by simp only; omega) _
            · have HFt := Lib.hid (Hbf.out.trans hft)
              subst hft
              have HN := Lib.hid (show msr ((pre ++ [(⟨⟨.mk ⟨kk, nn, vk, vn, vs, tb, cl⟩ l', A', cap', lv⟩, ok⟩ : NdS w.heap.size W0)]).map ndp) = some (a, s + 1, (max d lv)) by rw [List.map_append, List.map_cons, List.map_nil, msr_snoc, Hms.out]; exact mstep_on hk4 hs hl HFt.out rfl (by unfold aggl; first | rw [if_pos hla] | rw [if_neg hla]))
              gi_wp2_with ((try refine ⟨trivial, ?_⟩); gi_at_call 68; refine (CallsIn.inRound l (callsIn_wide.2 (HF.out _ HBc.out))).mono ?_; rintro e W5 ⟨rfl, hb5⟩; have m5 := HM.out.kept hb5; obtain ⟨⟨k1, g1⟩, ⟨k2, g2⟩, ⟨k3, g3⟩, k4, g4⟩ := m5.cells; have x5 := (hb5.block Bx HXl.out).trans HXb.out; have y0 := (cell8 x5).1.1; have HM5 := Lib.hid m5; have HR5 := Lib.hid (HRc.out.trans (Rd.of hb5)); have HB5 := Lib.hid (HBc.out.trans (hb5.mono HBc.out.size)); clear hb5 m5 x5)
              try (refine ⟨trivial, ?_⟩; gi_wp2)
              exact ⟨((HR5.out.set hS1 _).set hS2 _).from hSB, ((HR5.out.set hS1 _).set hS2 _).kp hSU (by omega), _, _, _, _, HN.out, HM5.out.next h12 h23 h14 h24 (max d lv) (max (d : Int) lv) (by omega), (HB5.out.setCell (p := ⟨u1, 0, none⟩) (by simp only; omega) _).setCell (p := ⟨u2, 0, none⟩) (by simp only; omega) _, Nat.le_trans hsz ((HR5.out.set hS1 _).set hS2 _).size⟩
  case done =>
    rintro D ys W hD hys ⟨a, s, d, b, h1, h2, h3, h4⟩ hK
    obtain ⟨⟨k1, g1⟩, ⟨k2, g2⟩, ⟨k3, g3⟩, k4, g4⟩ := h2.cells
    have hz := h2.ends h12 h23 h34
    have hR := (((Rd.refl S W).set (j := 0) hS1 (.int .i64 s)).set (j := 0) hS2 (.int .i64 d)).set (j := 0) hS3 (.bool true)
    have hKD := (hR.block D (Array.getElem?_eq_some_iff.1 hK).1 (fun e => by have := hSB D e; omega)).trans hK
    have HE := Lib.hid (measV_some (x := .mk h lk) (by rw [← hys]; exact h1))
    have HBl := Lib.hid (h3.trans (hR.below (n₀ := w.heap.size) hSU (by omega)))
    clear hR hK
    gi_wp2
    gi_region
    all_goals gi_wp2
    refine ⟨by simp, .inl ⟨_, _, rfl, run_takeDeferred hKD, ?_⟩⟩
    obtain ⟨q1, q2, q3⟩ := (show MB u1 u2 u3 u4 (((W.setCell ⟨u1, 0, none⟩ (.int .i64 s)).setCell ⟨u2, 0, none⟩ (.int .i64 d)).setCell ⟨u3, 0, none⟩ (.bool true)).drew s d a true from ⟨hz.s, hz.d, hz.b, hz.a⟩).put' (o' := .deferred none) hKD rfl
    refine ⟨measV (.mk h lk), ?_, rfl, ?_⟩
    · rw [HE.out]; simp [results, Tryz.results49, go_sem, q1, q2, q3]
    · exact (Below.drew HBl.out).trans (belowK_b (w := w) (Nat.le_refl _) _ D _ _ (by omega) hKD rfl rfl)
  case stop =>
    rintro D c pre W hD hSp ⟨rfl, h1, ⟨a, h2⟩, h3⟩ hK
    have HE := Lib.hid (measV_none (x := .mk h lk) (msr_pre hSp h1))
    gi_wp2
    refine ⟨by simp, .inl ⟨_, _, rfl, run_takeDeferred hK, ?_⟩⟩
    obtain ⟨q1, q2, q3⟩ := h2.put' (o' := .deferred none) hK rfl
    refine ⟨measV (.mk h lk), ?_, rfl, ?_⟩
    · rw [HE.out]; simp [results, Tryz.results49, go_sem, q1, q2, q3]
    · exact h3.trans (belowK_b (w := w) (Nat.le_refl _) _ D _ _ (by omega) hK rfl rfl)
end Go.Proofs.YtofhaokaldpmaaaGreatDoor
end
section
namespace Go.Proofs.YtofhaokaldpmaaaGreatDoor
open Go.RowKit Go.Shelf
attribute [local go_sem] Oper.semAt_some

def chkI (x : Ex) : Int := if (measO x).isSome then 0 else 100
def sizI (x : Ex) : Int := match measO x with | some (s, _) => s | none => 0
def depI (x : Ex) : Int := match measO x with | some (_, d) => d | none => 0
theorem xcheck_any (h : Hd) (lk : List Ex) (A : Option Addr) (cap : Nat) (w : World) (hX : XsAt w.heap.size w lk A) (hcap : lk.length ≤ cap) (hsm : AllSm (.mk h lk)) (hc : cnt (.mk h lk) ≤ 999999) (hT : Tabs w) :
    Calls Tryz.prog 33 #[XV h A lk.length cap] w fun e w' => e = .returned (.int .i64 (chkI (.mk h lk))) ∧ Below w.heap.size w w' := by
  have HC := Lib.hid (measure_any h lk A cap (w.alloc (xbox h A lk.length cap)) (hX.next (ba w _)) hcap hsm hc (hT.kept (ba w _)))
  have HB := Lib.hid (ba w (xbox h A lk.length cap))
  clear hX hT
  cases hm : measO (.mk h lk) with
  | none =>
    have HV := Lib.hid (show measV (.mk h lk) = .tuple #[.int .i64 0, .int .i64 0, .bool false] by simp [measV, hm])
    have HM := Lib.hid hm
    rw [HV.out] at HC
    clear hm
    go_enter Tryz.func33, Tryz.ntmps33
    go_wp2_with fail
    refine HC.out.mono ?_
    rintro e w1 ⟨rfl, hb⟩
    have HB2 := Lib.hid (bt HB.out hb)
    clear hb
    go_wp2_with fail
    go_ret
    exact ⟨by simp [chkI, HM.out], HB2.out⟩
  | some sd =>
    obtain ⟨s, d⟩ := sd
    have HV := Lib.hid (show measV (.mk h lk) = .tuple #[.int .i64 s, .int .i64 d, .bool true] by simp [measV, hm])
    have HM := Lib.hid hm
    rw [HV.out] at HC
    clear hm
    go_enter Tryz.func33, Tryz.ntmps33
    go_wp2_with fail
    refine HC.out.mono ?_
    rintro e w1 ⟨rfl, hb⟩
    have HB2 := Lib.hid (bt HB.out hb)
    clear hb
    go_wp2_with fail
    go_ret
    exact ⟨by simp [chkI, HM.out], HB2.out⟩
/-- May it err? -/
def errB (h : Hd) : Bool := h.k == 4 || (h.k == 3 && (decide (10 ≤ h.n) && decide (h.n ≤ 15)))
def safeB (x : Ex) : Bool := (measO x).isSome && (preo x 1).all fun y => !errB y.1.hd

end Go.Proofs.YtofhaokaldpmaaaGreatDoor
end
section
namespace Go.Proofs.YtofhaokaldpmaaaGreatDoor
open Go.Lib

/-- Each quote doubled. -/
def dbl (l : List UInt8) : List UInt8 := l.flatMap fun c => if c = 39 then [39, 39] else [c]

theorem dbl_le (l : List UInt8) : (dbl l).length ≤ 2 * l.length := by
  induction l with
  | nil => simp [dbl]
  | cons b l ih =>
    have e : dbl (b :: l) = (if b = 39 then [39, 39] else [b]) ++ dbl l := rfl
    rw [e, List.length_append]
    split <;> simp <;> omega

theorem replaceK_dbl (l : List UInt8) : replaceK [39] [39, 39] (l.count 39) l = dbl l := by
  induction l with
  | nil => simp [replaceK, dbl]
  | cons b l ih =>
    by_cases hb : b = 39
    · subst hb
      rw [List.count_cons_self, replaceK_hit _ _ _ _ 0 (by simp [index])]
      simp [ih, dbl]
    · rw [List.count_cons_of_ne hb]
      have e : dbl (b :: l) = b :: dbl l := by simp [dbl, hb]
      rw [e, ← ih]
      cases hk : l.count 39 with
      | zero => simp [replaceK]
      | succ k =>
        obtain ⟨i, hi⟩ := index_of_count (s := l) (old := [39]) (by rw [count_one, hk]; omega)
        have hi' : index (b :: l) [39] = ((i + 1 : Nat) : Int) := by
          have hp : ¬ ([39] : List UInt8).isPrefixOf (b :: l) = true := by
            simp [List.isPrefixOf]; exact fun h => hb h.symm
          rw [index, if_neg hp, hi, if_neg (by simp)]
          omega
        rw [replaceK_hit _ _ _ _ _ hi', replaceK_hit _ _ _ _ _ hi]
        simp

theorem replaceAll_dbl (l : List UInt8) : replaceAll l [39] [39, 39] = dbl l := by
  unfold replaceAll replace replaceNum
  rw [if_neg (by decide), if_pos (.inl (by decide)), count_one, replaceK_dbl]

end Go.Proofs.YtofhaokaldpmaaaGreatDoor
end
section
namespace Go.Proofs.YtofhaokaldpmaaaGreatDoor
open Go.RowKit Go.Shelf Go.Sort

abbrev qt : ByteArray := ⟨#[39]⟩
abbrev qt2 : ByteArray := ⟨#[39, 39]⟩

/-- The text of a value. -/
def showL (k n : Int) (s : ByteArray) : List UInt8 :=
  if okV k n s = true then
    (if k = 1 then (if n = 1 then [84, 82, 85, 69] else [70, 65, 76, 83, 69])
     else if k = 2 then Lib.itoa n else if k = 3 then 39 :: (dbl s.data.toList ++ [39]) else [78, 85, 76, 76])
  else [63]
/-- A text out of its bytes. -/
def bstr (l : List UInt8) : ByteArray := ⟨l.toArray⟩

theorem quoted (l : List UInt8) : qt ++ ⟨l.toArray⟩ ++ qt = bstr (39 :: (l ++ [39])) := by
  apply ByteArray.ext
  simp [bstr]
theorem grow_below (w : World) (k : Nat) (os : Array Obj) : Below w.heap.size w (grow (w.drewN k) os) :=
  ⟨rfl, rfl, rfl, by simp [grow, World.drewN], fun i hi => by simp [grow, World.drewN, Array.getElem?_append, hi]⟩

/-- Go's table of the powers of ten, and what else the texts of values lean on. -/
def Pows (w : World) : Prop := Lib.TabIs Tryz.prog w "internal/strconv.uint64pow10" .u64 Lib.pow10Tab
theorem ret_str {a b : ByteArray} (h : a = b) : Ending.returned (.string a) = .returned (.string b) := by rw [h]

end Go.Proofs.YtofhaokaldpmaaaGreatDoor
end
section
namespace Go.Proofs.YtofhaokaldpmaaaGreatDoor
open Go.RowKit Go.Shelf

def strU (s : String) : List UInt8 := s.toUTF8.data.toList
/-- What stands between two parts. -/
def btw : List (List UInt8) := [[], [79, 82], [65, 78, 68], [], [61], [60, 62], [60], [60, 61], [62], [62, 61], [43], [45], [42], [47], [37]]
def opX (n : Int) (f s : List UInt8) : List UInt8 :=
  if n = 3 then [78, 79, 84, 32] ++ f else if n = 15 then [45, 32] ++ f else if n = 16 then f ++ [32, 73, 83, 32, 78, 85, 76, 76] else if n = 17 then f ++ [32, 73, 83, 32, 78, 79, 84, 32, 78, 85, 76, 76]
  else f ++ [32] ++ btw.getD n.toNat [] ++ [32] ++ s
def aggX (n : Int) (f : List UInt8) : List UInt8 :=
  if n = 2 then [67, 79, 85, 78, 84, 40] ++ f ++ [41] else if n = 3 then [83, 85, 77, 40] ++ f ++ [41] else if n = 4 then [77, 73, 78, 40] ++ f ++ [41] else if n = 5 then [77, 65, 88, 40] ++ f ++ [41]
  else [67, 79, 85, 78, 84, 40, 42, 41]
def colX (t c : ByteArray) : List UInt8 := if t.toList.isEmpty then c.data.toList else t.data.toList ++ [46] ++ c.data.toList
mutual
/-- The text of an expression. -/
def shwX : Ex → List UInt8
  | .mk h l =>
    if h.k = 1 then showL h.vk h.vn h.vs
    else if h.k = 2 then colX h.tab h.col
    else if h.k = 4 then aggX h.n ((shwXs l).getD 0 [])
    else [40] ++ opX h.n ((shwXs l).getD 0 []) ((shwXs l).getD 1 []) ++ [41]
def shwXs : List Ex → List (List UInt8)
  | [] => []
  | x :: r => shwX x :: shwXs r
end
mutual
def FitX : Ex → Prop
  | .mk h l => fitsB h l.length = true ∧ FitXs l
def FitXs : List Ex → Prop
  | [] => True
  | x :: r => FitX x ∧ FitXs r
end
theorem FitXs.at : ∀ {l : List Ex}, FitXs l → ∀ {i : Nat} {x : Ex}, l[i]? = some x → FitX x
  | [], _, i, x, h => by simp at h
  | y :: r, H, 0, x, h => by
    obtain rfl : y = x := by simpa using h
    rw [FitXs] at H; exact H.1
  | y :: r, H, i + 1, x, h => by
    rw [FitXs] at H; exact FitXs.at H.2 (i := i) (by simpa using h)
theorem dec_lenE : ∀ u : Nat, (Lib.decDigits u).length ≤ u + 1 := by
  intro u
  induction u using Nat.strongRecOn with
  | _ u ih =>
    by_cases h : u < 10
    · rw [Lib.decDigits, dif_pos h]; simp
    · rw [Lib.decDigits, dif_neg h]
      have := ih (u / 10) (by omega)
      simp; omega
theorem itoa_lenE (n : Int) : (Lib.itoa n).length ≤ n.natAbs + 2 := by
  have h1 := dec_lenE n.toNat
  have h2 := dec_lenE n.natAbs
  unfold Lib.itoa
  split
  all_goals
    simp
    try omega
theorem showL_len (k n : Int) (s : ByteArray) : (showL k n s).length ≤ 9007199254741000 := by
  unfold showL
  split
  · rename_i ho
    split
    · split <;> simp
    · rename_i h1
      split
      · rename_i h2
        subst h2
        have hb : -9007199254740991 ≤ n ∧ n ≤ 9007199254740991 := by simp [okV] at ho; exact ho.1
        have := itoa_lenE n
        omega
      · rename_i h2
        split
        · rename_i h3
          subst h3
          have h64 : s.size ≤ 64 := by simp [okV] at ho; exact ho.2
          have hd := dbl_le s.data.toList
          have hsz : s.data.toList.length = s.size := by simp
          simp; omega
        · simp
  · simp
theorem btw_len (n : Nat) : (btw.getD n []).length ≤ 3 := by
  by_cases h : n < 15
  · have : ∀ k : Fin 15, (btw.getD k.1 []).length ≤ 3 := by decide +kernel
    exact this ⟨n, h⟩
  · rw [List.getD_eq_getElem?_getD, List.getElem?_eq_none (by simp [btw]; omega)]; simp
theorem opX_len (n : Int) (f s : List UInt8) : (opX n f s).length ≤ f.length + s.length + 13 := by
  have := btw_len n.toNat
  unfold opX
  repeat' split
  all_goals
    simp only [List.length_append, List.length_cons, List.length_nil]
    omega
theorem aggX_len (n : Int) (f : List UInt8) : (aggX n f).length ≤ f.length + 8 := by
  unfold aggX
  repeat' split
  all_goals simp
mutual
theorem shwX_len : ∀ x : Ex, AllSm x → (shwX x).length ≤ 9007199254742000 * cnt x
  | .mk h l, H => by
    rw [AllSm] at H
    obtain ⟨h1, h2⟩ := shwXs_len l H.2
    have hl := showL_len h.vk h.vn h.vs
    have ht := H.1.t
    have hc := H.1.c
    have ho := opX_len h.n ((shwXs l).getD 0 []) ((shwXs l).getD 1 [])
    have ha := aggX_len h.n ((shwXs l).getD 0 [])
    have hcx : (colX h.tab h.col).length ≤ 401 := by
      unfold colX; split
      · simp; omega
      · simp; omega
    rw [shwX, cnt_mk]
    repeat' split
    · omega
    · omega
    · omega
    · simp only [List.length_append, List.length_singleton]; omega
theorem shwXs_len : ∀ l : List Ex, AllSmL l → ((shwXs l).getD 0 []).length + ((shwXs l).getD 1 []).length ≤ 9007199254742000 * cntL l ∧ ((shwXs l).getD 0 []).length ≤ 9007199254742000 * cntL l
  | [], _ => by simp [shwXs]
  | [x], H => by
    rw [AllSmL] at H
    have := shwX_len x H.1
    simp only [shwXs, cntL, List.getD_cons_zero, List.getD_cons_succ, List.getD_nil, List.length_nil]
    omega
  | x :: y :: r, H => by
    rw [AllSmL, AllSmL] at H
    have h1 := shwX_len x H.1
    have h2 := shwX_len y H.2.1
    simp only [shwXs, cntL, List.getD_cons_zero, List.getD_cons_succ]
    omega
end
end Go.Proofs.YtofhaokaldpmaaaGreatDoor
end
section
namespace Go.Proofs.YtofhaokaldpmaaaGreatDoor
open Go.RowKit Go.Shelf

/-! What is known of an expression that may be. -/
mutual
theorem fit_of : ∀ (x : Ex) (d : Nat), (∀ y ∈ preo x d, fitsB y.1.hd y.1.kids.length = true) → FitX x
  | .mk h l, d, H => by
    rw [preo_mk] at H
    rw [FitX]
    exact ⟨H _ (List.mem_cons_self ..), fits_of l (d + 1) fun y hy => H y (List.mem_cons_of_mem _ hy)⟩
theorem fits_of : ∀ (l : List Ex) (d : Nat), (∀ y ∈ preoL l d, fitsB y.1.hd y.1.kids.length = true) → FitXs l
  | [], _, _ => by rw [FitXs]; trivial
  | x :: r, d, H => by
    rw [preoL] at H
    rw [FitXs]
    exact ⟨fit_of x d fun y hy => H y (List.mem_append_left _ hy), fits_of r d fun y hy => H y (List.mem_append_right _ hy)⟩
end
theorem msr_all : ∀ (ys : List (Ex × Nat)) {o : Option (Nat × Nat × Nat)} {a s d : Nat}, ys.foldl mstep o = some (a, s, d) →
    (∃ a0 s0 d0, o = some (a0, s0, d0) ∧ s = s0 + ys.length) ∧ ∀ y ∈ ys, fitsB y.1.hd y.1.kids.length = true
  | [], o, a, s, d, h => ⟨⟨a, s, d, h, by simp⟩, fun y hy => by cases hy⟩
  | y :: ys, o, a, s, d, h => by
    rw [List.foldl_cons] at h
    obtain ⟨⟨a1, s1, d1, e1, e2⟩, hall⟩ := msr_all ys h
    obtain ⟨x, lv⟩ := y
    cases o with
    | none => cases e1
    | some o =>
      obtain ⟨a0, s0, d0⟩ := o
      by_cases hn : s0 = 512 ∨ 32 < lv ∨ (x.hd.k = 4 ∧ 0 < aggl a0 lv) ∨ fitsB x.hd x.kids.length = false
      · rw [mstep, if_pos hn] at e1; cases e1
      · rw [mstep, if_neg hn] at e1
        simp only [Option.some.injEq, Prod.mk.injEq] at e1
        refine ⟨⟨a0, s0, d0, rfl, by rw [List.length_cons]; omega⟩, fun y hy => ?_⟩
        rcases List.mem_cons.1 hy with rfl | hy
        · cases hf : fitsB x.hd x.kids.length with
          | true => rfl
          | false => exact absurd (.inr (.inr (.inr hf))) hn
        · exact hall y hy
theorem meas_fit {x : Ex} (h : (measO x).isSome = true) : FitX x ∧ cnt x ≤ 512 := by
  unfold measO at h
  cases hm : msr (preo x 1) with
  | none => rw [hm] at h; cases h
  | some o =>
    obtain ⟨a, s, d⟩ := o
    obtain ⟨⟨a0, s0, d0, e1, e2⟩, hall⟩ := msr_all _ hm
    obtain ⟨_, hs, _⟩ := msr_le _ hm (fun a s d e => by cases e; exact ⟨by omega, by omega, by omega⟩)
    simp only [Option.some.injEq, Prod.mk.injEq] at e1
    rw [preo_len] at e2
    exact ⟨fit_of x 1 hall, by omega⟩
theorem XsAt.one {n : Nat} {w : World} {x : Ex} {r : List Ex} {A : Option Addr} (H : XsAt n w (x :: r) A) : ∃ g o A' cap, A = some ⟨g, o, none⟩ ∧ g < n ∧ XC w g o x.hd A' x.kids.length cap ∧ x.kids.length ≤ cap ∧ XsAt n w x.kids A' := by
  obtain ⟨h, l⟩ := x
  obtain ⟨g, o, A', cap, e, hg, hc, hl, hx⟩ := H.at (i := 0) rfl
  exact ⟨g, o, A', cap, e, hg, by rw [Nat.zero_mul, Nat.add_zero] at hc; exact hc, hl, hx⟩
theorem XsAt.two {n : Nat} {w : World} {x y : Ex} {r : List Ex} {g o : Nat} (H : XsAt n w (x :: y :: r) (some ⟨g, o, none⟩)) : ∃ A' cap, XC w g (o + 8) y.hd A' y.kids.length cap ∧ y.kids.length ≤ cap ∧ XsAt n w y.kids A' := by
  obtain ⟨h, l⟩ := y
  obtain ⟨g', o', A', cap, e, hg, hc, hl, hx⟩ := H.at (i := 1) rfl
  simp only [Option.some.injEq, Addr.mk.injEq] at e
  obtain ⟨rfl, rfl, _⟩ := e
  exact ⟨A', cap, by rw [Nat.one_mul] at hc; exact hc, hl, hx⟩
theorem len2 : ∀ {l : List Ex}, l.length = 2 → ∃ x y, l = [x, y]
  | [], h => by simp at h
  | [_], h => by simp at h
  | [x, y], _ => ⟨x, y, rfl⟩
  | _ :: _ :: _ :: _, h => by simp at h
def shoX (x : Ex) : List UInt8 := if (measO x).isSome then shwX x else []
end Go.Proofs.YtofhaokaldpmaaaGreatDoor
end
section
namespace Go.Proofs.YtofhaokaldpmaaaGreatDoor
open Go.RowKit Go.Shelf

mutual
/-- May it be, so deep, within an aggregate? -/
def goodB : Ex → Nat → Bool → Bool
  | .mk h l, d, ag => decide (d ≤ 32) && !(h.k == 4 && ag) && fitsB h l.length && goodBs l (d + 1) (ag || h.k == 4)
def goodBs : List Ex → Nat → Bool → Bool
  | [], _, _ => true
  | x :: r, d, ag => goodB x d ag && goodBs r d ag
end
mutual
def depX : Ex → Nat
  | .mk _ l => depXs l + 1
def depXs : List Ex → Nat
  | [] => 0
  | x :: r => max (depX x) (depXs r)
end
theorem goodB_mk (h : Hd) (l : List Ex) (d : Nat) (ag : Bool) : goodB (.mk h l) d ag = (decide (d ≤ 32) && !(h.k == 4 && ag) && fitsB h l.length && goodBs l (d + 1) (ag || h.k == 4)) := by rw [goodB]
theorem mstep_go {a s d lv : Nat} {x : Ex} (h : ¬ (s = 512 ∨ 32 < lv ∨ (x.hd.k = 4 ∧ 0 < aggl a lv) ∨ fitsB x.hd x.kids.length = false)) : mstep (some (a, s, d)) (x, lv) = some (if x.hd.k = 4 then lv else aggl a lv, s + 1, max d lv) := by
  rw [mstep, if_neg h]
mutual
theorem fold_yes : ∀ (x : Ex) (lv a s d : Nat), 1 ≤ lv → goodB x lv (decide (0 < aggl a lv)) = true → s + cnt x ≤ 512 →
    ∃ a2, (preo x lv).foldl mstep (some (a, s, d)) = some (a2, s + cnt x, max d (lv + depX x - 1)) ∧ ∀ lv', lv' ≤ lv → aggl a2 lv' = aggl a lv'
  | .mk h l, lv, a, s, d, h1, hg, hs => by
    rw [goodB_mk] at hg
    simp only [Bool.and_eq_true, decide_eq_true_eq, Bool.not_eq_true'] at hg
    obtain ⟨⟨⟨g1, g2⟩, g3⟩, g4⟩ := hg
    rw [cnt_mk] at hs
    have hn : ¬ (s = 512 ∨ 32 < lv ∨ ((Ex.mk h l).hd.k = 4 ∧ 0 < aggl a lv) ∨ fitsB (Ex.mk h l).hd (Ex.mk h l).kids.length = false) := by
      rintro (e | e | ⟨e1, e2⟩ | e)
      · omega
      · omega
      · have e1 : h.k = 4 := e1
        simp [e1, e2] at g2
      · have e : fitsB h l.length = false := e
        rw [g3] at e; cases e
    have ha : decide (0 < aggl a lv) = true → h.k ≠ 4 := fun e e2 => by simp [e2] at g2; rw [decide_eq_true_eq] at e; omega
    obtain ⟨a2, e1, e2⟩ := folds_yes l (lv + 1) (if h.k = 4 then lv else aggl a lv) (s + 1) (max d lv) (by omega) (by omega) (by
      have : (decide (0 < aggl a lv) || h.k == 4) = decide (0 < aggl (if h.k = 4 then lv else aggl a lv) (lv + 1)) := by
        by_cases hk : h.k = 4
        · rw [if_pos hk]
          have : 0 < aggl lv (lv + 1) := by unfold aggl; split <;> omega
          simp [hk, this]
        · rw [if_neg hk]
          have : aggl (aggl a lv) (lv + 1) = aggl a lv := by unfold aggl; repeat' split
                                                             all_goals omega
          rw [this]; simp [hk]
      rw [← this]; exact g4) (by omega)
    refine ⟨a2, ?_, fun lv' hl => ?_⟩
    · rw [preo_mk, List.foldl_cons, mstep_go hn, cnt_mk, depX]
      show List.foldl mstep (some (if h.k = 4 then lv else aggl a lv, s + 1, max d lv)) _ = _
      rw [e1, show s + 1 + cntL l = s + (1 + cntL l) by omega, show max (max d lv) (lv + 1 + depXs l - 1) = max d (lv + (depXs l + 1) - 1) by omega]
    · rw [e2 lv' (by omega)]
      by_cases hk : h.k = 4
      · rw [if_pos hk]
        have : ¬ 0 < aggl a lv := fun e => ha (by simpa using e) hk
        unfold aggl at this ⊢
        split at this
        all_goals repeat' split
        all_goals omega
      · rw [if_neg hk]
        unfold aggl
        repeat' split
        all_goals omega
theorem folds_yes : ∀ (l : List Ex) (lv a s d : Nat), 1 ≤ lv → lv ≤ d + 1 → goodBs l lv (decide (0 < aggl a lv)) = true → s + cntL l ≤ 512 →
    ∃ a2, (preoL l lv).foldl mstep (some (a, s, d)) = some (a2, s + cntL l, max d (lv + depXs l - 1)) ∧ ∀ lv', lv' ≤ lv → aggl a2 lv' = aggl a lv'
  | [], lv, a, s, d, h1, h2, hg, hs => by
    refine ⟨a, ?_, fun _ _ => rfl⟩
    rw [preoL, cntL, depXs, List.foldl_nil, show max d (lv + 0 - 1) = d by omega]; rfl
  | x :: r, lv, a, s, d, h1, h2, hg, hs => by
    rw [goodBs, Bool.and_eq_true] at hg
    rw [cntL] at hs
    obtain ⟨a1, e1, e2⟩ := fold_yes x lv a s d h1 hg.1 (by omega)
    obtain ⟨a2, e3, e4⟩ := folds_yes r lv a1 (s + cnt x) (max d (lv + depX x - 1)) h1 (by omega) (by rw [e2 lv (Nat.le_refl _)]; exact hg.2) (by omega)
    refine ⟨a2, ?_, fun lv' hl => (e4 lv' hl).trans (e2 lv' hl)⟩
    rw [preoL, List.foldl_append, e1, e3, cntL, depXs, show s + cnt x + cntL r = s + (cnt x + cntL r) by omega, show max (max d (lv + depX x - 1)) (lv + depXs r - 1) = max d (lv + max (depX x) (depXs r) - 1) by omega]
end
mutual
theorem fold_no : ∀ (x : Ex) (lv a s d : Nat), 1 ≤ lv → s ≤ 512 → ¬ (goodB x lv (decide (0 < aggl a lv)) = true ∧ s + cnt x ≤ 512) → (preo x lv).foldl mstep (some (a, s, d)) = none
  | .mk h l, lv, a, s, d, h1, hs, hg => by
    rw [preo_mk, List.foldl_cons]
    by_cases hn : s = 512 ∨ 32 < lv ∨ ((Ex.mk h l).hd.k = 4 ∧ 0 < aggl a lv) ∨ fitsB (Ex.mk h l).hd (Ex.mk h l).kids.length = false
    · rw [mstep, if_pos hn, mstep_none]
    · rw [mstep_go hn]
      show List.foldl mstep (some (if h.k = 4 then lv else aggl a lv, s + 1, max d lv)) _ = none
      have n1 : ¬ s = 512 := fun e => hn (.inl e)
      have n2 : ¬ 32 < lv := fun e => hn (.inr (.inl e))
      have n3 : ¬ (h.k = 4 ∧ 0 < aggl a lv) := fun e => hn (.inr (.inr (.inl e)))
      have n4 : fitsB h l.length = true := by
        cases hf : fitsB h l.length with
        | true => rfl
        | false => exact absurd (.inr (.inr (.inr hf))) hn
      refine folds_no l (lv + 1) _ (s + 1) (max d lv) (by omega) (by omega) (by omega) fun ⟨e1, e2⟩ => hg ⟨?_, by rw [cnt_mk]; omega⟩
      rw [goodB_mk]
      have : (decide (0 < aggl a lv) || h.k == 4) = decide (0 < aggl (if h.k = 4 then lv else aggl a lv) (lv + 1)) := by
        by_cases hk : h.k = 4
        · rw [if_pos hk]
          have : 0 < aggl lv (lv + 1) := by unfold aggl; split <;> omega
          simp [hk, this]
        · rw [if_neg hk]
          have : aggl (aggl a lv) (lv + 1) = aggl a lv := by unfold aggl; repeat' split
                                                             all_goals omega
          rw [this]; simp [hk]
      rw [this, e1, n4]
      have h3 : (h.k == 4 && decide (0 < aggl a lv)) = false := by
        cases hk : (h.k == 4 && decide (0 < aggl a lv)) with
        | false => rfl
        | true => exact absurd (by simpa using hk) n3
      rw [h3]
      simp; omega
theorem folds_no : ∀ (l : List Ex) (lv a s d : Nat), 1 ≤ lv → lv ≤ d + 1 → s ≤ 512 → ¬ (goodBs l lv (decide (0 < aggl a lv)) = true ∧ s + cntL l ≤ 512) → (preoL l lv).foldl mstep (some (a, s, d)) = none
  | [], lv, a, s, d, h1, h2, hs, hg => by
    exfalso
    exact hg ⟨by rw [goodBs], by rw [cntL]; omega⟩
  | x :: r, lv, a, s, d, h1, h2, hs, hg => by
    rw [preoL, List.foldl_append]
    by_cases hx : goodB x lv (decide (0 < aggl a lv)) = true ∧ s + cnt x ≤ 512
    · obtain ⟨a1, e1, e2⟩ := fold_yes x lv a s d h1 hx.1 hx.2
      rw [e1]
      refine folds_no r lv a1 (s + cnt x) (max d (lv + depX x - 1)) h1 (by omega) hx.2 fun ⟨g1, g2⟩ => hg ⟨?_, by rw [cntL]; omega⟩
      rw [e2 lv (Nat.le_refl _)] at g1
      rw [goodBs, hx.1, g1]; rfl
    · rw [fold_no x lv a s d h1 hs hx, mstep_none]
end
/-- May it be at all? -/
def okX (x : Ex) : Bool := goodB x 1 false && decide (cnt x ≤ 512)
theorem meas_eq (x : Ex) : measO x = if okX x = true then some (cnt x, depX x) else none := by
  have ha : decide (0 < aggl 0 1) = false := by decide
  unfold measO msr
  cases ho : okX x with
  | true =>
    have : goodB x 1 false = true ∧ cnt x ≤ 512 := by simpa [okX] using ho
    obtain ⟨a2, e, _⟩ := fold_yes x 1 0 0 0 (Nat.le_refl _) (by rw [ha]; exact this.1) (by omega)
    rw [e, show 0 + cnt x = cnt x by omega, show max 0 (1 + depX x - 1) = depX x by omega]; rfl
  | false =>
    rw [fold_no x 1 0 0 0 (Nat.le_refl _) (by omega) (by
      rw [ha]
      rintro ⟨e1, e2⟩
      have : okX x = true := by rw [okX, e1]; simp; omega
      rw [ho] at this; cases this)]
    rfl
theorem meas_some (x : Ex) : (measO x).isSome = okX x := by rw [meas_eq]; cases okX x <;> rfl
mutual
theorem good_fit : ∀ (x : Ex) (d : Nat) (ag : Bool), goodB x d ag = true → FitX x
  | .mk h l, d, ag, hg => by
    rw [goodB_mk] at hg
    simp only [Bool.and_eq_true] at hg
    rw [FitX]
    exact ⟨hg.1.2, goods_fit l _ _ hg.2⟩
theorem goods_fit : ∀ (l : List Ex) (d : Nat) (ag : Bool), goodBs l d ag = true → FitXs l
  | [], _, _, _ => by rw [FitXs]; trivial
  | x :: r, d, ag, hg => by
    rw [goodBs, Bool.and_eq_true] at hg
    rw [FitXs]
    exact ⟨good_fit x d ag hg.1, goods_fit r d ag hg.2⟩
end
theorem ok_fit {x : Ex} (h : okX x = true) : FitX x ∧ cnt x ≤ 512 := by
  have : goodB x 1 false = true ∧ cnt x ≤ 512 := by simpa [okX] using h
  exact ⟨good_fit x 1 false this.1, this.2⟩
theorem goodBs_take {l : List Ex} {k : Nat} {x : Ex} (h : l[k]? = some x) (d : Nat) (ag : Bool) : goodBs (l.take (k + 1)) d ag = (goodBs (l.take k) d ag && goodB x d ag) := by
  induction l generalizing k with
  | nil => simp at h
  | cons y r ih =>
    cases k with
    | zero =>
      obtain rfl : y = x := by simpa using h
      simp [goodBs]
    | succ k =>
      rw [List.take_succ_cons, List.take_succ_cons, goodBs, goodBs, ih (by simpa using h), Bool.and_assoc]
theorem goodBs_no {l : List Ex} {k : Nat} {d : Nat} {ag : Bool} (h : goodBs (l.take k) d ag = false) : goodBs l d ag = false := by
  induction l generalizing k with
  | nil => simp [goodBs] at h
  | cons y r ih =>
    cases k with
    | zero => simp [goodBs] at h
    | succ k =>
      rw [List.take_succ_cons, goodBs] at h
      rw [goodBs]
      cases hy : goodB y d ag with
      | false => rfl
      | true => rw [hy, Bool.true_and] at h; rw [ih h]; rfl
theorem cntL_take {l : List Ex} {k : Nat} {x : Ex} (h : l[k]? = some x) : cntL (l.take (k + 1)) = cntL (l.take k) + cnt x := by
  induction l generalizing k with
  | nil => simp at h
  | cons y r ih =>
    cases k with
    | zero =>
      obtain rfl : y = x := by simpa using h
      simp [cntL]
    | succ k => rw [List.take_succ_cons, List.take_succ_cons, cntL, cntL, ih (by simpa using h)]; omega
theorem cntL_take_le (l : List Ex) (k : Nat) : cntL (l.take k) ≤ cntL l := by
  induction l generalizing k with
  | nil => simp
  | cons y r ih =>
    cases k with
    | zero => simp [cntL]
    | succ k => rw [List.take_succ_cons, cntL, cntL]; have := ih k; omega
theorem depXs_take {l : List Ex} {k : Nat} {x : Ex} (h : l[k]? = some x) : depXs (l.take (k + 1)) = max (depXs (l.take k)) (depX x) := by
  induction l generalizing k with
  | nil => simp at h
  | cons y r ih =>
    cases k with
    | zero =>
      obtain rfl : y = x := by simpa using h
      simp [depXs]
    | succ k => rw [List.take_succ_cons, List.take_succ_cons, depXs, depXs, ih (by simpa using h)]; omega
mutual
theorem depX_le : ∀ x : Ex, depX x ≤ cnt x
  | .mk h l => by rw [depX, cnt]; have := depXs_le l; omega
theorem depXs_le : ∀ l : List Ex, depXs l ≤ cntL l
  | [] => by rw [depXs]; omega
  | x :: r => by rw [depXs, cntL]; have := depX_le x; have := depXs_le r; omega
end
/-! What stands in an expression. -/
mutual
def errsX : Ex → Bool
  | .mk h l => errB h || errsXs l
def errsXs : List Ex → Bool
  | [] => false
  | x :: r => errsX x || errsXs r
end
mutual
theorem errs_preo : ∀ (x : Ex) (d : Nat), (preo x d).all (fun y => !errB y.1.hd) = !errsX x
  | .mk h l, d => by rw [preo_mk, List.all_cons, errs_preoL l (d + 1), errsX]; simp [Ex.hd]
theorem errs_preoL : ∀ (l : List Ex) (d : Nat), (preoL l d).all (fun y => !errB y.1.hd) = !errsXs l
  | [], d => by rw [preoL, errsXs]; rfl
  | x :: r, d => by rw [preoL, List.all_append, errs_preo x d, errs_preoL r d, errsXs]; simp
end
theorem errsXs_take {l : List Ex} {k : Nat} {x : Ex} (h : l[k]? = some x) : errsXs (l.take (k + 1)) = (errsXs (l.take k) || errsX x) := by
  induction l generalizing k with
  | nil => simp at h
  | cons y r ih =>
    cases k with
    | zero =>
      obtain rfl : y = x := by simpa using h
      simp [errsXs]
    | succ k => rw [List.take_succ_cons, List.take_succ_cons, errsXs, errsXs, ih (by simpa using h), Bool.or_assoc]
theorem errsXs_yes {l : List Ex} {k : Nat} (h : errsXs (l.take k) = true) : errsXs l = true := by
  induction l generalizing k with
  | nil => simp [errsXs] at h
  | cons y r ih =>
    cases k with
    | zero => simp [errsXs] at h
    | succ k =>
      rw [List.take_succ_cons, errsXs] at h
      rw [errsXs]
      cases hy : errsX y with
      | true => rfl
      | false => rw [hy, Bool.false_or] at h; rw [ih h]; rfl
mutual
/-- Those of a kind. -/
def kndX (k : Int) : Ex → List Ex
  | .mk h l => (if h.k = k then [.mk h l] else []) ++ kndXs k l
def kndXs (k : Int) : List Ex → List Ex
  | [] => []
  | x :: r => kndX k x ++ kndXs k r
end
mutual
theorem knd_preo (k : Int) : ∀ (x : Ex) (d : Nat), ((preo x d).map (·.1)).filter (fun y => y.hd.k == k) = kndX k x
  | .mk h l, d => by
    rw [preo_mk, List.map_cons, List.filter_cons, knd_preoL k l (d + 1), kndX]
    by_cases hk : h.k = k
    · simp [Ex.hd, hk]
    · simp [Ex.hd, hk]
theorem knd_preoL (k : Int) : ∀ (l : List Ex) (d : Nat), ((preoL l d).map (·.1)).filter (fun y => y.hd.k == k) = kndXs k l
  | [], d => by rw [preoL, kndXs]; rfl
  | x :: r, d => by rw [preoL, List.map_append, List.filter_append, knd_preo k x d, knd_preoL k r d, kndXs]
end
theorem kndXs_take (c : Int) {l : List Ex} {k : Nat} {x : Ex} (h : l[k]? = some x) : kndXs c (l.take (k + 1)) = kndXs c (l.take k) ++ kndX c x := by
  induction l generalizing k with
  | nil => simp at h
  | cons y r ih =>
    cases k with
    | zero =>
      obtain rfl : y = x := by simpa using h
      simp [kndXs]
    | succ k => rw [List.take_succ_cons, List.take_succ_cons, kndXs, kndXs, ih (by simpa using h), List.append_assoc]
mutual
/-- The parts of an OpAnd. -/
def prtX : Ex → List Ex
  | .mk h l => if h.k = 3 ∧ h.n = 2 then (prtXs l).getD 0 [] ++ (prtXs l).getD 1 [] else [.mk h l]
def prtXs : List Ex → List (List Ex)
  | [] => []
  | x :: r => prtX x :: prtXs r
end
end Go.Proofs.YtofhaokaldpmaaaGreatDoor
end
