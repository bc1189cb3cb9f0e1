/-
  measure: which expressions may be, how large and deep they are.
-/
import Derived.Test.YtpokpiphnggfpaaGreatDoorZ4
import Derived.Maps.AppendAt
section
namespace Go.Proofs.YtpokpiphnggfpaaGreatDoor
open Go.RowKit Go.Shelf
attribute [local go_sem] Oper.semAt_some

def aggl (a lv : Nat) : Nat := if lv ≤ a then 0 else a
/-- One more expression, gone through: the aggregate's level, how many, how deep. -/
def mstep : Option (Nat × Nat × Nat) → Ex × Nat → Option (Nat × Nat × Nat)
  | none, _ => none
  | some (a, s, d), (x, lv) =>
    if s = 512 ∨ 32 < lv ∨ (x.hd.k = 4 ∧ 0 < aggl a lv) ∨ fitsB x.hd x.kids.length = false then none
    else some (if x.hd.k = 4 then lv else aggl a lv, s + 1, max d lv)
def msr (ys : List (Ex × Nat)) : Option (Nat × Nat × Nat) := ys.foldl mstep (some (0, 0, 0))
theorem msr_snoc (ys : List (Ex × Nat)) (y : Ex × Nat) : msr (ys ++ [y]) = mstep (msr ys) y := by simp [msr]
theorem mstep_none : ∀ ys : List (Ex × Nat), ys.foldl mstep none = none
  | [] => rfl
  | y :: ys => by rw [List.foldl_cons]; exact mstep_none ys
theorem msr_pre {ys zs : List (Ex × Nat)} (h : ys <+: zs) (hn : msr ys = none) : msr zs = none := by
  obtain ⟨r, rfl⟩ := h
  unfold msr at hn ⊢
  rw [List.foldl_append, hn, mstep_none]
def measO (x : Ex) : Option (Nat × Nat) := (msr (preo x 1)).map (·.2)
def measV (x : Ex) : Value := match measO x with
  | some (s, d) => .tuple #[.int .i64 s, .int .i64 d, .bool true]
  | none => .tuple #[.int .i64 0, .int .i64 0, .bool false]

/-- The four boxes of measure. -/
structure MB (u1 u2 u3 u4 : Nat) (W : World) (s d a : Nat) (b : Bool) : Prop where
  s : Boxed W u1 3 (.int .i64 s)
  d : Boxed W u2 3 (.int .i64 d)
  b : Boxed W u3 4 (.bool b)
  a : Boxed W u4 3 (.int .i64 a)
theorem mstep_bad {a s d lv : Nat} {h : Hd} {l : List Ex} (hb : s = 512 ∨ 32 < lv ∨ (h.k = 4 ∧ 0 < aggl a lv) ∨ fitsB h l.length = false) : mstep (some (a, s, d)) (.mk h l, lv) = none := by
  rw [mstep]; exact if_pos hb
theorem mstep_agg {a s d lv D : Nat} {h : Hd} {l : List Ex} (hk : h.k = 4) (ha : aggl a lv = 0) (hs : ¬ s = 512) (hl : ¬ 32 < lv) (hf : fitsB h l.length = true) (hD : max d lv = D) : mstep (some (a, s, d)) (.mk h l, lv) = some (lv, s + 1, D) := by
  subst hD
  rw [mstep]
  refine (if_neg ?_).trans ?_
  · rintro (e | e | ⟨_, e⟩ | e)
    · exact hs e
    · exact hl e
    · omega
    · have e2 : fitsB h l.length = false := e
      rw [hf] at e2; cases e2
  · rw [show (Ex.mk h l).hd.k = 4 from hk]; rfl
theorem mstep_on {a s d lv D a1 : Nat} {h : Hd} {l : List Ex} (hk : ¬ h.k = 4) (hs : ¬ s = 512) (hl : ¬ 32 < lv) (hf : fitsB h l.length = true) (hD : max d lv = D) (ha : aggl a lv = a1) : mstep (some (a, s, d)) (.mk h l, lv) = some (a1, s + 1, D) := by
  subst hD ha
  rw [mstep]
  refine (if_neg ?_).trans ?_
  · rintro (e | e | ⟨e, _⟩ | e)
    · exact hs e
    · exact hl e
    · exact hk e
    · have e2 : fitsB h l.length = false := e
      rw [hf] at e2; cases e2
  · rw [if_neg (show ¬ (Ex.mk h l).hd.k = 4 from hk)]
theorem bt' {n : Nat} {w w1 w2 : World} (h1 : Below n w w1) (h2 : Below w1.heap.size w1 w2) (hn : n ≤ w1.heap.size := by first | exact h1.size | omega) : Below n w w2 := h1.trans (h2.mono hn)
theorem boxed_below {W W' : World} {B : Nat} {t : TypeId} {v : Value} (h : Boxed W B t v) (hb : Below W.heap.size W W') : Boxed W' B t v := (hb.block B h.lt).trans h
theorem MB.kept {u1 u2 u3 u4 : Nat} {W W' : World} {s d a : Nat} {b : Bool} (m : MB u1 u2 u3 u4 W s d a b) (hb : Below W.heap.size W W') : MB u1 u2 u3 u4 W' s d a b :=
  ⟨boxed_below m.s hb, boxed_below m.d hb, boxed_below m.b hb, boxed_below m.a hb⟩
theorem MB.cells {u1 u2 u3 u4 : Nat} {W : World} {s d a : Nat} {b : Bool} (m : MB u1 u2 u3 u4 W s d a b) :
    (W.cell? ⟨u1, 0, none⟩ = some (.int .i64 s) ∧ W.frozen? ⟨u1, 0, none⟩ = false) ∧ (W.cell? ⟨u2, 0, none⟩ = some (.int .i64 d) ∧ W.frozen? ⟨u2, 0, none⟩ = false) ∧ (W.cell? ⟨u3, 0, none⟩ = some (.bool b) ∧ W.frozen? ⟨u3, 0, none⟩ = false) ∧
    W.cell? ⟨u4, 0, none⟩ = some (.int .i64 a) ∧ W.frozen? ⟨u4, 0, none⟩ = false :=
  ⟨⟨m.s.cell, m.s.frozen⟩, ⟨m.d.cell, m.d.frozen⟩, ⟨m.b.cell, m.b.frozen⟩, m.a.cell, m.a.frozen⟩
theorem MB.lvl {u1 u2 u3 u4 : Nat} {W : World} {s d a : Nat} {b : Bool} (m : MB u1 u2 u3 u4 W s d a b) (h14 : u1 ≠ u4) (h24 : u2 ≠ u4) (h34 : u3 ≠ u4) (a' : Nat) : MB u1 u2 u3 u4 (W.setCell ⟨u4, 0, none⟩ (.int .i64 a')) s d a' b :=
  ⟨m.s.other h14 _, m.d.other h24 _, m.b.other h34 _, m.a.set _⟩
theorem MB.next {u1 u2 u3 u4 : Nat} {W : World} {s d a : Nat} {b : Bool} (m : MB u1 u2 u3 u4 W s d a b) (h12 : u1 ≠ u2) (h23 : u2 ≠ u3) (h14 : u1 ≠ u4) (h24 : u2 ≠ u4) (d' : Nat) (vd : Int) (hvd : vd = d') (h13 : u1 ≠ u3 := by omega) :
    MB u1 u2 u3 u4 ((W.setCell ⟨u1, 0, none⟩ (.int .i64 ((s : Int) + 1))).setCell ⟨u2, 0, none⟩ (.int .i64 vd)) (s + 1) d' a b := by
  subst hvd
  exact ⟨(m.s.set (.int .i64 ((s : Int) + 1))).other h12 _, (m.d.other h12.symm _).set _, (m.b.other h13.symm _).other h23.symm _, (m.a.other h14.symm _).other h24.symm _⟩
theorem MB.zero {u1 u2 u3 u4 : Nat} {W : World} {s d a : Nat} {b : Bool} (m : MB u1 u2 u3 u4 W s d a b) (h12 : u1 ≠ u2) (h23 : u2 ≠ u3) (h34 : u3 ≠ u4) (h13 : u1 ≠ u3 := by omega) (h14 : u1 ≠ u4 := by omega) (h24 : u2 ≠ u4 := by omega) :
    MB u1 u2 u3 u4 (((W.setCell ⟨u1, 0, none⟩ (.int .i64 0)).setCell ⟨u2, 0, none⟩ (.int .i64 0)).setCell ⟨u3, 0, none⟩ (.bool false)) 0 0 a false :=
  ⟨((m.s.set _).other h12 _).other h13 _, ((m.d.other h12.symm _).set _).other h23 _, ((m.b.other h13.symm _).other h23.symm _).set _, ((m.a.other h14.symm _).other h24.symm _).other h34.symm _⟩
theorem cells_put {W : World} {B D : Nat} {t : TypeId} {v : Value} {o o' : Obj} (h : Boxed W B t v) (hD : W.heap[D]? = some o) (ho : o.isCells = false) : (W.putObj D o').cell? ⟨B, 0, none⟩ = some v :=
  (h.kept (grownBy_putObj' W D o') (fun e => by
    obtain rfl : B = D := by simpa using e
    rw [show W.heap[B]? = _ from h] at hD; cases hD; cases ho)).cell
theorem MB.put' {u1 u2 u3 u4 : Nat} {W : World} {s d a : Nat} {b : Bool} (m : MB u1 u2 u3 u4 W s d a b) {D : Nat} {o o' : Obj} (hD : W.heap[D]? = some o) (ho : o.isCells = false) :
    (W.putObj D o').cell? ⟨u1, 0, none⟩ = some (.int .i64 s) ∧ (W.putObj D o').cell? ⟨u2, 0, none⟩ = some (.int .i64 d) ∧ (W.putObj D o').cell? ⟨u3, 0, none⟩ = some (.bool b) :=
  ⟨cells_put m.s hD ho, cells_put m.d hD ho, cells_put m.b hD ho⟩
theorem MB.ends {u1 u2 u3 u4 : Nat} {W : World} {s d a : Nat} {b : Bool} (m : MB u1 u2 u3 u4 W s d a b) (h12 : u1 ≠ u2) (h23 : u2 ≠ u3) (h34 : u3 ≠ u4) (h13 : u1 ≠ u3 := by omega) (h14 : u1 ≠ u4 := by omega) (h24 : u2 ≠ u4 := by omega) :
    MB u1 u2 u3 u4 (((W.setCell ⟨u1, 0, none⟩ (.int .i64 s)).setCell ⟨u2, 0, none⟩ (.int .i64 d)).setCell ⟨u3, 0, none⟩ (.bool true)) s d a true :=
  ⟨((m.s.set _).other h12 _).other h13 _, ((m.d.other h12.symm _).set _).other h23 _, ((m.b.other h13.symm _).other h23.symm _).set _, ((m.a.other h14.symm _).other h24.symm _).other h34.symm _⟩
theorem measV_some {x : Ex} {a s d : Nat} (h : msr (preo x 1) = some (a, s, d)) : measV x = .tuple #[.int .i64 s, .int .i64 d, .bool true] := by
  simp [measV, measO, h]
theorem measV_none {x : Ex} (h : msr (preo x 1) = none) : measV x = .tuple #[.int .i64 0, .int .i64 0, .bool false] := by
  simp [measV, measO, h]
theorem mstep_le {o : Option (Nat × Nat × Nat)} {y : Ex × Nat} {a s d : Nat} (h : mstep o y = some (a, s, d)) (ho : ∀ a s d, o = some (a, s, d) → a ≤ 32 ∧ s ≤ 512 ∧ d ≤ 32) : a ≤ 32 ∧ s ≤ 512 ∧ d ≤ 32 := by
  obtain ⟨x, lv⟩ := y
  cases o with
  | none => cases h
  | some o =>
    obtain ⟨a0, s0, d0⟩ := o
    have h0 := ho _ _ _ rfl
    have hA : aggl a0 lv ≤ 32 := by unfold aggl; split <;> omega
    by_cases hn : s0 = 512 ∨ 32 < lv ∨ (x.hd.k = 4 ∧ 0 < aggl a0 lv) ∨ fitsB x.hd x.kids.length = false
    · rw [mstep, if_pos hn] at h; cases h
    · rw [mstep, if_neg hn] at h
      simp only [Option.some.injEq, Prod.mk.injEq] at h
      obtain ⟨h1, h2, h3⟩ := h
      have hs : s0 ≠ 512 := fun e => hn (.inl e)
      have hl : ¬ 32 < lv := fun e => hn (.inr (.inl e))
      refine ⟨?_, by omega, by omega⟩
      rw [← h1]; split <;> omega
theorem msr_le : ∀ (ys : List (Ex × Nat)) {o : Option (Nat × Nat × Nat)} {a s d : Nat}, ys.foldl mstep o = some (a, s, d) → (∀ a s d, o = some (a, s, d) → a ≤ 32 ∧ s ≤ 512 ∧ d ≤ 32) → a ≤ 32 ∧ s ≤ 512 ∧ d ≤ 32
  | [], _, _, _, _, h, ho => ho _ _ _ h
  | y :: ys, _, _, _, _, h, ho => msr_le ys (by rw [List.foldl_cons] at h; exact h) (fun _ _ _ e => mstep_le e ho)

set_option maxRecDepth 100000 in
set_option maxHeartbeats 16000000 in
theorem measure_any (h : Hd) (lk : List Ex) (A : Option Addr) (cap : Nat) (w : World) (hX : XsAt w.heap.size w lk A) (hcap : lk.length ≤ cap) (hsm : AllSm (.mk h lk)) (hc : cnt (.mk h lk) ≤ 999999) (hT : Tabs w) :
    Calls Tryz.prog 56 #[XV h A lk.length cap] w fun e w' => e = .returned (measV (.mk h lk)) ∧ Below w.heap.size w w' := by
  have HT := Lib.hid hT
  have HXs := Lib.hid hX
  have HSm := Lib.hid hsm
  clear hT hX hsm
  refine (callsIn_wide (n := 9)).1 ?_
  refine callsIn_of_wp_marks Tryz.func56 rfl trivial ?_ rfl
  simp only [Tryz.ntmps56, List.size_toArray, List.length_cons, List.length_nil, Nat.reduceAdd, Nat.reduceSub, Array.replicate_succ, Array.replicate_zero, List.push_toArray, List.append_toArray, List.nil_append, List.cons_append]
  gi_wp2_with ((try refine ⟨trivial, ?_⟩); gi_at_call 54; refine (through_in Fence.wide _ trivial rfl _ _ _ _ _).mono ?_; rintro e w' ⟨rfl, rfl⟩)
  have bS := ((((Boxed.new (w.alloc (xbox h A lk.length cap)) 3 (.int .i64 0)).alloc (.cells #[.int .i64 0] 3)).alloc (.cells #[.bool false] 4)).alloc (.cells #[.int .i64 0] 3)).alloc (xbox h A lk.length cap)
  have bD := (((Boxed.new ((w.alloc (xbox h A lk.length cap)).alloc (.cells #[.int .i64 0] 3)) 3 (.int .i64 0)).alloc (.cells #[.bool false] 4)).alloc (.cells #[.int .i64 0] 3)).alloc (xbox h A lk.length cap)
  have bO := ((Boxed.new (((w.alloc (xbox h A lk.length cap)).alloc (.cells #[.int .i64 0] 3)).alloc (.cells #[.int .i64 0] 3)) 4 (.bool false)).alloc (.cells #[.int .i64 0] 3)).alloc (xbox h A lk.length cap)
  have bA := (Boxed.new ((((w.alloc (xbox h A lk.length cap)).alloc (.cells #[.int .i64 0] 3)).alloc (.cells #[.int .i64 0] 3)).alloc (.cells #[.bool false] 4)) 3 (.int .i64 0)).alloc (xbox h A lk.length cap)
  have bX := (MapKept.heap_alloc (((((w.alloc (xbox h A lk.length cap)).alloc (.cells #[.int .i64 0] 3)).alloc (.cells #[.int .i64 0] 3)).alloc (.cells #[.bool false] 4)).alloc (.cells #[.int .i64 0] 3)) (xbox h A lk.length cap)).1
  simp only [World.size_alloc] at bS bD bO bA bX
  have hB0 : Below w.heap.size w ((((((w.alloc (xbox h A lk.length cap)).alloc (.cells #[.int .i64 0] 3)).alloc (.cells #[.int .i64 0] 3)).alloc (.cells #[.bool false] 4)).alloc (.cells #[.int .i64 0] 3)).alloc (xbox h A lk.length cap)) :=
    bt (bt (ba2 w _ _) (ba2 _ _ _)) (ba2 _ _ _)
  have hsz0 : ((((((w.alloc (xbox h A lk.length cap)).alloc (.cells #[.int .i64 0] 3)).alloc (.cells #[.int .i64 0] 3)).alloc (.cells #[.bool false] 4)).alloc (.cells #[.int .i64 0] 3)).alloc (xbox h A lk.length cap)).heap.size = w.heap.size + 6 := by simp
  obtain ⟨W0, hW0⟩ : ∃ W0, (((((w.alloc (xbox h A lk.length cap)).alloc (.cells #[.int .i64 0] 3)).alloc (.cells #[.int .i64 0] 3)).alloc (.cells #[.bool false] 4)).alloc (.cells #[.int .i64 0] 3)).alloc (xbox h A lk.length cap) = W0 := ⟨_, rfl⟩
  rw [hW0] at bS bD bO bA bX hB0 hsz0 ⊢
  clear hW0
  obtain ⟨u1, hu1⟩ : ∃ u, w.heap.size + 1 = u := ⟨_, rfl⟩
  rw [hu1] at bS bD bO bA bX ⊢
  obtain ⟨u2, hu2⟩ : ∃ u, u1 + 1 = u := ⟨_, rfl⟩
  rw [hu2] at bD bO bA bX ⊢
  obtain ⟨u3, hu3⟩ : ∃ u, u2 + 1 = u := ⟨_, rfl⟩
  rw [hu3] at bO bA bX ⊢
  obtain ⟨u4, hu4⟩ : ∃ u, u3 + 1 = u := ⟨_, rfl⟩
  rw [hu4] at bA bX ⊢
  obtain ⟨u5, hu5⟩ : ∃ u, u4 + 1 = u := ⟨_, rfl⟩
  rw [hu5] at bX ⊢
  obtain ⟨S, hSd⟩ : ∃ S : Nat → Prop, (fun k => u1 ≤ k ∧ k ≤ u4) = S := ⟨_, rfl⟩
  have hSi : ∀ k, S k ↔ (u1 ≤ k ∧ k ≤ u4) := fun k => by rw [← hSd]
  have hS1 : S u1 := (hSi _).2 (by omega)
  have hS2 : S u2 := (hSi _).2 (by omega)
  have hS3 : S u3 := (hSi _).2 (by omega)
  have hS4 : S u4 := (hSi _).2 (by omega)
  have hSB : ∀ k, S k → k < W0.heap.size := fun k hk => by have := (hSi k).1 hk; omega
  have hSU : ∀ k, S k → w.heap.size ≤ k := fun k hk => by have := (hSi k).1 hk; omega
  have h12 : u1 ≠ u2 := by omega
  have h23 : u2 ≠ u3 := by omega
  have h34 : u3 ≠ u4 := by omega
  have h14 : u1 ≠ u4 := by omega
  have h24 : u2 ≠ u4 := by omega
  have hX0 : XsAt w.heap.size W0 lk A := HXs.out.kept hB0
  have own1 : ∀ {X Y : World} {row : Option Nat} {B : Nat} {t : TypeId} {v : Value}, Boxed X B t v → X.grownBy Y row → (∀ r, row = some r → W0.heap.size ≤ r ∧ ∃ o : Obj, X.heap[r]? = some o ∧ o.isCells = false) → Boxed Y B t v :=
    fun hb hg hr => boxed_own _ _ (fun (_ : Unit) => _) () _ _ _ hb hg (fun r e => (hr r e).2)
  have ownM : ∀ {X Y : World} {row : Option Nat} {s d a : Nat} {b : Bool}, MB u1 u2 u3 u4 X s d a b → X.grownBy Y row → (∀ r, row = some r → W0.heap.size ≤ r ∧ ∃ o : Obj, X.heap[r]? = some o ∧ o.isCells = false) → MB u1 u2 u3 u4 Y s d a b :=
    fun m hg hr => ⟨own1 m.s hg hr, own1 m.d hg hr, own1 m.b hg hr, own1 m.a hg hr⟩
  have ownB := @ownFrom_below Unit w.heap.size W0.heap.size w (Nat.le_refl _) (by omega)
  refine wpIn_rangeFunc_ownH rfl (by omega) (gf := 71) (lb := #[.pointer (some ⟨u5, 0, none⟩)]) rfl trivial (enters_of Tryz.func71 (by kernel_rfl) rfl)
    (through_stops Fence.wide rfl _ trivial trivial rfl u5 w.heap.size S (fun _ => False) (fun _ _ _ _ h => h) W0 ⟨⟨.mk h lk, A, cap, 1⟩, ⟨hX0, hcap, HSm.out, by simp only; omega⟩⟩ rfl (by omega) (by omega) hSB bX) KpS.trans (kpS_put (by omega)) (Below.refl _ _) (fun _ => rfl)
    (fun pre W => ∃ a s d b, msr (pre.map ndp) = some (a, s, d) ∧ MB u1 u2 u3 u4 W s d a b ∧ Below w.heap.size w W ∧ W0.heap.size ≤ W.heap.size)
    (fun c pre W => c = .ret ∧ msr (pre.map ndp) = none ∧ (∃ a, MB u1 u2 u3 u4 W 0 0 a false) ∧ Below w.heap.size w W)
    (fun pre X Y row hs hg hr => by
      obtain ⟨a, s, d, b, h1, h2, h3, h4⟩ := hs
      exact ⟨a, s, d, b, h1, ownM h2 hg hr, ownB () X Y row h3 hg hr, Nat.le_trans h4 hg.size⟩)
    (fun c pre X Y row hs hg hr => by
      obtain ⟨h0, h1, ⟨a, h2⟩, h3⟩ := hs
      exact ⟨h0, h1, ⟨a, ownM h2 hg hr⟩, ownB () X Y row h3 hg hr⟩)
    ⟨0, 0, 0, false, rfl, ⟨bS, bD, bO, bA⟩, hB0, Nat.le_refl _⟩
    (fun x a' W => ∃ Bx, u5 < Bx ∧ W.heap[Bx]? = some (xbox x.1.ex.hd x.1.A x.1.ex.kids.length x.1.cap) ∧
      a' = { tmps := #[XV h A lk.length cap, .pointer (some ⟨w.heap.size, 0, none⟩), .pointer (some ⟨u1, 0, none⟩), .pointer (some ⟨u2, 0, none⟩), .pointer (some ⟨u3, 0, none⟩), .pointer (some ⟨u4, 0, none⟩), .pointer (some ⟨Bx, 0, none⟩), .int .i64 x.1.lv, undef, XV h A lk.length cap, .func (.func 71) #[] #[.pointer (some ⟨u5, 0, none⟩)], XV x.1.ex.hd x.1.A x.1.ex.kids.length x.1.cap, .int .i64 x.1.lv, undef, undef, undef, undef, undef, undef, undef, undef, undef, undef, undef, undef, undef, undef, undef, undef, undef, undef, undef, undef, undef, undef, undef, undef, undef, undef, undef, undef, undef, undef, undef, undef, undef, undef, undef], defers := [] })
    (fun x a' _ X Y row hs hg hr => by
      obtain ⟨Bx, h1, h2, h3⟩ := hs
      refine ⟨Bx, h1, (hg.block Bx (Array.getElem?_eq_some_iff.1 h2).1 (fun e => ?_)).trans h2, h3⟩
      obtain ⟨_, o, ho, hoc⟩ := hr Bx e.symm
      rw [h2] at ho; cases ho; cases hoc)
    ?assign ?body ?done ?stop
  case assign =>
    rintro l pre x W K ⟨a, s, d, b, h1, h2, h3, h4⟩ hK
    gi_wp2
    exact hK _ _ ((KeepsOthers.alloc _ _).from _) ((Rd.of (S := S) (ba W _)).kp hSU (by omega)) ⟨a, s, d, b, h1, h2.kept (ba W _), bt' h3 (ba W _), by rw [World.size_alloc]; omega⟩ ⟨W.heap.size, by have := h2.a.lt; omega, (MapKept.heap_alloc W _).1, rfl⟩
  case body =>
    rintro l pre x a' W hl _ ⟨a, s, d, b, hms, hm, hB, hsz⟩ ⟨Bx, hBx, hXb, rfl⟩ hlt
    obtain ⟨hab, hsb, hdb⟩ := msr_le _ hms (fun a s d e => by cases e; exact ⟨by omega, by omega, by omega⟩)
    obtain ⟨⟨⟨⟨kk, nn, vk, vn, vs, tb, cl⟩, l'⟩, A', cap', lv⟩, ok⟩ := x
    have hlv := ok.lv
    have hcn := cnt_pos (.mk ⟨kk, nn, vk, vn, vs, tb, cl⟩ l')
    have hln : l'.length ≤ 1000000 := by have := cntL_len l'; simp only [cnt_mk] at hlv; omega
    simp only at hlv
    have Hms := Lib.hid hms
    have HM0 := Lib.hid hm
    obtain ⟨bf, hbf⟩ : ∃ bf, fitsB ⟨kk, nn, vk, vn, vs, tb, cl⟩ l'.length = bf := ⟨_, rfl⟩
    have Hbf := Lib.hid hbf
    have HF := Lib.hid (fun W1 (hb1 : Below w.heap.size w W1) => fits_any ⟨kk, nn, vk, vn, vs, tb, cl⟩ A' l'.length cap' W1 (by have := ok.sm; rw [AllSm] at this; exact this.1) (HT.out.kept hb1) (by omega))
    rw [hbf] at HF
    have hXb : W.heap[Bx]? = some (.cells #[.int .i64 kk, .int .i64 nn, .int .i64 vk, .int .i64 vn, .string vs, .string tb, .string cl, .slice A' l'.length cap'] 30 (0, 0)) := hXb
    have HX0 := Lib.hid hXb
    have HBl := Lib.hid (Array.getElem?_eq_some_iff.1 hXb).1
    obtain ⟨⟨k1, g1⟩, ⟨k2, g2⟩, ⟨k3, g3⟩, k4, g4⟩ := hm.cells
    obtain ⟨⟨y0, y1, y2, y3, y4, y5, y6, y7⟩, _⟩ := cell8 hXb
    clear hms hm hXb hbf
    by_cases hla : lv ≤ a
    · have hla1 : (lv : Int) ≤ (a : Int) := by omega
      have HM := Lib.hid (HM0.out.lvl h14 h24 h34 0)
      have HBc := Lib.hid (hB.setCell (p := ⟨u4, 0, none⟩) (by simp only; omega) (.int .i64 0))
      have HRc := Lib.hid ((Rd.refl S W).set (j := 0) hS4 (.int .i64 0))
      have HXb := Lib.hid ((setc_other (W := W) (U := u4) (k := Bx) (j := 0) (by omega) (.int .i64 0)).trans HX0.out)
      have HXl := Lib.hid (show Bx < (W.setCell ⟨u4, 0, none⟩ (.int .i64 0)).heap.size by rw [setc_size]; exact HBl.out)
      by_cases hk4 : kk = 4
      · subst hk4
        by_cases hs : s = 512
        · have hs1 : (s : Int) = 512 := by omega
          have HN := Lib.hid (show msr ((pre ++ [(⟨⟨.mk ⟨4, nn, vk, vn, vs, tb, cl⟩ l', A', cap', lv⟩, ok⟩ : NdS w.heap.size W0)]).map ndp) = none by rw [List.map_append, List.map_cons, List.map_nil, msr_snoc, Hms.out]; exact mstep_bad (.inl hs))
          gi_wp2_with ((try refine ⟨trivial, ?_⟩); gi_at_call 73; refine (CallsIn.inRound l (callsIn_wide.2 (HF.out _ HBc.out))).mono ?_; rintro e W5 ⟨rfl, hb5⟩; have m5 := HM.out.kept hb5; obtain ⟨⟨k1, g1⟩, ⟨k2, g2⟩, ⟨k3, g3⟩, k4, g4⟩ := m5.cells; have x5 := (hb5.block Bx HXl.out).trans HXb.out; have y0 := (cell8 x5).1.1; have HM5 := Lib.hid m5; have HR5 := Lib.hid (HRc.out.trans (Rd.of hb5)); have HB5 := Lib.hid (HBc.out.trans (hb5.mono HBc.out.size)); clear hb5 m5 x5)
          try (refine ⟨trivial, ?_⟩; gi_wp2)
          refine ⟨?_, rfl, HN.out, ?_, ?_⟩
          · first
              | exact (((HR5.out.set hS1 _).set hS2 _).set hS3 _).from hSB
              | exact (((HRc.out.set hS1 _).set hS2 _).set hS3 _).from hSB
          · first
              | exact ⟨_, HM5.out.zero h12 h23 h34⟩
              | exact ⟨_, HM.out.zero h12 h23 h34⟩
          · first
              | exact ((HB5.out.setCell (p := ⟨u1, 0, none⟩) (by simp only; omega) _).setCell (p := ⟨u2, 0, none⟩) (by simp only; omega) _).setCell (p := ⟨u3, 0, none⟩) (by simp only; omega) _
              | exact ((HBc.out.setCell (p := ⟨u1, 0, none⟩) (by simp only; omega) _).setCell (p := ⟨u2, 0, none⟩) (by simp only; omega) _).setCell (p := ⟨u3, 0, none⟩) (by simp only; omega) _
        · have hs1 : ¬ (s : Int) = 512 := by omega
          by_cases hl : 32 < lv
          · have hl1 : (32 : Int) < (lv : Int) := by omega
            omega
          · have hl1 : ¬ (32 : Int) < (lv : Int) := by omega
            cases hft : bf
            · have HFt := Lib.hid (Hbf.out.trans hft)
              subst hft
              have HN := Lib.hid (show msr ((pre ++ [(⟨⟨.mk ⟨4, nn, vk, vn, vs, tb, cl⟩ l', A', cap', lv⟩, ok⟩ : NdS w.heap.size W0)]).map ndp) = none by rw [List.map_append, List.map_cons, List.map_nil, msr_snoc, Hms.out]; exact mstep_bad (.inr (.inr (.inr HFt.out))))
              gi_wp2_with ((try refine ⟨trivial, ?_⟩); gi_at_call 73; refine (CallsIn.inRound l (callsIn_wide.2 (HF.out _ HBc.out))).mono ?_; rintro e W5 ⟨rfl, hb5⟩; have m5 := HM.out.kept hb5; obtain ⟨⟨k1, g1⟩, ⟨k2, g2⟩, ⟨k3, g3⟩, k4, g4⟩ := m5.cells; have x5 := (hb5.block Bx HXl.out).trans HXb.out; have y0 := (cell8 x5).1.1; have HM5 := Lib.hid m5; have HR5 := Lib.hid (HRc.out.trans (Rd.of hb5)); have HB5 := Lib.hid (HBc.out.trans (hb5.mono HBc.out.size)); clear hb5 m5 x5)
              try (refine ⟨trivial, ?_⟩; gi_wp2)
              refine ⟨?_, rfl, HN.out, ?_, ?_⟩
              · first
                  | exact (((HR5.out.set hS1 _).set hS2 _).set hS3 _).from hSB
                  | exact (((HRc.out.set hS1 _).set hS2 _).set hS3 _).from hSB
              · first
                  | exact ⟨_, HM5.out.zero h12 h23 h34⟩
                  | exact ⟨_, HM.out.zero h12 h23 h34⟩
              · first
                  | exact ((HB5.out.setCell (p := ⟨u1, 0, none⟩) (by simp only; omega) _).setCell (p := ⟨u2, 0, none⟩) (by simp only; omega) _).setCell (p := ⟨u3, 0, none⟩) (by simp only; omega) _
                  | exact ((HBc.out.setCell (p := ⟨u1, 0, none⟩) (by simp only; omega) _).setCell (p := ⟨u2, 0, none⟩) (by simp only; omega) _).setCell (p := ⟨u3, 0, none⟩) (by simp only; omega) _
            · have HFt := Lib.hid (Hbf.out.trans hft)
              subst hft
              have HN := Lib.hid (show msr ((pre ++ [(⟨⟨.mk ⟨4, nn, vk, vn, vs, tb, cl⟩ l', A', cap', lv⟩, ok⟩ : NdS w.heap.size W0)]).map ndp) = some (lv, s + 1, (max d lv)) by rw [List.map_append, List.map_cons, List.map_nil, msr_snoc, Hms.out]; exact mstep_agg rfl (by unfold aggl; split <;> omega) hs hl HFt.out rfl)
              gi_wp2_with ((try refine ⟨trivial, ?_⟩); gi_at_call 73; refine (CallsIn.inRound l (callsIn_wide.2 (HF.out _ HBc.out))).mono ?_; rintro e W5 ⟨rfl, hb5⟩; have m5 := HM.out.kept hb5; obtain ⟨⟨k1, g1⟩, ⟨k2, g2⟩, ⟨k3, g3⟩, k4, g4⟩ := m5.cells; have x5 := (hb5.block Bx HXl.out).trans HXb.out; have y0 := (cell8 x5).1.1; have HM5 := Lib.hid m5; have HR5 := Lib.hid (HRc.out.trans (Rd.of hb5)); have HB5 := Lib.hid (HBc.out.trans (hb5.mono HBc.out.size)); clear hb5 m5 x5)
              try (refine ⟨trivial, ?_⟩; gi_wp2)
              exact ⟨(((HR5.out.set hS4 _).set hS1 _).set hS2 _).from hSB, (((HR5.out.set hS4 _).set hS1 _).set hS2 _).kp hSU (by omega), _, _, _, _, HN.out, (HM5.out.lvl h14 h24 h34 lv).next h12 h23 h14 h24 (max d lv) (max (d : Int) lv) (by omega), ((HB5.out.setCell (p := ⟨u4, 0, none⟩) (by simp only; omega) _).setCell (p := ⟨u1, 0, none⟩) (by simp only; omega) _).setCell (p := ⟨u2, 0, none⟩) (by simp only; omega) _, Nat.le_trans hsz (((HR5.out.set hS4 _).set hS1 _).set hS2 _).size⟩
      · by_cases hs : s = 512
        · have hs1 : (s : Int) = 512 := by omega
          have HN := Lib.hid (show msr ((pre ++ [(⟨⟨.mk ⟨kk, nn, vk, vn, vs, tb, cl⟩ l', A', cap', lv⟩, ok⟩ : NdS w.heap.size W0)]).map ndp) = none by rw [List.map_append, List.map_cons, List.map_nil, msr_snoc, Hms.out]; exact mstep_bad (.inl hs))
          gi_wp2_with ((try refine ⟨trivial, ?_⟩); gi_at_call 73; refine (CallsIn.inRound l (callsIn_wide.2 (HF.out _ HBc.out))).mono ?_; rintro e W5 ⟨rfl, hb5⟩; have m5 := HM.out.kept hb5; obtain ⟨⟨k1, g1⟩, ⟨k2, g2⟩, ⟨k3, g3⟩, k4, g4⟩ := m5.cells; have x5 := (hb5.block Bx HXl.out).trans HXb.out; have y0 := (cell8 x5).1.1; have HM5 := Lib.hid m5; have HR5 := Lib.hid (HRc.out.trans (Rd.of hb5)); have HB5 := Lib.hid (HBc.out.trans (hb5.mono HBc.out.size)); clear hb5 m5 x5)
          try (refine ⟨trivial, ?_⟩; gi_wp2)
          refine ⟨?_, rfl, HN.out, ?_, ?_⟩
          · first
              | exact (((HR5.out.set hS1 _).set hS2 _).set hS3 _).from hSB
              | exact (((HRc.out.set hS1 _).set hS2 _).set hS3 _).from hSB
          · first
              | exact ⟨_, HM5.out.zero h12 h23 h34⟩
              | exact ⟨_, HM.out.zero h12 h23 h34⟩
          · first
              | exact ((HB5.out.setCell (p := ⟨u1, 0, none⟩) (by simp only; omega) _).setCell (p := ⟨u2, 0, none⟩) (by simp only; omega) _).setCell (p := ⟨u3, 0, none⟩) (by simp only; omega) _
              | exact ((HBc.out.setCell (p := ⟨u1, 0, none⟩) (by simp only; omega) _).setCell (p := ⟨u2, 0, none⟩) (by simp only; omega) _).setCell (p := ⟨u3, 0, none⟩) (by simp only; omega) _
        · have hs1 : ¬ (s : Int) = 512 := by omega
          by_cases hl : 32 < lv
          · have hl1 : (32 : Int) < (lv : Int) := by omega
            omega
          · have hl1 : ¬ (32 : Int) < (lv : Int) := by omega
            cases hft : bf
            · have HFt := Lib.hid (Hbf.out.trans hft)
              subst hft
              have HN := Lib.hid (show msr ((pre ++ [(⟨⟨.mk ⟨kk, nn, vk, vn, vs, tb, cl⟩ l', A', cap', lv⟩, ok⟩ : NdS w.heap.size W0)]).map ndp) = none by rw [List.map_append, List.map_cons, List.map_nil, msr_snoc, Hms.out]; exact mstep_bad (.inr (.inr (.inr HFt.out))))
              gi_wp2_with ((try refine ⟨trivial, ?_⟩); gi_at_call 73; refine (CallsIn.inRound l (callsIn_wide.2 (HF.out _ HBc.out))).mono ?_; rintro e W5 ⟨rfl, hb5⟩; have m5 := HM.out.kept hb5; obtain ⟨⟨k1, g1⟩, ⟨k2, g2⟩, ⟨k3, g3⟩, k4, g4⟩ := m5.cells; have x5 := (hb5.block Bx HXl.out).trans HXb.out; have y0 := (cell8 x5).1.1; have HM5 := Lib.hid m5; have HR5 := Lib.hid (HRc.out.trans (Rd.of hb5)); have HB5 := Lib.hid (HBc.out.trans (hb5.mono HBc.out.size)); clear hb5 m5 x5)
              try (refine ⟨trivial, ?_⟩; gi_wp2)
              refine ⟨?_, rfl, HN.out, ?_, ?_⟩
              · first
                  | exact (((HR5.out.set hS1 _).set hS2 _).set hS3 _).from hSB
                  | exact (((HRc.out.set hS1 _).set hS2 _).set hS3 _).from hSB
              · first
                  | exact ⟨_, HM5.out.zero h12 h23 h34⟩
                  | exact ⟨_, HM.out.zero h12 h23 h34⟩
              · first
                  | exact ((HB5.out.setCell (p := ⟨u1, 0, none⟩) (by simp only; omega) _).setCell (p := ⟨u2, 0, none⟩) (by simp only; omega) _).setCell (p := ⟨u3, 0, none⟩) (by simp only; omega) _
                  | exact ((HBc.out.setCell (p := ⟨u1, 0, none⟩) (by simp only; omega) _).setCell (p := ⟨u2, 0, none⟩) (by simp only; omega) _).setCell (p := ⟨u3, 0, none⟩) (by simp only; omega) _
            · have HFt := Lib.hid (Hbf.out.trans hft)
              subst hft
              have HN := Lib.hid (show msr ((pre ++ [(⟨⟨.mk ⟨kk, nn, vk, vn, vs, tb, cl⟩ l', A', cap', lv⟩, ok⟩ : NdS w.heap.size W0)]).map ndp) = some (0, s + 1, (max d lv)) by rw [List.map_append, List.map_cons, List.map_nil, msr_snoc, Hms.out]; exact mstep_on hk4 hs hl HFt.out rfl (by unfold aggl; first | rw [if_pos hla] | rw [if_neg hla]))
              gi_wp2_with ((try refine ⟨trivial, ?_⟩); gi_at_call 73; refine (CallsIn.inRound l (callsIn_wide.2 (HF.out _ HBc.out))).mono ?_; rintro e W5 ⟨rfl, hb5⟩; have m5 := HM.out.kept hb5; obtain ⟨⟨k1, g1⟩, ⟨k2, g2⟩, ⟨k3, g3⟩, k4, g4⟩ := m5.cells; have x5 := (hb5.block Bx HXl.out).trans HXb.out; have y0 := (cell8 x5).1.1; have HM5 := Lib.hid m5; have HR5 := Lib.hid (HRc.out.trans (Rd.of hb5)); have HB5 := Lib.hid (HBc.out.trans (hb5.mono HBc.out.size)); clear hb5 m5 x5)
              try (refine ⟨trivial, ?_⟩; gi_wp2)
              exact ⟨((HR5.out.set hS1 _).set hS2 _).from hSB, ((HR5.out.set hS1 _).set hS2 _).kp hSU (by omega), _, _, _, _, HN.out, HM5.out.next h12 h23 h14 h24 (max d lv) (max (d : Int) lv) (by omega), (HB5.out.setCell (p := ⟨u1, 0, none⟩) (by simp only; omega) _).setCell (p := ⟨u2, 0, none⟩) (by simp only; omega) _, Nat.le_trans hsz ((HR5.out.set hS1 _).set hS2 _).size⟩
    · have hla1 : ¬ (lv : Int) ≤ (a : Int) := by omega
      have HM := HM0
      have HBc := Lib.hid hB
      have HRc := Lib.hid (Rd.refl S W)
      have HXb := HX0
      have HXl := HBl
      by_cases hk4 : kk = 4
      · subst hk4
        by_cases ha : a = 0
        · have ha1 : ¬ (0 : Int) < (a : Int) := by omega
          have ha2 : ¬ 0 < a := by omega
          by_cases hs : s = 512
          · have hs1 : (s : Int) = 512 := by omega
            have HN := Lib.hid (show msr ((pre ++ [(⟨⟨.mk ⟨4, nn, vk, vn, vs, tb, cl⟩ l', A', cap', lv⟩, ok⟩ : NdS w.heap.size W0)]).map ndp) = none by rw [List.map_append, List.map_cons, List.map_nil, msr_snoc, Hms.out]; exact mstep_bad (.inl hs))
            gi_wp2_with ((try refine ⟨trivial, ?_⟩); gi_at_call 73; refine (CallsIn.inRound l (callsIn_wide.2 (HF.out _ HBc.out))).mono ?_; rintro e W5 ⟨rfl, hb5⟩; have m5 := HM.out.kept hb5; obtain ⟨⟨k1, g1⟩, ⟨k2, g2⟩, ⟨k3, g3⟩, k4, g4⟩ := m5.cells; have x5 := (hb5.block Bx HXl.out).trans HXb.out; have y0 := (cell8 x5).1.1; have HM5 := Lib.hid m5; have HR5 := Lib.hid (HRc.out.trans (Rd.of hb5)); have HB5 := Lib.hid (HBc.out.trans (hb5.mono HBc.out.size)); clear hb5 m5 x5)
            try (refine ⟨trivial, ?_⟩; gi_wp2)
            refine ⟨?_, rfl, HN.out, ?_, ?_⟩
            · first
                | exact (((HR5.out.set hS1 _).set hS2 _).set hS3 _).from hSB
                | exact (((HRc.out.set hS1 _).set hS2 _).set hS3 _).from hSB
            · first
                | exact ⟨_, HM5.out.zero h12 h23 h34⟩
                | exact ⟨_, HM.out.zero h12 h23 h34⟩
            · first
                | exact ((HB5.out.setCell (p := ⟨u1, 0, none⟩) (by simp only; omega) _).setCell (p := ⟨u2, 0, none⟩) (by simp only; omega) _).setCell (p := ⟨u3, 0, none⟩) (by simp only; omega) _
                | exact ((HBc.out.setCell (p := ⟨u1, 0, none⟩) (by simp only; omega) _).setCell (p := ⟨u2, 0, none⟩) (by simp only; omega) _).setCell (p := ⟨u3, 0, none⟩) (by simp only; omega) _
          · have hs1 : ¬ (s : Int) = 512 := by omega
            by_cases hl : 32 < lv
            · have hl1 : (32 : Int) < (lv : Int) := by omega
              have HN := Lib.hid (show msr ((pre ++ [(⟨⟨.mk ⟨4, nn, vk, vn, vs, tb, cl⟩ l', A', cap', lv⟩, ok⟩ : NdS w.heap.size W0)]).map ndp) = none by rw [List.map_append, List.map_cons, List.map_nil, msr_snoc, Hms.out]; exact mstep_bad (.inr (.inl hl)))
              gi_wp2_with ((try refine ⟨trivial, ?_⟩); gi_at_call 73; refine (CallsIn.inRound l (callsIn_wide.2 (HF.out _ HBc.out))).mono ?_; rintro e W5 ⟨rfl, hb5⟩; have m5 := HM.out.kept hb5; obtain ⟨⟨k1, g1⟩, ⟨k2, g2⟩, ⟨k3, g3⟩, k4, g4⟩ := m5.cells; have x5 := (hb5.block Bx HXl.out).trans HXb.out; have y0 := (cell8 x5).1.1; have HM5 := Lib.hid m5; have HR5 := Lib.hid (HRc.out.trans (Rd.of hb5)); have HB5 := Lib.hid (HBc.out.trans (hb5.mono HBc.out.size)); clear hb5 m5 x5)
              try (refine ⟨trivial, ?_⟩; gi_wp2)
              refine ⟨?_, rfl, HN.out, ?_, ?_⟩
              · first
                  | exact (((HR5.out.set hS1 _).set hS2 _).set hS3 _).from hSB
                  | exact (((HRc.out.set hS1 _).set hS2 _).set hS3 _).from hSB
              · first
                  | exact ⟨_, HM5.out.zero h12 h23 h34⟩
                  | exact ⟨_, HM.out.zero h12 h23 h34⟩
              · first
                  | exact ((HB5.out.setCell (p := ⟨u1, 0, none⟩) (by simp only; omega) _).setCell (p := ⟨u2, 0, none⟩) (by simp only; omega) _).setCell (p := ⟨u3, 0, none⟩) (by simp only; omega) _
                  | exact ((HBc.out.setCell (p := ⟨u1, 0, none⟩) (by simp only; omega) _).setCell (p := ⟨u2, 0, none⟩) (by simp only; omega) _).setCell (p := ⟨u3, 0, none⟩) (by simp only; omega) _
            · have hl1 : ¬ (32 : Int) < (lv : Int) := by omega
              cases hft : bf
              · have HFt := Lib.hid (Hbf.out.trans hft)
                subst hft
                have HN := Lib.hid (show msr ((pre ++ [(⟨⟨.mk ⟨4, nn, vk, vn, vs, tb, cl⟩ l', A', cap', lv⟩, ok⟩ : NdS w.heap.size W0)]).map ndp) = none by rw [List.map_append, List.map_cons, List.map_nil, msr_snoc, Hms.out]; exact mstep_bad (.inr (.inr (.inr HFt.out))))
                gi_wp2_with ((try refine ⟨trivial, ?_⟩); gi_at_call 73; refine (CallsIn.inRound l (callsIn_wide.2 (HF.out _ HBc.out))).mono ?_; rintro e W5 ⟨rfl, hb5⟩; have m5 := HM.out.kept hb5; obtain ⟨⟨k1, g1⟩, ⟨k2, g2⟩, ⟨k3, g3⟩, k4, g4⟩ := m5.cells; have x5 := (hb5.block Bx HXl.out).trans HXb.out; have y0 := (cell8 x5).1.1; have HM5 := Lib.hid m5; have HR5 := Lib.hid (HRc.out.trans (Rd.of hb5)); have HB5 := Lib.hid (HBc.out.trans (hb5.mono HBc.out.size)); clear hb5 m5 x5)
                try (refine ⟨trivial, ?_⟩; gi_wp2)
                refine ⟨?_, rfl, HN.out, ?_, ?_⟩
                · first
                    | exact (((HR5.out.set hS1 _).set hS2 _).set hS3 _).from hSB
                    | exact (((HRc.out.set hS1 _).set hS2 _).set hS3 _).from hSB
                · first
                    | exact ⟨_, HM5.out.zero h12 h23 h34⟩
                    | exact ⟨_, HM.out.zero h12 h23 h34⟩
                · first
                    | exact ((HB5.out.setCell (p := ⟨u1, 0, none⟩) (by simp only; omega) _).setCell (p := ⟨u2, 0, none⟩) (by simp only; omega) _).setCell (p := ⟨u3, 0, none⟩) (by simp only; omega) _
                    | exact ((HBc.out.setCell (p := ⟨u1, 0, none⟩) (by simp only; omega) _).setCell (p := ⟨u2, 0, none⟩) (by simp only; omega) _).setCell (p := ⟨u3, 0, none⟩) (by simp only; omega) _
              · have HFt := Lib.hid (Hbf.out.trans hft)
                subst hft
                have HN := Lib.hid (show msr ((pre ++ [(⟨⟨.mk ⟨4, nn, vk, vn, vs, tb, cl⟩ l', A', cap', lv⟩, ok⟩ : NdS w.heap.size W0)]).map ndp) = some (lv, s + 1, (max d lv)) by rw [List.map_append, List.map_cons, List.map_nil, msr_snoc, Hms.out]; exact mstep_agg rfl (by unfold aggl; split <;> omega) hs hl HFt.out rfl)
                gi_wp2_with ((try refine ⟨trivial, ?_⟩); gi_at_call 73; refine (CallsIn.inRound l (callsIn_wide.2 (HF.out _ HBc.out))).mono ?_; rintro e W5 ⟨rfl, hb5⟩; have m5 := HM.out.kept hb5; obtain ⟨⟨k1, g1⟩, ⟨k2, g2⟩, ⟨k3, g3⟩, k4, g4⟩ := m5.cells; have x5 := (hb5.block Bx HXl.out).trans HXb.out; have y0 := (cell8 x5).1.1; have HM5 := Lib.hid m5; have HR5 := Lib.hid (HRc.out.trans (Rd.of hb5)); have HB5 := Lib.hid (HBc.out.trans (hb5.mono HBc.out.size)); clear hb5 m5 x5)
                try (refine ⟨trivial, ?_⟩; gi_wp2)
                exact ⟨(((HR5.out.set hS4 _).set hS1 _).set hS2 _).from hSB, (((HR5.out.set hS4 _).set hS1 _).set hS2 _).kp hSU (by omega), _, _, _, _, HN.out, (HM5.out.lvl h14 h24 h34 lv).next h12 h23 h14 h24 (max d lv) (max (d : Int) lv) (by omega), ((HB5.out.setCell (p := ⟨u4, 0, none⟩) (by simp only; omega) _).setCell (p := ⟨u1, 0, none⟩) (by simp only; omega) _).setCell (p := ⟨u2, 0, none⟩) (by simp only; omega) _, Nat.le_trans hsz (((HR5.out.set hS4 _).set hS1 _).set hS2 _).size⟩
        · have ha1 : (0 : Int) < (a : Int) := by omega
          have ha2 : 0 < a := by omega
          by_cases hs : s = 512
          · have hs1 : (s : Int) = 512 := by omega
            have HN := Lib.hid (show msr ((pre ++ [(⟨⟨.mk ⟨4, nn, vk, vn, vs, tb, cl⟩ l', A', cap', lv⟩, ok⟩ : NdS w.heap.size W0)]).map ndp) = none by rw [List.map_append, List.map_cons, List.map_nil, msr_snoc, Hms.out]; exact mstep_bad (.inl hs))
            gi_wp2_with ((try refine ⟨trivial, ?_⟩); gi_at_call 73; refine (CallsIn.inRound l (callsIn_wide.2 (HF.out _ HBc.out))).mono ?_; rintro e W5 ⟨rfl, hb5⟩; have m5 := HM.out.kept hb5; obtain ⟨⟨k1, g1⟩, ⟨k2, g2⟩, ⟨k3, g3⟩, k4, g4⟩ := m5.cells; have x5 := (hb5.block Bx HXl.out).trans HXb.out; have y0 := (cell8 x5).1.1; have HM5 := Lib.hid m5; have HR5 := Lib.hid (HRc.out.trans (Rd.of hb5)); have HB5 := Lib.hid (HBc.out.trans (hb5.mono HBc.out.size)); clear hb5 m5 x5)
            try (refine ⟨trivial, ?_⟩; gi_wp2)
            refine ⟨?_, rfl, HN.out, ?_, ?_⟩
            · first
                | exact (((HR5.out.set hS1 _).set hS2 _).set hS3 _).from hSB
                | exact (((HRc.out.set hS1 _).set hS2 _).set hS3 _).from hSB
            · first
                | exact ⟨_, HM5.out.zero h12 h23 h34⟩
                | exact ⟨_, HM.out.zero h12 h23 h34⟩
            · first
                | exact ((HB5.out.setCell (p := ⟨u1, 0, none⟩) (by simp only; omega) _).setCell (p := ⟨u2, 0, none⟩) (by simp only; omega) _).setCell (p := ⟨u3, 0, none⟩) (by simp only; omega) _
                | exact ((HBc.out.setCell (p := ⟨u1, 0, none⟩) (by simp only; omega) _).setCell (p := ⟨u2, 0, none⟩) (by simp only; omega) _).setCell (p := ⟨u3, 0, none⟩) (by simp only; omega) _
          · have hs1 : ¬ (s : Int) = 512 := by omega
            by_cases hl : 32 < lv
            · have hl1 : (32 : Int) < (lv : Int) := by omega
              have HN := Lib.hid (show msr ((pre ++ [(⟨⟨.mk ⟨4, nn, vk, vn, vs, tb, cl⟩ l', A', cap', lv⟩, ok⟩ : NdS w.heap.size W0)]).map ndp) = none by rw [List.map_append, List.map_cons, List.map_nil, msr_snoc, Hms.out]; exact mstep_bad (.inr (.inl hl)))
              gi_wp2_with ((try refine ⟨trivial, ?_⟩); gi_at_call 73; refine (CallsIn.inRound l (callsIn_wide.2 (HF.out _ HBc.out))).mono ?_; rintro e W5 ⟨rfl, hb5⟩; have m5 := HM.out.kept hb5; obtain ⟨⟨k1, g1⟩, ⟨k2, g2⟩, ⟨k3, g3⟩, k4, g4⟩ := m5.cells; have x5 := (hb5.block Bx HXl.out).trans HXb.out; have y0 := (cell8 x5).1.1; have HM5 := Lib.hid m5; have HR5 := Lib.hid (HRc.out.trans (Rd.of hb5)); have HB5 := Lib.hid (HBc.out.trans (hb5.mono HBc.out.size)); clear hb5 m5 x5)
              try (refine ⟨trivial, ?_⟩; gi_wp2)
              refine ⟨?_, rfl, HN.out, ?_, ?_⟩
              · first
                  | exact (((HR5.out.set hS1 _).set hS2 _).set hS3 _).from hSB
                  | exact (((HRc.out.set hS1 _).set hS2 _).set hS3 _).from hSB
              · first
                  | exact ⟨_, HM5.out.zero h12 h23 h34⟩
                  | exact ⟨_, HM.out.zero h12 h23 h34⟩
              · first
                  | exact ((HB5.out.setCell (p := ⟨u1, 0, none⟩) (by simp only; omega) _).setCell (p := ⟨u2, 0, none⟩) (by simp only; omega) _).setCell (p := ⟨u3, 0, none⟩) (by simp only; omega) _
                  | exact ((HBc.out.setCell (p := ⟨u1, 0, none⟩) (by simp only; omega) _).setCell (p := ⟨u2, 0, none⟩) (by simp only; omega) _).setCell (p := ⟨u3, 0, none⟩) (by simp only; omega) _
            · have hl1 : ¬ (32 : Int) < (lv : Int) := by omega
              have HN := Lib.hid (show msr ((pre ++ [(⟨⟨.mk ⟨4, nn, vk, vn, vs, tb, cl⟩ l', A', cap', lv⟩, ok⟩ : NdS w.heap.size W0)]).map ndp) = none by rw [List.map_append, List.map_cons, List.map_nil, msr_snoc, Hms.out]; exact mstep_bad (.inr (.inr (.inl ⟨rfl, by unfold aggl; rw [if_neg hla]; exact ha2⟩))))
              gi_wp2_with ((try refine ⟨trivial, ?_⟩); gi_at_call 73; refine (CallsIn.inRound l (callsIn_wide.2 (HF.out _ HBc.out))).mono ?_; rintro e W5 ⟨rfl, hb5⟩; have m5 := HM.out.kept hb5; obtain ⟨⟨k1, g1⟩, ⟨k2, g2⟩, ⟨k3, g3⟩, k4, g4⟩ := m5.cells; have x5 := (hb5.block Bx HXl.out).trans HXb.out; have y0 := (cell8 x5).1.1; have HM5 := Lib.hid m5; have HR5 := Lib.hid (HRc.out.trans (Rd.of hb5)); have HB5 := Lib.hid (HBc.out.trans (hb5.mono HBc.out.size)); clear hb5 m5 x5)
              try (refine ⟨trivial, ?_⟩; gi_wp2)
              refine ⟨?_, rfl, HN.out, ?_, ?_⟩
              · first
                  | exact (((HR5.out.set hS1 _).set hS2 _).set hS3 _).from hSB
                  | exact (((HRc.out.set hS1 _).set hS2 _).set hS3 _).from hSB
              · first
                  | exact ⟨_, HM5.out.zero h12 h23 h34⟩
                  | exact ⟨_, HM.out.zero h12 h23 h34⟩
              · first
                  | exact ((HB5.out.setCell (p := ⟨u1, 0, none⟩) (by simp only; omega) _).setCell (p := ⟨u2, 0, none⟩) (by simp only; omega) _).setCell (p := ⟨u3, 0, none⟩) (by simp only; omega) _
                  | exact ((HBc.out.setCell (p := ⟨u1, 0, none⟩) (by simp only; omega) _).setCell (p := ⟨u2, 0, none⟩) (by simp only; omega) _).setCell (p := ⟨u3, 0, none⟩) (by simp only; omega) _
      · by_cases hs : s = 512
        · have hs1 : (s : Int) = 512 := by omega
          have HN := Lib.hid (show msr ((pre ++ [(⟨⟨.mk ⟨kk, nn, vk, vn, vs, tb, cl⟩ l', A', cap', lv⟩, ok⟩ : NdS w.heap.size W0)]).map ndp) = none by rw [List.map_append, List.map_cons, List.map_nil, msr_snoc, Hms.out]; exact mstep_bad (.inl hs))
          gi_wp2_with ((try refine ⟨trivial, ?_⟩); gi_at_call 73; refine (CallsIn.inRound l (callsIn_wide.2 (HF.out _ HBc.out))).mono ?_; rintro e W5 ⟨rfl, hb5⟩; have m5 := HM.out.kept hb5; obtain ⟨⟨k1, g1⟩, ⟨k2, g2⟩, ⟨k3, g3⟩, k4, g4⟩ := m5.cells; have x5 := (hb5.block Bx HXl.out).trans HXb.out; have y0 := (cell8 x5).1.1; have HM5 := Lib.hid m5; have HR5 := Lib.hid (HRc.out.trans (Rd.of hb5)); have HB5 := Lib.hid (HBc.out.trans (hb5.mono HBc.out.size)); clear hb5 m5 x5)
          try (refine ⟨trivial, ?_⟩; gi_wp2)
          refine ⟨?_, rfl, HN.out, ?_, ?_⟩
          · first
              | exact (((HR5.out.set hS1 _).set hS2 _).set hS3 _).from hSB
              | exact (((HRc.out.set hS1 _).set hS2 _).set hS3 _).from hSB
          · first
              | exact ⟨_, HM5.out.zero h12 h23 h34⟩
              | exact ⟨_, HM.out.zero h12 h23 h34⟩
          · first
              | exact ((HB5.out.setCell (p := ⟨u1, 0, none⟩) (by simp only; omega) _).setCell (p := ⟨u2, 0, none⟩) (by simp only; omega) _).setCell (p := ⟨u3, 0, none⟩) (by simp only; omega) _
              | exact ((HBc.out.setCell (p := ⟨u1, 0, none⟩) (by simp only; omega) _).setCell (p := ⟨u2, 0, none⟩) (by simp only; omega) _).setCell (p := ⟨u3, 0, none⟩) (by simp only; omega) _
        · have hs1 : ¬ (s : Int) = 512 := by omega
          by_cases hl : 32 < lv
          · have hl1 : (32 : Int) < (lv : Int) := by omega
            have HN := Lib.hid (show msr ((pre ++ [(⟨⟨.mk ⟨kk, nn, vk, vn, vs, tb, cl⟩ l', A', cap', lv⟩, ok⟩ : NdS w.heap.size W0)]).map ndp) = none by rw [List.map_append, List.map_cons, List.map_nil, msr_snoc, Hms.out]; exact mstep_bad (.inr (.inl hl)))
            gi_wp2_with ((try refine ⟨trivial, ?_⟩); gi_at_call 73; refine (CallsIn.inRound l (callsIn_wide.2 (HF.out _ HBc.out))).mono ?_; rintro e W5 ⟨rfl, hb5⟩; have m5 := HM.out.kept hb5; obtain ⟨⟨k1, g1⟩, ⟨k2, g2⟩, ⟨k3, g3⟩, k4, g4⟩ := m5.cells; have x5 := (hb5.block Bx HXl.out).trans HXb.out; have y0 := (cell8 x5).1.1; have HM5 := Lib.hid m5; have HR5 := Lib.hid (HRc.out.trans (Rd.of hb5)); have HB5 := Lib.hid (HBc.out.trans (hb5.mono HBc.out.size)); clear hb5 m5 x5)
            try (refine ⟨trivial, ?_⟩; gi_wp2)
            refine ⟨?_, rfl, HN.out, ?_, ?_⟩
            · first
                | exact (((HR5.out.set hS1 _).set hS2 _).set hS3 _).from hSB
                | exact (((HRc.out.set hS1 _).set hS2 _).set hS3 _).from hSB
            · first
                | exact ⟨_, HM5.out.zero h12 h23 h34⟩
                | exact ⟨_, HM.out.zero h12 h23 h34⟩
            · first
                | exact ((HB5.out.setCell (p := ⟨u1, 0, none⟩) (by simp only; omega) _).setCell (p := ⟨u2, 0, none⟩) (by simp only; omega) _).setCell (p := ⟨u3, 0, none⟩) (by simp only; omega) _
                | exact ((HBc.out.setCell (p := ⟨u1, 0, none⟩) (by simp only; omega) _).setCell (p := ⟨u2, 0, none⟩) (by simp only; omega) _).setCell (p := ⟨u3, 0, none⟩) (by simp only; omega) _
          · have hl1 : ¬ (32 : Int) < (lv : Int) := by omega
            cases hft : bf
            · have HFt := Lib.hid (Hbf.out.trans hft)
              subst hft
              have HN := Lib.hid (show msr ((pre ++ [(⟨⟨.mk ⟨kk, nn, vk, vn, vs, tb, cl⟩ l', A', cap', lv⟩, ok⟩ : NdS w.heap.size W0)]).map ndp) = none by rw [List.map_append, List.map_cons, List.map_nil, msr_snoc, Hms.out]; exact mstep_bad (.inr (.inr (.inr HFt.out))))
              gi_wp2_with ((try refine ⟨trivial, ?_⟩); gi_at_call 73; refine (CallsIn.inRound l (callsIn_wide.2 (HF.out _ HBc.out))).mono ?_; rintro e W5 ⟨rfl, hb5⟩; have m5 := HM.out.kept hb5; obtain ⟨⟨k1, g1⟩, ⟨k2, g2⟩, ⟨k3, g3⟩, k4, g4⟩ := m5.cells; have x5 := (hb5.block Bx HXl.out).trans HXb.out; have y0 := (cell8 x5).1.1; have HM5 := Lib.hid m5; have HR5 := Lib.hid (HRc.out.trans (Rd.of hb5)); have HB5 := Lib.hid (HBc.out.trans (hb5.mono HBc.out.size)); clear hb5 m5 x5)
              try (refine ⟨trivial, ?_⟩; gi_wp2)
              refine ⟨?_, rfl, HN.out, ?_, ?_⟩
              · first
                  | exact (((HR5.out.set hS1 _).set hS2 _).set hS3 _).from hSB
                  | exact (((HRc.out.set hS1 _).set hS2 _).set hS3 _).from hSB
              · first
                  | exact ⟨_, HM5.out.zero h12 h23 h34⟩
                  | exact ⟨_, HM.out.zero h12 h23 h34⟩
              · first
                  | exact ((HB5.out.setCell (p := ⟨u1, 0, none⟩) (by simp only; omega) _).setCell (p := ⟨u2, 0, none⟩) (by simp only; omega) _).setCell (p := ⟨u3, 0, none⟩) (by simp only; omega) _
                  | exact ((HBc.out.setCell (p := ⟨u1, 0, none⟩) (by simp only; omega) _).setCell (p := ⟨u2, 0, none⟩) (by simp only; omega) _).setCell (p := ⟨u3, 0, none⟩) (by simp only; omega) _
            · have HFt := Lib.hid (Hbf.out.trans hft)
              subst hft
              have HN := Lib.hid (show msr ((pre ++ [(⟨⟨.mk ⟨kk, nn, vk, vn, vs, tb, cl⟩ l', A', cap', lv⟩, ok⟩ : NdS w.heap.size W0)]).map ndp) = some (a, s + 1, (max d lv)) by rw [List.map_append, List.map_cons, List.map_nil, msr_snoc, Hms.out]; exact mstep_on hk4 hs hl HFt.out rfl (by unfold aggl; first | rw [if_pos hla] | rw [if_neg hla]))
              gi_wp2_with ((try refine ⟨trivial, ?_⟩); gi_at_call 73; refine (CallsIn.inRound l (callsIn_wide.2 (HF.out _ HBc.out))).mono ?_; rintro e W5 ⟨rfl, hb5⟩; have m5 := HM.out.kept hb5; obtain ⟨⟨k1, g1⟩, ⟨k2, g2⟩, ⟨k3, g3⟩, k4, g4⟩ := m5.cells; have x5 := (hb5.block Bx HXl.out).trans HXb.out; have y0 := (cell8 x5).1.1; have HM5 := Lib.hid m5; have HR5 := Lib.hid (HRc.out.trans (Rd.of hb5)); have HB5 := Lib.hid (HBc.out.trans (hb5.mono HBc.out.size)); clear hb5 m5 x5)
              try (refine ⟨trivial, ?_⟩; gi_wp2)
              exact ⟨((HR5.out.set hS1 _).set hS2 _).from hSB, ((HR5.out.set hS1 _).set hS2 _).kp hSU (by omega), _, _, _, _, HN.out, HM5.out.next h12 h23 h14 h24 (max d lv) (max (d : Int) lv) (by omega), (HB5.out.setCell (p := ⟨u1, 0, none⟩) (by simp only; omega) _).setCell (p := ⟨u2, 0, none⟩) (by simp only; omega) _, Nat.le_trans hsz ((HR5.out.set hS1 _).set hS2 _).size⟩
  case done =>
    rintro D ys W hD hys ⟨a, s, d, b, h1, h2, h3, h4⟩ hK
    obtain ⟨⟨k1, g1⟩, ⟨k2, g2⟩, ⟨k3, g3⟩, k4, g4⟩ := h2.cells
    have hz := h2.ends h12 h23 h34
    have hR := (((Rd.refl S W).set (j := 0) hS1 (.int .i64 s)).set (j := 0) hS2 (.int .i64 d)).set (j := 0) hS3 (.bool true)
    have hKD := (hR.block D (Array.getElem?_eq_some_iff.1 hK).1 (fun e => by have := hSB D e; omega)).trans hK
    have HE := Lib.hid (measV_some (x := .mk h lk) (by rw [← hys]; exact h1))
    have HBl := Lib.hid (h3.trans (hR.below (n₀ := w.heap.size) hSU (by omega)))
    clear hR hK
    gi_wp2
    gi_region
    all_goals gi_wp2
    refine ⟨by simp, .inl ⟨_, _, rfl, run_takeDeferred hKD, ?_⟩⟩
    obtain ⟨q1, q2, q3⟩ := (show MB u1 u2 u3 u4 (((W.setCell ⟨u1, 0, none⟩ (.int .i64 s)).setCell ⟨u2, 0, none⟩ (.int .i64 d)).setCell ⟨u3, 0, none⟩ (.bool true)).drew s d a true from ⟨hz.s, hz.d, hz.b, hz.a⟩).put' (o' := .deferred none) hKD rfl
    refine ⟨measV (.mk h lk), ?_, rfl, ?_⟩
    · rw [HE.out]; simp [results, Tryz.results56, go_sem, q1, q2, q3]
    · exact (Below.drew HBl.out).trans (belowK_b (w := w) (Nat.le_refl _) _ D _ _ (by omega) hKD rfl rfl)
  case stop =>
    rintro D c pre W hD hSp ⟨rfl, h1, ⟨a, h2⟩, h3⟩ hK
    have HE := Lib.hid (measV_none (x := .mk h lk) (msr_pre hSp h1))
    gi_wp2
    refine ⟨by simp, .inl ⟨_, _, rfl, run_takeDeferred hK, ?_⟩⟩
    obtain ⟨q1, q2, q3⟩ := h2.put' (o' := .deferred none) hK rfl
    refine ⟨measV (.mk h lk), ?_, rfl, ?_⟩
    · rw [HE.out]; simp [results, Tryz.results56, go_sem, q1, q2, q3]
    · exact h3.trans (belowK_b (w := w) (Nat.le_refl _) _ D _ _ (by omega) hK rfl rfl)
end Go.Proofs.YtpokpiphnggfpaaGreatDoor
end
