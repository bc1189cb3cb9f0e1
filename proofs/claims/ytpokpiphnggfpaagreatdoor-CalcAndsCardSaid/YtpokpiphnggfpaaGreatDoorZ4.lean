/-
  Through an expression: visit, through; what a round of a loop over it may do to a world.
-/
import Derived.Test.YtpokpiphnggfpaaGreatDoorZ3
import Derived.RangeFuncNested
import Derived.RangeFuncBound
import Derived.RangeFuncCalls
import Derived.RangeFuncLeaves
import Derived.Shelf.Abstract
import Derived.Shelf.RegionOpen
import Derived.OwnWalkIn
import Derived.TacticsInMore
import Derived.LoopNIn
import Derived.LoopIn
section
namespace Go.Proofs.YtpokpiphnggfpaaGreatDoor
open Go.RowKit Go.Shelf
attribute [local go_sem] Oper.semAt_some

mutual
/-- All that stands in an expression, in the order of its text, with levels. -/
def preo : Ex → Nat → List (Ex × Nat)
  | .mk h l, d => (.mk h l, d) :: preoL l (d + 1)
def preoL : List Ex → Nat → List (Ex × Nat)
  | [], _ => []
  | x :: r, d => preo x d ++ preoL r d
end
theorem preo_mk (h : Hd) (l : List Ex) (d : Nat) : preo (.mk h l) d = (.mk h l, d) :: preoL l (d + 1) := by rw [preo]
theorem preoL_app : ∀ (l r : List Ex) (d : Nat), preoL (l ++ r) d = preoL l d ++ preoL r d
  | [], r, d => by rw [preoL]; rfl
  | x :: l, r, d => by rw [List.cons_append, preoL, preoL, preoL_app l r d, List.append_assoc]
theorem preoL_take {l : List Ex} {k : Nat} {x : Ex} (h : l[k]? = some x) (d : Nat) : preoL (l.take (k + 1)) d = preoL (l.take k) d ++ preo x d := by
  rw [List.take_add_one, h]
  simp only [Option.toList_some]
  rw [preoL_app, preoL, preoL, List.append_nil]
mutual
theorem preo_len : ∀ (x : Ex) (d : Nat), (preo x d).length = cnt x
  | .mk h l, d => by rw [preo, cnt, List.length_cons, preoL_len l (d + 1)]; omega
theorem preoL_len : ∀ (l : List Ex) (d : Nat), (preoL l d).length = cntL l
  | [], d => by rw [preoL, cntL]; rfl
  | x :: r, d => by rw [preoL, cntL, List.length_append, preo_len x d, preoL_len r d]
end
theorem preoL_split {l : List Ex} {k : Nat} {x : Ex} (h : l[k]? = some x) (d : Nat) : ∃ r, preoL l d = preoL (l.take k) d ++ (preo x d ++ r) := by
  have e : l = l.take k ++ (x :: l.drop (k + 1)) := by
    have := (List.take_append_drop k l).symm
    rwa [List.drop_eq_getElem_cons (List.getElem?_eq_some_iff.1 h).1, (List.getElem?_eq_some_iff.1 h).2] at this
  refine ⟨preoL (l.drop (k + 1)) d, ?_⟩
  conv => lhs; rw [e, preoL_app, preoL]
theorem cntL_split {l : List Ex} {k : Nat} {x : Ex} (h : l[k]? = some x) : cntL (l.take k) + cnt x ≤ cntL l := by
  obtain ⟨r, hr⟩ := preoL_split h 0
  have := congrArg List.length hr
  rw [preoL_len, List.length_append, preoL_len, List.length_append, preo_len] at this
  omega
mutual
/-- All texts in it are short. -/
def AllSm : Ex → Prop
  | .mk h l => Sm h ∧ AllSmL l
def AllSmL : List Ex → Prop
  | [] => True
  | x :: r => AllSm x ∧ AllSmL r
end
theorem AllSmL.at : ∀ {l : List Ex}, AllSmL l → ∀ {i : Nat} {x : Ex}, l[i]? = some x → AllSm x
  | [], _, i, x, h => by simp at h
  | y :: r, H, 0, x, h => by
    obtain rfl : y = x := by simpa using h
    rw [AllSmL] at H; exact H.1
  | y :: r, H, i + 1, x, h => by
    rw [AllSmL] at H; exact AllSmL.at H.2 (i := i) (by simpa using h)

/-- What is handed over, with what is known of it. -/
structure Nd where
  ex : Ex
  A : Option Addr
  cap : Nat
  lv : Nat
structure NdOk (n₀ : Nat) (w0 : World) (y : Nd) : Prop where
  at' : XsAt n₀ w0 y.ex.kids y.A
  cap : y.ex.kids.length ≤ y.cap
  sm : AllSm y.ex
  lv : y.lv + cnt y.ex ≤ 1000000
abbrev NdS (n₀ : Nat) (w0 : World) := { y : Nd // NdOk n₀ w0 y }
abbrev ncs {n₀ : Nat} {w0 : World} (x : NdS n₀ w0) : Array Value := #[XV x.1.ex.hd x.1.A x.1.ex.kids.length x.1.cap, .int .i64 x.1.lv]
abbrev ndp {n₀ : Nat} {w0 : World} (x : NdS n₀ w0) : Ex × Nat := (x.1.ex, x.1.lv)

/-- What a round may do: it turns boxes of S alone, and makes new blocks. -/
structure Rd (S : Nat → Prop) (W W' : World) : Prop where
  os : W'.os = W.os
  tape : W'.tape = W.tape
  output : W'.output = W.output
  size : W.heap.size ≤ W'.heap.size
  block : ∀ k, k < W.heap.size → ¬ S k → W'.heap[k]? = W.heap[k]?
theorem Rd.refl (S : Nat → Prop) (W : World) : Rd S W W := ⟨rfl, rfl, rfl, Nat.le_refl _, fun _ _ _ => rfl⟩
theorem Rd.trans {S : Nat → Prop} {A B C : World} (h : Rd S A B) (k : Rd S B C) : Rd S A C :=
  ⟨k.os.trans h.os, k.tape.trans h.tape, k.output.trans h.output, Nat.le_trans h.size k.size, fun i hi hs => (k.block i (Nat.lt_of_lt_of_le hi h.size) hs).trans (h.block i hi hs)⟩
theorem Rd.of {S : Nat → Prop} {W W' : World} (hb : Below W.heap.size W W') : Rd S W W' := ⟨hb.os, hb.tape, hb.output, hb.size, fun k hk _ => hb.block k hk⟩
theorem Rd.set {S : Nat → Prop} {W W' : World} (h : Rd S W W') {b j : Nat} (hs : S b) (v : Value) : Rd S W (W'.setCell ⟨b, j, none⟩ v) := by
  refine h.trans ⟨rfl, rfl, rfl, by rw [setc_size]; exact Nat.le_refl _, fun k _ hk => setc_other (fun e => hk (by rw [e]; exact hs)) v⟩
theorem Rd.alloc {S : Nat → Prop} {W W' : World} (h : Rd S W W') (o : Obj) : Rd S W (W'.alloc o) := h.trans (Rd.of (ba W' o))
theorem Rd.below {S : Nat → Prop} {n₀ : Nat} {W W' : World} (h : Rd S W W') (hs : ∀ k, S k → n₀ ≤ k) (hn : n₀ ≤ W.heap.size) : Below n₀ W W' :=
  ⟨h.os, h.tape, h.output, h.size, fun k hk => h.block k (Nat.lt_of_lt_of_le hk hn) (fun e => by have := hs k e; omega)⟩
theorem Rd.from {S : Nat → Prop} {B : Nat} {W W' : World} (h : Rd S W W') (hs : ∀ k, S k → k < B) : KeepsFrom B W W' :=
  ⟨h.size, fun k o hB hk _ => (h.block k (Array.getElem?_eq_some_iff.1 hk).1 (fun e => by have := hs k e; omega)).trans hk⟩
/-- What a round that goes on keeps. -/
structure KpS (n₀ : Nat) (S : Nat → Prop) (P : Obj → Prop) (W W' : World) : Prop where
  bel : Below n₀ W W'
  size : W.heap.size ≤ W'.heap.size
  same : ∀ k o, W.heap[k]? = some o → o.isCells = true → ¬ S k → ¬ P o → W'.heap[k]? = some o
theorem KpS.refl (n₀ : Nat) (S : Nat → Prop) (P : Obj → Prop) (W : World) : KpS n₀ S P W W := ⟨Below.refl _ _, Nat.le_refl _, fun _ _ h _ _ _ => h⟩
theorem KpS.trans {n₀ : Nat} {S : Nat → Prop} {P : Obj → Prop} {A B C : World} (h : KpS n₀ S P A B) (k : KpS n₀ S P B C) : KpS n₀ S P A C :=
  ⟨h.bel.trans k.bel, Nat.le_trans h.size k.size, fun i o hi ho hs hp => k.same i o (h.same i o hi ho hs hp) ho hs hp⟩
theorem Rd.kp {S : Nat → Prop} {P : Obj → Prop} {n₀ : Nat} {W W' : World} (h : Rd S W W') (hs : ∀ k, S k → n₀ ≤ k) (hn : n₀ ≤ W.heap.size) : KpS n₀ S P W W' :=
  ⟨h.below hs hn, h.size, fun k _ hk _ he _ => (h.block k (Array.getElem?_eq_some_iff.1 hk).1 he).trans hk⟩
theorem Rd.kp' {S : Nat → Prop} {P : Obj → Prop} {n₀ : Nat} {w0 W W' : World} (h : Rd (fun _ => False) W W') (_ : ∀ k, S k → k < w0.heap.size) (hn : n₀ ≤ w0.heap.size) (hW : w0.heap.size ≤ W.heap.size) : KpS n₀ S P W W' :=
  ⟨h.below (fun _ h => h.elim) (by omega), h.size, fun k _ hk _ _ _ => (h.block k (Array.getElem?_eq_some_iff.1 hk).1 id).trans hk⟩
theorem kpS_put {S : Nat → Prop} {P : Obj → Prop} {n₀ : Nat} {w : World} (hn : n₀ ≤ w.heap.size) (W : World) (l : Nat) (o o' : Obj) (hl : w.heap.size ≤ l) (h : W.heap[l]? = some o) (hc : o.isCells = false) (hw : o.isWalk = false) : KpS n₀ S P W (W.putObj l o') :=
  ⟨belowK_b hn W l o o' hl h hc hw, (grownBy_putObj' W l o').size, fun k o2 hk h2 _ _ => by
    refine ((grownBy_putObj' W l o').block k (Array.getElem?_eq_some_iff.1 hk).1 (fun e => ?_)).trans hk
    cases e
    rw [h] at hk; cases hk; rw [h2] at hc; cases hc⟩

theorem room_of_noneE {F : Fence} (hd : F.depth = none) (k : Nat) : F.room k := fun d h => by rw [hd] at h; cases h
theorem roundAnyE {F : Fence} (hd : F.depth = none) {m m' : Nat} {P : Program} {l : Nat} {f : FuncId} {tmps : Array Value} {assign body : Code} {w : World} {R : Ending → World → Prop}
    (h : RoundIn F m P l f tmps assign body w R) : RoundIn F m' P l f tmps assign body w R := ⟨h.1, fun c cs _ => h.2 c cs (room_of_noneE hd _)⟩
theorem yieldAnyE {F : Fence} (hd : F.depth = none) {m : Nat} (m' : Nat) {P : Program} {l : Nat} {args : Array Value} {W : World} {R : Ending → World → Prop} (h : YieldAt F m P l args W R) : YieldAt F m' P l args W R := by
  obtain ⟨fn, tmps, assign, body, hy, hR⟩ := h
  exact ⟨fn, tmps, assign, body, hy, roundAnyE hd hR⟩

set_option maxRecDepth 100000 in
set_option maxHeartbeats 4000000 in
theorem visit_in (F : Fence) (hd : F.depth = none) (h65 : F.fn 72) (hro : F.round = none) (l n₀ N : Nat) (S : Nat → Prop) (P : Obj → Prop) (hP : ∀ h A len cap, ¬ P (xbox h A len cap)) (w0 : World) (hS : ∀ k, S k → k < w0.heap.size) (J Jx : List (NdS n₀ w0) → World → Prop) (hJa : ∀ pre W o, J pre W → J pre (W.alloc o))
    (hY : ∀ m pre x W, J pre W → pre.length < N → YieldAt F m Tryz.prog l (ncs x) W fun e W' => (e = .returned (.bool true) ∧ J (pre ++ [x]) W' ∧ KpS n₀ S P W W') ∨ (e = .returned (.bool false) ∧ Jx (pre ++ [x]) W')) :
    ∀ (c : Nat) (x : NdS n₀ w0), cnt x.1.ex ≤ c → ∀ (n : Nat) (pre : List (NdS n₀ w0)) (W : World), w0.heap.size ≤ W.heap.size → Below n₀ w0 W → n₀ ≤ w0.heap.size → J pre W → pre.length + cnt x.1.ex ≤ N →
      CallsIn F n Tryz.prog 72 #[XV x.1.ex.hd x.1.A x.1.ex.kids.length x.1.cap, .int .i64 x.1.lv, .func (.yield l) #[] #[]] W fun e W' =>
        (e = .returned (.bool true) ∧ ∃ qs, qs.map ndp = preo x.1.ex x.1.lv ∧ J (pre ++ qs) W' ∧ KpS n₀ S P W W') ∨ (e = .returned (.bool false) ∧ ∃ qs, qs.map ndp <+: preo x.1.ex x.1.lv ∧ Jx (pre ++ qs) W') := by
  intro c
  induction c with
  | zero => intro x hx; have := cnt_pos x.1.ex; omega
  | succ c ih =>
    intro x hx n pre W hW hb hn hJ hN
    have hdd : ∀ k : Nat, (F.depth.isSome = true → 1 ≤ k) := fun k h => by rw [hd] at h; cases h
    obtain ⟨⟨⟨h, lk⟩, A, cap, lv⟩, ok⟩ := x
    have hok1 := ok.at'
    have hok2 := ok.cap
    have hok3 := ok.sm
    have hok4 := ok.lv
    simp only [Ex.hd, Ex.kids, cnt_mk, preo_mk] at hx hN hok1 hok2 hok4 ⊢
    rw [AllSm] at hok3
    have HB1 := Lib.hid (hJa pre W (xbox h A lk.length cap) hJ)
    have HX := Lib.hid ((MapKept.heap_alloc W (xbox h A lk.length cap)).1)
    obtain ⟨x0', hx0⟩ : ∃ y : NdS n₀ w0, (⟨⟨.mk h lk, A, cap, lv⟩, ok⟩ : NdS n₀ w0) = y := ⟨_, rfl⟩
    have hYm := YieldAt.mono (hY (n - 1) pre ⟨⟨.mk h lk, A, cap, lv⟩, ok⟩ _ HB1.out (by omega)) (R' := fun e W' =>
      (e = .returned (.bool true) ∧ W'.cell? ⟨W.heap.size, 7, none⟩ = some (.slice A lk.length cap) ∧ J (pre ++ [x0']) W' ∧ KpS n₀ S P W W') ∨ (e = .returned (.bool false) ∧ Jx (pre ++ [x0']) W')) (fun e W' hh => by
        rw [← hx0]
        rcases hh with ⟨he, h1, h2⟩ | hh
        · have h3 := h2.same _ _ HX.out rfl (fun e => by have := hS _ e; omega) (hP _ _ _ _)
          exact .inl ⟨he, (cell8 h3).1.2.2.2.2.2.2.2, h1, ((Rd.of (ba W _)).kp' hS hn hW).trans h2⟩
        · exact .inr hh)
    have HP0 := Lib.hid (show ndp x0' = (.mk h lk, lv) by rw [← hx0])
    obtain ⟨fn, tmps, assign, body, hy, hR⟩ := hYm
    have hy' : (Instr.yield l #[.agg #[.int .i64 h.k, .int .i64 h.n, .int .i64 h.vk, .int .i64 h.vn, .string h.vs, .string h.tab, .string h.col, .slice A lk.length cap], .int .i64 lv]).run Tryz.prog (W.alloc (.cells #[.int .i64 h.k, .int .i64 h.n, .int .i64 h.vk, .int .i64 h.vn, .string h.vs, .string h.tab, .string h.col, .slice A lk.length cap] 30)) =
        .ok (.round l fn tmps assign body) (W.alloc (.cells #[.int .i64 h.k, .int .i64 h.n, .int .i64 h.vk, .int .i64 h.vn, .string h.vs, .string h.tab, .string h.col, .slice A lk.length cap] 30)) := hy
    have hll := cntL_len lk
    have HI := Lib.hid ih
    have HAt := Lib.hid hok1
    have HSm := Lib.hid hok3.2
    have HBw := Lib.hid hb
    clear hy ih hY hok1 hok3 hJ hx0 hb
    refine callsIn_of_wp Tryz.func72 rfl h65 ?_ hro
    simp only [Tryz.ntmps72, List.size_toArray, List.length_cons, List.length_nil, Nat.reduceAdd, Nat.reduceSub, Array.replicate_succ, Array.replicate_zero, List.push_toArray, List.append_toArray, List.nil_append, List.cons_append]
    gi_wp2_with ((try refine ⟨hdd _, ?_⟩); refine hR.mono ?_; clear hR; rintro e W2 (⟨rfl, c7, hJ2, hK2⟩ | ⟨rfl, hx2⟩))
    · have HJ2 := Lib.hid hJ2
      have HK2 := Lib.hid hK2
      clear hJ2 hK2 c7 hy'
      gi_loopw [17] (fun i Wr => ∃ (k : Nat) (qs : List (NdS n₀ w0)), k ≤ lk.length ∧ i = .int .i64 k ∧ Hid (qs.map ndp = preoL (lk.take k) (lv + 1)) ∧ Hid (J (pre ++ x0' :: qs) Wr) ∧ Hid (KpS n₀ S P W Wr)) (fun i _ => lk.length - (intOf i).toNat)
      case atStart => exact ⟨0, [], Nat.zero_le _, rfl, Lib.hid (by rw [List.take_zero, preoL]; rfl), HJ2, HK2⟩
      case round =>
        obtain ⟨k, qs, hk, rfl, HQ, HJ, HK⟩ := hrel
        by_cases hkl : k < lk.length
        · obtain ⟨y, hy⟩ : ∃ y, lk[k]? = some y := ⟨_, List.getElem?_eq_getElem hkl⟩
          obtain ⟨h', l'⟩ := y
          obtain ⟨g, off, A', cap', rfl, hg, hX, hle', hl'⟩ := HAt.out.at hy
          have hbr := HBw.out.trans HK.out.bel
          have hXr := hX.of (hbr.block g hg)
          have hgr : g < wr.heap.size := by have := HK.out.size; omega
          obtain ⟨c0, c1, c2, c3, c4, c5, c6, c7⟩ := hXr
          have hcs := cntL_split hy
          have hql : qs.length = cntL (lk.take k) := by
            have := congrArg List.length HQ.out
            rwa [List.length_map, preoL_len] at this
          have hok' : NdOk n₀ w0 ⟨.mk h' l', A', cap', lv + 1⟩ := ⟨hl', hle', HSm.out.at hy, by simp only; omega⟩
          have hKa : KpS n₀ S P W (wr.alloc (xbox h' A' l'.length cap')) := HK.out.trans ((Rd.of (ba wr _)).kp' hS hn (by have := HK.out.size; omega))
          have hCI := HI.out ⟨⟨.mk h' l', A', cap', lv + 1⟩, hok'⟩ (by simp only; omega) (n - 1) (pre ++ x0' :: qs) (wr.alloc (xbox h' A' l'.length cap')) (by have := hKa.size; omega) (HBw.out.trans hKa.bel) hn (hJa _ _ _ HJ.out) (by simp only [List.length_append, List.length_cons]; omega)
          have hC : CallsIn F (n - 1) Tryz.prog 72 #[XV h' A' l'.length cap', .int .i64 ((lv : Int) + 1), .func (.yield l) #[] #[]] (wr.alloc (xbox h' A' l'.length cap')) fun e W' =>
              (e = .returned (.bool true) ∧ ∃ qs', qs'.map ndp = preo (.mk h' l') (lv + 1) ∧ J ((pre ++ x0' :: qs) ++ qs') W' ∧ KpS n₀ S P (wr.alloc (xbox h' A' l'.length cap')) W') ∨ (e = .returned (.bool false) ∧ ∃ qs', qs'.map ndp <+: preo (.mk h' l') (lv + 1) ∧ Jx ((pre ++ x0' :: qs) ++ qs') W') := hCI
          have HC := Lib.hid hC
          have HKa := Lib.hid hKa
          have HT := Lib.hid (preoL_take hy (lv + 1))
          have HSp := Lib.hid (preoL_split hy (lv + 1))
          clear hC hCI hKa hok' hX hl' hy hbr hg
          gi_wp2_with ((try refine ⟨hdd _, ?_⟩); gi_at_call 72; refine HC.out.mono ?_; rintro e W3 (⟨rfl, qs', h1, h2, h3⟩ | ⟨rfl, qs', h1, h2⟩))
          · go_roundw
            case rel => exact ⟨k + 1, qs ++ qs', by omega, by go_num, Lib.hid (by rw [List.map_append, HQ.out, h1, HT.out]), Lib.hid (by simpa using h2), Lib.hid (HKa.out.trans h3)⟩
            case measure => simp [intOf]; omega
          · go_ret
            obtain ⟨r, hr⟩ := HSp.out
            obtain ⟨r', hr'⟩ := h1
            refine .inr ⟨rfl, x0' :: (qs ++ qs'), ⟨r' ++ r, ?_⟩, by simpa using h2⟩
            rw [List.map_cons, List.map_append, HP0.out, HQ.out, hr, ← hr']
            simp
        · have hkk : k = lk.length := by omega
          have HQ2 := Lib.hid (show qs.map ndp = preoL lk (lv + 1) by rw [HQ.out, hkk, List.take_length])
          clear HQ
          gi_wp2
          go_ret
          exact .inl ⟨rfl, x0' :: qs, by rw [List.map_cons, HP0.out, HQ2.out], HJ.out, HK.out⟩
    · go_ret
      exact .inr ⟨rfl, [x0'], ⟨preoL lk (lv + 1), by rw [List.map_cons, HP0.out]; rfl⟩, hx2⟩

set_option maxHeartbeats 1000000 in
theorem through_in (F : Fence) (n : Nat) (h51 : F.fn 54) (hro : F.round = none) (h : Hd) (A : Option Addr) (len cap : Nat) (w : World) :
    CallsIn F n Tryz.prog 54 #[XV h A len cap] w fun e w' => e = .returned (.func (.func 71) #[] #[.pointer (some ⟨w.heap.size, 0, none⟩)]) ∧ w' = w.alloc (xbox h A len cap) := by
  refine callsIn_of_wp Tryz.func54 rfl h51 ?_ hro
  simp only [Tryz.ntmps54, List.size_toArray, List.length_cons, List.length_nil, Nat.reduceAdd, Nat.reduceSub, Array.replicate_succ, Array.replicate_zero, List.push_toArray, List.append_toArray, List.nil_append, List.cons_append]
  gi_wp2
  go_ret
  exact ⟨rfl, rfl⟩

set_option maxHeartbeats 1000000 in
/-- What through hands back goes through all, in order. -/
theorem through_stops (F : Fence) (hd : F.depth = none) (n : Nat) (h64 : F.fn 71) (h65 : F.fn 72) (hro : F.round = none) (Bt n₀ : Nat) (S : Nat → Prop) (P : Obj → Prop) (hP : ∀ h A len cap, ¬ P (xbox h A len cap)) (w : World) (x : NdS n₀ w) (hlv : x.1.lv = 1) (hBt : Bt < w.heap.size) (hn : n₀ ≤ w.heap.size) (hS : ∀ k, S k → k < w.heap.size)
    (hc : w.heap[Bt]? = some (xbox x.1.ex.hd x.1.A x.1.ex.kids.length x.1.cap)) :
    SeqStopsK F n Tryz.prog 71 #[.pointer (some ⟨Bt, 0, none⟩)] (ncs (n₀ := n₀) (w0 := w)) (KpS n₀ S P) (fun ys => ys.map ndp = preo x.1.ex 1) (fun pre => pre.map ndp <+: preo x.1.ex 1) (cnt x.1.ex) w := by
  intro l J Jx W hW hJ _ hY h0
  have hdd : ∀ k : Nat, (F.depth.isSome = true → 1 ≤ k) := fun k h => by rw [hd] at h; cases h
  have hV := visit_in F hd h65 hro l n₀ (cnt x.1.ex) S P hP w hS J Jx (fun pre W o hj => hJ pre W _ none hj (World.grownBy_alloc W o none) (fun r e => by cases e)) (fun m pre y W1 hj hl => yieldAnyE hd m (hY pre y W1 hj hl)) _ x (Nat.le_refl _) (n - 1) [] W hW.size (hW.mono hn) hn h0 (by simp)
  have hx := (hW.block Bt hBt).trans hc
  have hBl : Bt < W.heap.size := Nat.lt_of_lt_of_le hBt hW.size
  obtain ⟨⟨⟨h, lk⟩, A, cap, lv⟩, ok⟩ := x
  obtain rfl : lv = 1 := hlv
  have HV := Lib.hid (show CallsIn F (n - 1) Tryz.prog 72 #[XV h A lk.length cap, .int .i64 1, .func (.yield l) #[] #[]] W fun e W' =>
        (e = .returned (.bool true) ∧ ∃ qs, qs.map ndp = preo (.mk h lk) 1 ∧ J ([] ++ qs) W' ∧ KpS n₀ S P W W') ∨ (e = .returned (.bool false) ∧ ∃ qs, qs.map ndp <+: preo (.mk h lk) 1 ∧ Jx ([] ++ qs) W') from hV)
  obtain ⟨⟨c0, c1, c2, c3, c4, c5, c6, c7⟩, _⟩ := cell8 hx
  clear hV hx hY hJ h0
  simp only [Ex.hd, Ex.kids] at c0 c1 c2 c3 c4 c5 c6 c7
  refine callsIn_of_wp Tryz.func71 rfl h64 ?_ hro
  simp only [Tryz.ntmps71, List.size_toArray, List.length_cons, List.length_nil, Nat.reduceAdd, Nat.reduceSub, Array.replicate_succ, Array.replicate_zero, List.push_toArray, List.append_toArray, List.nil_append, List.cons_append]
  gi_wp2_with ((try refine ⟨hdd _, ?_⟩); gi_at_call 72; refine HV.out.mono ?_; clear HV; rintro e W1 (⟨rfl, qs, h1, h2, _⟩ | ⟨rfl, qs, h1, h2⟩))
  · go_end0
    exact ⟨⟨_, rfl⟩, .inl ⟨qs, h1, h2⟩⟩
  · go_end0
    exact ⟨⟨_, rfl⟩, .inr ⟨qs, h1, h2⟩⟩
end Go.Proofs.YtpokpiphnggfpaaGreatDoor
end
