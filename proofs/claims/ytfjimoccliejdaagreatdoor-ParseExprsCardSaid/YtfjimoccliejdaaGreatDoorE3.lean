/-
  The contract of value.Show, over the library's ReplaceAll and Itoa.
-/
import Derived.Test.YtfjimoccliejdaaGreatDoorE2
import Derived.RangeFuncNested
import Derived.RangeFuncBound
import Derived.RangeFuncCalls
import Derived.RangeFuncLeaves
import Derived.Shelf.Abstract
import Derived.Shelf.RegionOpen
import Derived.OwnWalkIn
import Derived.TacticsInMore
import Derived.LoopNIn
import Derived.LoopIn
import Derived.Maps.AppendAt
import Derived.Deep.RegionHeld3
import Derived.OrdersIn
import Derived.Lib.Replace
import Derived.Lib.IndexBytes
import Derived.Lib.ItoaNum
import Derived.Lib.LaidTab
import Derived.Sort.Grow
import Derived.WalkSmall
section
namespace Go.Proofs.YtfjimoccliejdaaGreatDoor
open Go.RowKit Go.Shelf
attribute [local go_sem] Oper.semAt_some

mutual
def preo : Ex → Nat → List (Ex × Nat)
 | .mk h l, d => (.mk h l, d) :: preoL l (d + 1)
def preoL : List Ex → Nat → List (Ex × Nat)
 | [], _ => []
 | x :: r, d => preo x d ++ preoL r d
end
theorem preo_mk (h : Hd) (l : List Ex) (d : Nat) : preo (.mk h l) d = (.mk h l, d) :: preoL l (d + 1) := by rw [preo]
theorem preoL_app : ∀ (l r : List Ex) (d : Nat), preoL (l ++ r) d = preoL l d ++ preoL r d
 | [], r, d => by rw [preoL]; rfl
 | x :: l, r, d => by rw [List.cons_append, preoL, preoL, preoL_app l r d, List.append_assoc]
theorem preoL_take {l : List Ex} {k : Nat} {x : Ex} (h : l[k]? = some x) (d : Nat) : preoL (l.take (k + 1)) d = preoL (l.take k) d ++ preo x d := by
 rw [List.take_add_one, h]
 simp only [Option.toList_some]
 rw [preoL_app, preoL, preoL, List.append_nil]
mutual
theorem preo_len : ∀ (x : Ex) (d : Nat), (preo x d).length = cnt x
 | .mk h l, d => by rw [preo, cnt, List.length_cons, preoL_len l (d + 1)]; omega
theorem preoL_len : ∀ (l : List Ex) (d : Nat), (preoL l d).length = cntL l
 | [], d => by rw [preoL, cntL]; rfl
 | x :: r, d => by rw [preoL, cntL, List.length_append, preo_len x d, preoL_len r d]
end
theorem preoL_split {l : List Ex} {k : Nat} {x : Ex} (h : l[k]? = some x) (d : Nat) : ∃ r, preoL l d = preoL (l.take k) d ++ (preo x d ++ r) := by
 have e : l = l.take k ++ (x :: l.drop (k + 1)) := by
  have := (List.take_append_drop k l).symm
  rwa [List.drop_eq_getElem_cons (List.getElem?_eq_some_iff.1 h).1, (List.getElem?_eq_some_iff.1 h).2] at this
 refine ⟨preoL (l.drop (k + 1)) d, ?_⟩
 conv => lhs; rw [e, preoL_app, preoL]
theorem cntL_split {l : List Ex} {k : Nat} {x : Ex} (h : l[k]? = some x) : cntL (l.take k) + cnt x ≤ cntL l := by
 obtain ⟨r, hr⟩ := preoL_split h 0
 have := congrArg List.length hr
 rw [preoL_len, List.length_append, preoL_len, List.length_append, preo_len] at this
 omega
mutual
def AllSm : Ex → Prop
 | .mk h l => Sm h ∧ AllSmL l
def AllSmL : List Ex → Prop
 | [] => True
 | x :: r => AllSm x ∧ AllSmL r
end
theorem AllSmL.at : ∀ {l : List Ex}, AllSmL l → ∀ {i : Nat} {x : Ex}, l[i]? = some x → AllSm x
 | [], _, i, x, h => by simp at h
 | y :: r, H, 0, x, h => by
  obtain rfl : y = x := by simpa using h
  rw [AllSmL] at H; exact H.1
 | y :: r, H, i + 1, x, h => by
  rw [AllSmL] at H; exact AllSmL.at H.2 (i := i) (by simpa using h)

structure Nd where
 ex : Ex
 A : Option Addr
 cap : Nat
 lv : Nat
structure NdOk (n₀ : Nat) (w0 : World) (y : Nd) : Prop where
 at' : XsAt n₀ w0 y.ex.kids y.A
 cap : y.ex.kids.length ≤ y.cap
 sm : AllSm y.ex
 lv : y.lv + cnt y.ex ≤ 1000000
abbrev NdS (n₀ : Nat) (w0 : World) := { y : Nd // NdOk n₀ w0 y }
abbrev ncs {n₀ : Nat} {w0 : World} (x : NdS n₀ w0) : Array Value := #[XV x.1.ex.hd x.1.A x.1.ex.kids.length x.1.cap, .int .i64 x.1.lv]
abbrev ndp {n₀ : Nat} {w0 : World} (x : NdS n₀ w0) : Ex × Nat := (x.1.ex, x.1.lv)

structure Rd (S : Nat → Prop) (W W' : World) : Prop where
 os : W'.os = W.os
 tape : W'.tape = W.tape
 output : W'.output = W.output
 size : W.heap.size ≤ W'.heap.size
 block : ∀ k, k < W.heap.size → ¬ S k → W'.heap[k]? = W.heap[k]?
theorem Rd.refl (S : Nat → Prop) (W : World) : Rd S W W := ⟨rfl, rfl, rfl, Nat.le_refl _, fun _ _ _ => rfl⟩
theorem Rd.trans {S : Nat → Prop} {A B C : World} (h : Rd S A B) (k : Rd S B C) : Rd S A C :=
 ⟨k.os.trans h.os, k.tape.trans h.tape, k.output.trans h.output, Nat.le_trans h.size k.size, fun i hi hs => (k.block i (Nat.lt_of_lt_of_le hi h.size) hs).trans (h.block i hi hs)⟩
theorem Rd.of {S : Nat → Prop} {W W' : World} (hb : Below W.heap.size W W') : Rd S W W' := ⟨hb.os, hb.tape, hb.output, hb.size, fun k hk _ => hb.block k hk⟩
theorem Rd.set {S : Nat → Prop} {W W' : World} (h : Rd S W W') {b j : Nat} (hs : S b) (v : Value) : Rd S W (W'.setCell ⟨b, j, none⟩ v) := by
 refine h.trans ⟨rfl, rfl, rfl, by rw [setc_size]; exact Nat.le_refl _, fun k _ hk => setc_other (fun e => hk (by rw [e]; exact hs)) v⟩
theorem Rd.alloc {S : Nat → Prop} {W W' : World} (h : Rd S W W') (o : Obj) : Rd S W (W'.alloc o) := h.trans (Rd.of (ba W' o))
theorem Rd.below {S : Nat → Prop} {n₀ : Nat} {W W' : World} (h : Rd S W W') (hs : ∀ k, S k → n₀ ≤ k) (hn : n₀ ≤ W.heap.size) : Below n₀ W W' :=
 ⟨h.os, h.tape, h.output, h.size, fun k hk => h.block k (Nat.lt_of_lt_of_le hk hn) (fun e => by have := hs k e; omega)⟩
theorem Rd.from {S : Nat → Prop} {B : Nat} {W W' : World} (h : Rd S W W') (hs : ∀ k, S k → k < B) : KeepsFrom B W W' :=
 ⟨h.size, fun k o hB hk _ => (h.block k (Array.getElem?_eq_some_iff.1 hk).1 (fun e => by have := hs k e; omega)).trans hk⟩
structure KpS (n₀ : Nat) (S : Nat → Prop) (P : Obj → Prop) (W W' : World) : Prop where
 bel : Below n₀ W W'
 size : W.heap.size ≤ W'.heap.size
 same : ∀ k o, W.heap[k]? = some o → o.isCells = true → ¬ S k → ¬ P o → W'.heap[k]? = some o
theorem KpS.refl (n₀ : Nat) (S : Nat → Prop) (P : Obj → Prop) (W : World) : KpS n₀ S P W W := ⟨Below.refl _ _, Nat.le_refl _, fun _ _ h _ _ _ => h⟩
theorem KpS.trans {n₀ : Nat} {S : Nat → Prop} {P : Obj → Prop} {A B C : World} (h : KpS n₀ S P A B) (k : KpS n₀ S P B C) : KpS n₀ S P A C :=
 ⟨h.bel.trans k.bel, Nat.le_trans h.size k.size, fun i o hi ho hs hp => k.same i o (h.same i o hi ho hs hp) ho hs hp⟩
theorem Rd.kp {S : Nat → Prop} {P : Obj → Prop} {n₀ : Nat} {W W' : World} (h : Rd S W W') (hs : ∀ k, S k → n₀ ≤ k) (hn : n₀ ≤ W.heap.size) : KpS n₀ S P W W' :=
 ⟨h.below hs hn, h.size, fun k _ hk _ he _ => (h.block k (Array.getElem?_eq_some_iff.1 hk).1 he).trans hk⟩
theorem Rd.kp' {S : Nat → Prop} {P : Obj → Prop} {n₀ : Nat} {w0 W W' : World} (h : Rd (fun _ => False) W W') (_ : ∀ k, S k → k < w0.heap.size) (hn : n₀ ≤ w0.heap.size) (hW : w0.heap.size ≤ W.heap.size) : KpS n₀ S P W W' :=
 ⟨h.below (fun _ h => h.elim) (by omega), h.size, fun k _ hk _ _ _ => (h.block k (Array.getElem?_eq_some_iff.1 hk).1 id).trans hk⟩
theorem kpS_put {S : Nat → Prop} {P : Obj → Prop} {n₀ : Nat} {w : World} (hn : n₀ ≤ w.heap.size) (W : World) (l : Nat) (o o' : Obj) (hl : w.heap.size ≤ l) (h : W.heap[l]? = some o) (hc : o.isCells = false) (hw : o.isWalk = false) : KpS n₀ S P W (W.putObj l o') :=
 ⟨belowK_b hn W l o o' hl h hc hw, (grownBy_putObj' W l o').size, fun k o2 hk h2 _ _ => by
  refine ((grownBy_putObj' W l o').block k (Array.getElem?_eq_some_iff.1 hk).1 (fun e => ?_)).trans hk
  cases e
  rw [h] at hk; cases hk; rw [h2] at hc; cases hc⟩

theorem room_of_noneE {F : Fence} (hd : F.depth = none) (k : Nat) : F.room k := fun d h => by rw [hd] at h; cases h
theorem roundAnyE {F : Fence} (hd : F.depth = none) {m m' : Nat} {P : Program} {l : Nat} {f : FuncId} {tmps : Array Value} {assign body : Code} {w : World} {R : Ending → World → Prop}
  (h : RoundIn F m P l f tmps assign body w R) : RoundIn F m' P l f tmps assign body w R := ⟨h.1, fun c cs _ => h.2 c cs (room_of_noneE hd _)⟩
theorem yieldAnyE {F : Fence} (hd : F.depth = none) {m : Nat} (m' : Nat) {P : Program} {l : Nat} {args : Array Value} {W : World} {R : Ending → World → Prop} (h : YieldAt F m P l args W R) : YieldAt F m' P l args W R := by
 obtain ⟨fn, tmps, assign, body, hy, hR⟩ := h
 exact ⟨fn, tmps, assign, body, hy, roundAnyE hd hR⟩

set_option maxRecDepth 100000 in
set_option maxHeartbeats 4000000 in
theorem visit_in (F : Fence) (hd : F.depth = none) (h65 : F.fn 141) (hro : F.round = none) (l n₀ N : Nat) (S : Nat → Prop) (P : Obj → Prop) (hP : ∀ h A len cap, ¬ P (xbox h A len cap)) (w0 : World) (hS : ∀ k, S k → k < w0.heap.size) (J Jx : List (NdS n₀ w0) → World → Prop) (hJa : ∀ pre W o, J pre W → J pre (W.alloc o))
  (hY : ∀ m pre x W, J pre W → pre.length < N → YieldAt F m Tryz.prog l (ncs x) W fun e W' => (e = .returned (.bool true) ∧ J (pre ++ [x]) W' ∧ KpS n₀ S P W W') ∨ (e = .returned (.bool false) ∧ Jx (pre ++ [x]) W')) :
  ∀ (c : Nat) (x : NdS n₀ w0), cnt x.1.ex ≤ c → ∀ (n : Nat) (pre : List (NdS n₀ w0)) (W : World), w0.heap.size ≤ W.heap.size → Below n₀ w0 W → n₀ ≤ w0.heap.size → J pre W → pre.length + cnt x.1.ex ≤ N →
   CallsIn F n Tryz.prog 141 #[XV x.1.ex.hd x.1.A x.1.ex.kids.length x.1.cap, .int .i64 x.1.lv, .func (.yield l) #[] #[]] W fun e W' =>
    (e = .returned (.bool true) ∧ ∃ qs, qs.map ndp = preo x.1.ex x.1.lv ∧ J (pre ++ qs) W' ∧ KpS n₀ S P W W') ∨ (e = .returned (.bool false) ∧ ∃ qs, qs.map ndp <+: preo x.1.ex x.1.lv ∧ Jx (pre ++ qs) W') := by
 intro c
 induction c with
 | zero => intro x hx; have := cnt_pos x.1.ex; omega
 | succ c ih =>
  intro x hx n pre W hW hb hn hJ hN
  have hdd : ∀ k : Nat, (F.depth.isSome = true → 1 ≤ k) := fun k h => by rw [hd] at h; cases h
  obtain ⟨⟨⟨h, lk⟩, A, cap, lv⟩, ok⟩ := x
  have hok1 := ok.at'
  have hok2 := ok.cap
  have hok3 := ok.sm
  have hok4 := ok.lv
  simp only [Ex.hd, Ex.kids, cnt_mk, preo_mk] at hx hN hok1 hok2 hok4 ⊢
  rw [AllSm] at hok3
  have HB1 := Lib.hid (hJa pre W (xbox h A lk.length cap) hJ)
  have HX := Lib.hid ((MapKept.heap_alloc W (xbox h A lk.length cap)).1)
  obtain ⟨x0', hx0⟩ : ∃ y : NdS n₀ w0, (⟨⟨.mk h lk, A, cap, lv⟩, ok⟩ : NdS n₀ w0) = y := ⟨_, rfl⟩
  have hYm := YieldAt.mono (hY (n - 1) pre ⟨⟨.mk h lk, A, cap, lv⟩, ok⟩ _ HB1.out (by omega)) (R' := fun e W' =>
   (e = .returned (.bool true) ∧ W'.cell? ⟨W.heap.size, 7, none⟩ = some (.slice A lk.length cap) ∧ J (pre ++ [x0']) W' ∧ KpS n₀ S P W W') ∨ (e = .returned (.bool false) ∧ Jx (pre ++ [x0']) W')) (fun e W' hh => by
    rw [← hx0]
    rcases hh with ⟨he, h1, h2⟩ | hh
    ·have h3 := h2.same _ _ HX.out rfl (fun e => by have := hS _ e; omega) (hP _ _ _ _)
     exact .inl ⟨he, (cell8 h3).1.2.2.2.2.2.2.2, h1, ((Rd.of (ba W _)).kp' hS hn hW).trans h2⟩
    ·exact .inr hh)
  have HP0 := Lib.hid (show ndp x0' = (.mk h lk, lv) by rw [← hx0])
  obtain ⟨fn, tmps, assign, body, hy, hR⟩ := hYm
  have hy' : (Instr.yield l #[.agg #[.int .i64 h.k, .int .i64 h.n, .int .i64 h.vk, .int .i64 h.vn, .string h.vs, .string h.tab, .string h.col, .slice A lk.length cap], .int .i64 lv]).run Tryz.prog (W.alloc (.cells #[.int .i64 h.k, .int .i64 h.n, .int .i64 h.vk, .int .i64 h.vn, .string h.vs, .string h.tab, .string h.col, .slice A lk.length cap] 37)) =
    .ok (.round l fn tmps assign body) (W.alloc (.cells #[.int .i64 h.k, .int .i64 h.n, .int .i64 h.vk, .int .i64 h.vn, .string h.vs, .string h.tab, .string h.col, .slice A lk.length cap] 37)) := hy
  have hll := cntL_len lk
  have HI := Lib.hid ih
  have HAt := Lib.hid hok1
  have HSm := Lib.hid hok3.2
  have HBw := Lib.hid hb
  clear hy ih hY hok1 hok3 hJ hx0 hb
  refine callsIn_of_wp Tryz.func141 rfl h65 ?_ hro
  simp only [Tryz.ntmps141, List.size_toArray, List.length_cons, List.length_nil, Nat.reduceAdd, Nat.reduceSub, Array.replicate_succ, Array.replicate_zero, List.push_toArray, List.append_toArray, List.nil_append, List.cons_append]
  gi_wp2_with ((try refine ⟨hdd _, ?_⟩); refine hR.mono ?_; clear hR; rintro e W2 (⟨rfl, c7, hJ2, hK2⟩ | ⟨rfl, hx2⟩))
  ·have HJ2 := Lib.hid hJ2
   have HK2 := Lib.hid hK2
   clear hJ2 hK2 c7 hy'
   gi_loopw [17] (fun i Wr => ∃ (k : Nat) (qs : List (NdS n₀ w0)), k ≤ lk.length ∧ i = .int .i64 k ∧ Hid (qs.map ndp = preoL (lk.take k) (lv + 1)) ∧ Hid (J (pre ++ x0' :: qs) Wr) ∧ Hid (KpS n₀ S P W Wr)) (fun i _ => lk.length - (intOf i).toNat)
   case atStart => exact ⟨0, [], Nat.zero_le _, rfl, Lib.hid (by rw [List.take_zero, preoL]; rfl), HJ2, HK2⟩
   case round =>
    obtain ⟨k, qs, hk, rfl, HQ, HJ, HK⟩ := hrel
    by_cases hkl : k < lk.length
    ·obtain ⟨y, hy⟩ : ∃ y, lk[k]? = some y := ⟨_, List.getElem?_eq_getElem hkl⟩
     obtain ⟨h', l'⟩ := y
     obtain ⟨g, off, A', cap', rfl, hg, hX, hle', hl'⟩ := HAt.out.at hy
     have hbr := HBw.out.trans HK.out.bel
     have hXr := hX.of (hbr.block g hg)
     have hgr : g < wr.heap.size := by have := HK.out.size; omega
     obtain ⟨c0, c1, c2, c3, c4, c5, c6, c7⟩ := hXr
     have hcs := cntL_split hy
     have hql : qs.length = cntL (lk.take k) := by
      have := congrArg List.length HQ.out
      rwa [List.length_map, preoL_len] at this
     have hok' : NdOk n₀ w0 ⟨.mk h' l', A', cap', lv + 1⟩ := ⟨hl', hle', HSm.out.at hy, by simp only; omega⟩
     have hKa : KpS n₀ S P W (wr.alloc (xbox h' A' l'.length cap')) := HK.out.trans ((Rd.of (ba wr _)).kp' hS hn (by have := HK.out.size; omega))
     have hCI := HI.out ⟨⟨.mk h' l', A', cap', lv + 1⟩, hok'⟩ (by simp only; omega) (n - 1) (pre ++ x0' :: qs) (wr.alloc (xbox h' A' l'.length cap')) (by have := hKa.size; omega) (HBw.out.trans hKa.bel) hn (hJa _ _ _ HJ.out) (by simp only [List.length_append, List.length_cons]; omega)
     have hC : CallsIn F (n - 1) Tryz.prog 141 #[XV h' A' l'.length cap', .int .i64 ((lv : Int) + 1), .func (.yield l) #[] #[]] (wr.alloc (xbox h' A' l'.length cap')) fun e W' =>
       (e = .returned (.bool true) ∧ ∃ qs', qs'.map ndp = preo (.mk h' l') (lv + 1) ∧ J ((pre ++ x0' :: qs) ++ qs') W' ∧ KpS n₀ S P (wr.alloc (xbox h' A' l'.length cap')) W') ∨ (e = .returned (.bool false) ∧ ∃ qs', qs'.map ndp <+: preo (.mk h' l') (lv + 1) ∧ Jx ((pre ++ x0' :: qs) ++ qs') W') := hCI
     have HC := Lib.hid hC
     have HKa := Lib.hid hKa
     have HT := Lib.hid (preoL_take hy (lv + 1))
     have HSp := Lib.hid (preoL_split hy (lv + 1))
     clear hC hCI hKa hok' hX hl' hy hbr hg
     gi_wp2_with ((try refine ⟨hdd _, ?_⟩); gi_at_call 141; refine HC.out.mono ?_; rintro e W3 (⟨rfl, qs', h1, h2, h3⟩ | ⟨rfl, qs', h1, h2⟩))
     ·go_roundw
      case rel => exact ⟨k + 1, qs ++ qs', by omega, by go_num, Lib.hid (by rw [List.map_append, HQ.out, h1, HT.out]), Lib.hid (by simpa using h2), Lib.hid (HKa.out.trans h3)⟩
      case measure => simp [intOf]; omega
     ·go_ret
      obtain ⟨r, hr⟩ := HSp.out
      obtain ⟨r', hr'⟩ := h1
      refine .inr ⟨rfl, x0' :: (qs ++ qs'), ⟨r' ++ r, ?_⟩, by simpa using h2⟩
      rw [List.map_cons, List.map_append, HP0.out, HQ.out, hr, ← hr']
      simp
    ·have hkk : k = lk.length := by omega
     have HQ2 := Lib.hid (show qs.map ndp = preoL lk (lv + 1) by rw [HQ.out, hkk, List.take_length])
     clear HQ
     gi_wp2
     go_ret
     exact .inl ⟨rfl, x0' :: qs, by rw [List.map_cons, HP0.out, HQ2.out], HJ.out, HK.out⟩
  ·go_ret
   exact .inr ⟨rfl, [x0'], ⟨preoL lk (lv + 1), by rw [List.map_cons, HP0.out]; rfl⟩, hx2⟩

set_option maxHeartbeats 1000000 in
theorem through_in (F : Fence) (n : Nat) (h51 : F.fn 114) (hro : F.round = none) (h : Hd) (A : Option Addr) (len cap : Nat) (w : World) :
  CallsIn F n Tryz.prog 114 #[XV h A len cap] w fun e w' => e = .returned (.func (.func 140) #[] #[.pointer (some ⟨w.heap.size, 0, none⟩)]) ∧ w' = w.alloc (xbox h A len cap) := by
 refine callsIn_of_wp Tryz.func114 rfl h51 ?_ hro
 simp only [Tryz.ntmps114, List.size_toArray, List.length_cons, List.length_nil, Nat.reduceAdd, Nat.reduceSub, Array.replicate_succ, Array.replicate_zero, List.push_toArray, List.append_toArray, List.nil_append, List.cons_append]
 gi_wp2
 go_ret
 exact ⟨rfl, rfl⟩

set_option maxHeartbeats 1000000 in
theorem through_stops (F : Fence) (hd : F.depth = none) (n : Nat) (h64 : F.fn 140) (h65 : F.fn 141) (hro : F.round = none) (Bt n₀ : Nat) (S : Nat → Prop) (P : Obj → Prop) (hP : ∀ h A len cap, ¬ P (xbox h A len cap)) (w : World) (x : NdS n₀ w) (hlv : x.1.lv = 1) (hBt : Bt < w.heap.size) (hn : n₀ ≤ w.heap.size) (hS : ∀ k, S k → k < w.heap.size)
    (hc : w.heap[Bt]? = some (xbox x.1.ex.hd x.1.A x.1.ex.kids.length x.1.cap)) :
    SeqStopsK F n Tryz.prog 140 #[.pointer (some ⟨Bt, 0, none⟩)] (ncs (n₀ := n₀) (w0 := w)) (KpS n₀ S P) (fun ys => ys.map ndp = preo x.1.ex 1) (fun pre => pre.map ndp <+: preo x.1.ex 1) (cnt x.1.ex) w := by
  intro l J Jx W hW hJ _ hY h0
  have hdd : ∀ k : Nat, (F.depth.isSome = true → 1 ≤ k) := fun k h => by rw [hd] at h; cases h
  have hV := visit_in F hd h65 hro l n₀ (cnt x.1.ex) S P hP w hS J Jx (fun pre W o hj => hJ pre W _ none hj (World.grownBy_alloc W o none) (fun r e => by cases e)) (fun m pre y W1 hj hl => yieldAnyE hd m (hY pre y W1 hj hl)) _ x (Nat.le_refl _) (n - 1) [] W hW.size (hW.mono hn) hn h0 (by simp)
  have hx := (hW.block Bt hBt).trans hc
  have hBl : Bt < W.heap.size := Nat.lt_of_lt_of_le hBt hW.size
  obtain ⟨⟨⟨h, lk⟩, A, cap, lv⟩, ok⟩ := x
  obtain rfl : lv = 1 := hlv
  have HV := Lib.hid (show CallsIn F (n - 1) Tryz.prog 141 #[XV h A lk.length cap, .int .i64 1, .func (.yield l) #[] #[]] W fun e W' =>
        (e = .returned (.bool true) ∧ ∃ qs, qs.map ndp = preo (.mk h lk) 1 ∧ J ([] ++ qs) W' ∧ KpS n₀ S P W W') ∨ (e = .returned (.bool false) ∧ ∃ qs, qs.map ndp <+: preo (.mk h lk) 1 ∧ Jx ([] ++ qs) W') from hV)
  obtain ⟨⟨c0, c1, c2, c3, c4, c5, c6, c7⟩, _⟩ := cell8 hx
  clear hV hx hY hJ h0
  simp only [Ex.hd, Ex.kids] at c0 c1 c2 c3 c4 c5 c6 c7
  refine callsIn_of_wp Tryz.func140 rfl h64 ?_ hro
  simp only [Tryz.ntmps140, List.size_toArray, List.length_cons, List.length_nil, Nat.reduceAdd, Nat.reduceSub, Array.replicate_succ, Array.replicate_zero, List.push_toArray, List.append_toArray, List.nil_append, List.cons_append]
  gi_wp2_with ((try refine ⟨hdd _, ?_⟩); gi_at_call 141; refine HV.out.mono ?_; clear HV; rintro e W1 (⟨rfl, qs, h1, h2, _⟩ | ⟨rfl, qs, h1, h2⟩))
  · go_end0
    exact ⟨⟨_, rfl⟩, .inl ⟨qs, h1, h2⟩⟩
  · go_end0
    exact ⟨⟨_, rfl⟩, .inr ⟨qs, h1, h2⟩⟩
end Go.Proofs.YtfjimoccliejdaaGreatDoor
end
section
namespace Go.Proofs.YtfjimoccliejdaaGreatDoor.Pa
open Lx (B Tok)

def TkSm (x : TkA) : Prop := (x.1.k = 1 → x.1.s.length ≤ 24) ∧ (x.1.k = 4 → x.1.s.length ≤ 64)
def SmT (s : Ps) : Prop := ∀ x ∈ s.ts, TkSm x
theorem SmT.le {s s' : Ps} (h : SmT s) (l : Le s s') : SmT s' := fun x hx => h x (l.sfx.mem hx)
theorem SmT.tk {s : Ps} (h : SmT s) : (s.tk.k = 1 → s.tk.s.length ≤ 24) ∧ (s.tk.k = 4 → s.tk.s.length ≤ 64) := by
 obtain ⟨ts, b⟩ := s
 cases ts with
 | nil => exact ⟨(fun e => by cases e), (fun e => by cases e)⟩
 | cons x l => exact h x (List.mem_cons_self ..)
abbrev bN (b : Bool) : Nat := if b then 1 else 0
structure Sz (e : Ex) (s s' : Ps) : Prop where
 sm : AllSm e
 n : cnt e + s'.ts.length ≤ s.ts.length + bN s'.bad
theorem Sz.then {e : Ex} {s s1 s2 : Ps} (h : Sz e s s1) (l : Le s1 s2) : Sz e s s2 := by
 refine ⟨h.sm, ?_⟩
 have h1 := h.n
 have h2 := l.len
 cases hb : s1.bad with
 | true => rw [l.stay hb]; exact h1
 | false => rw [hb] at h1; simp only [bN, Bool.false_eq_true, if_false] at h1; omega
theorem Sz.ahead {e : Ex} {s0 s s1 : Ps} (h : Sz e s s1) (l : s.ts.length ≤ s0.ts.length) : Sz e s0 s1 := ⟨h.sm, by have := h.n; omega⟩
theorem sm_mk {h : Hd} {l : List Ex} (h1 : Sm h) (h2 : AllSmL l) : AllSm (.mk h l) := by rw [AllSm]; exact ⟨h1, h2⟩
theorem smL1 {x : Ex} (h : AllSm x) : AllSmL [x] := by rw [AllSmL, AllSmL]; exact ⟨h, trivial⟩
theorem smL2 {x y : Ex} (h : AllSm x) (h' : AllSm y) : AllSmL [x, y] := by rw [AllSmL, AllSmL, AllSmL]; exact ⟨h, h', trivial⟩
theorem smL0 : AllSmL [] := by rw [AllSmL]; trivial
theorem sm0 (k n : Int) : Sm ⟨k, n, 0, 0, ⟨#[]⟩, ⟨#[]⟩, ⟨#[]⟩⟩ := ⟨Nat.zero_le _, Nat.zero_le _, Nat.zero_le _⟩
theorem cnt1 (h : Hd) : cnt (.mk h []) = 1 := by rw [cnt, cntL]
theorem cnt2 (h : Hd) (x : Ex) : cnt (.mk h [x]) = 1 + cnt x := by rw [cnt, cntL, cntL, Nat.add_zero]
theorem cnt3 (h : Hd) (x y : Ex) : cnt (.mk h [x, y]) = 1 + (cnt x + cnt y) := by rw [cnt, cntL, cntL, cntL, Nat.add_zero]
theorem bst_size (l : B) : (bst l).size = l.length := by simp [bst, ByteArray.size]
theorem sz_leaf {h : Hd} {s s1 : Ps} (hs : Sm h) (l : s1.ts.length + 1 ≤ s.ts.length + bN s1.bad) : Sz (.mk h []) s s1 := ⟨sm_mk hs smL0, by rw [cnt1]; omega⟩
theorem sz_one {h : Hd} {x : Ex} {s0 s s1 : Ps} (hs : Sm h) (hx : Sz x s s1) (l : s.ts.length + 1 ≤ s0.ts.length) : Sz (.mk h [x]) s0 s1 := ⟨sm_mk hs (smL1 hx.sm), by have := hx.n; rw [cnt2]; omega⟩
theorem row_sz {part : Ps → Ex × Ps} {ops : List Nat} (hl : ∀ s, Fin s.ts → Le s (part s).2) (hp : ∀ s, Fin s.ts → SmT s → Sz (part s).1 s (part s).2) (hn : ∀ op ∈ ops, op ≠ 0) : ∀ (n : Nat) (e : Ex) (s0 s : Ps), Fin s.ts → SmT s → Sz e s0 s → Sz (rowP part ops n e s).1 s0 (rowP part ops n e s).2
 | 0, e, s0, s, _, _, h => h
 | n + 1, e, s0, s, hf, hm, h => by
  rw [rowP]
  obtain ⟨h1, h2, h3⟩ := operP_le ops hf hn
  split
  ·exact h
  ·rename_i hz
   obtain ⟨hb, hlen⟩ := h2 hz
   have hN := h.n
   rw [hb] at hN
   simp only [bN, Bool.false_eq_true, if_false] at hN
   split
   ·refine row_sz hl hp hn n _ s0 _ h1.fin (hm.le h1) ⟨sm_mk (sm0 _ _) (smL1 h.sm), ?_⟩
    rw [mkOp, cnt2]; omega
   ·have h4 := hl _ h1.fin
    have h5 := hp _ h1.fin (hm.le h1)
    refine row_sz hl hp hn n _ s0 _ h4.fin ((hm.le h1).le h4) ⟨sm_mk (sm0 _ _) (smL2 h.sm h5.sm), ?_⟩
    have := h5.n
    rw [mkOp, cnt3]; omega
theorem mustK_sz {s : Ps} (hf : Fin s.ts) (hm : SmT s) : (mustK 1 s).1.s.length ≤ 24 ∧ (mustK 1 s).2.ts.length + 1 ≤ s.ts.length + bN (mustK 1 s).2.bad := by
 obtain ⟨h1, h2, h3⟩ := takeK_le (k := 1) (by decide) hf
 unfold mustK
 split
 ·rename_i t s1 e
  rw [e] at h2
  obtain ⟨_, ht, hk, _, hlen⟩ := h2 t rfl
  simp only at hlen
  refine ⟨?_, by simp only; omega⟩
  rw [ht] at hk ⊢
  exact hm.tk.1 hk
 ·rename_i s1 e
  rw [e] at h3
  have := h3 rfl
  subst this
  exact ⟨Nat.zero_le _, by simp [bN]⟩
theorem col_sz {s : Ps} (hf : Fin s.ts) (hm : SmT s) : Sz (colP s).1 s (colP s).2 := by
 have h1 := mustK_le (k := 1) (by decide) hf
 have h2 := (takeW_le [46] h1.fin).1
 obtain ⟨n1, n2⟩ := mustK_sz hf hm
 unfold colP
 split
 ·rename_i hw
  obtain ⟨m1, m2⟩ := mustK_sz h2.fin ((hm.le h1).le h2)
  have h3 := mustK_le (k := 1) (by decide) h2.fin
  have h4 := ((takeW_le [46] h1.fin).2.1 hw)
  refine sz_leaf ⟨?_, ?_, Nat.zero_le _⟩ ?_
  ·simp only [bst_size]; omega
  ·simp only [bst_size]; omega
  ·rw [h4.1] at n2
   simp only [bN, Bool.false_eq_true, if_false] at n2
   have := h3.len
   have := h4.2.2
   simp only [bN] at m2 ⊢
   omega
 ·refine sz_leaf ⟨Nat.zero_le _, ?_, Nat.zero_le _⟩ n2
  simp only [bst_size]; omega
section
variable {or : Ps → Ex × Ps} (hl : ∀ s, Fin s.ts → Le s (or s).2) (hp : ∀ s, Fin s.ts → SmT s → Sz (or s).1 s (or s).2)
include hl hp
theorem encl_sz {s : Ps} (hf : Fin s.ts) (hm : SmT s) : Sz (enclP or s).1 s (enclP or s).2 := (hp s hf hm).then (mustW_le _ (hl s hf).fin)
theorem agg_sz {n : Nat} {s0 s : Ps} (hf : Fin s.ts) (hm : SmT s) (h0 : s.ts.length + 1 ≤ s0.ts.length) : Sz (aggP or n s).1 s0 (aggP or n s).2 := by
 have h1 := mustW_le [40] hf
 exact sz_one (sm0 _ _) (encl_sz hl hp h1.fin (hm.le h1)) (by have := h1.len; omega)
theorem count_sz {s0 s : Ps} (hf : Fin s.ts) (hm : SmT s) (h0 : s.ts.length + 1 ≤ s0.ts.length) : Sz (countP or s).1 s0 (countP or s).2 := by
 have h1 := mustW_le [40] hf
 have h2 := (takeW_le [42] h1.fin).1
 unfold countP
 split
 ·have h3 := mustW_le [41] h2.fin
  refine sz_leaf (sm0 _ _) ?_
  have := h1.len
  have := h2.len
  have := h3.len
  simp only
  omega
 ·exact agg_sz hl hp hf hm h0
theorem first_sz {s : Ps} (hf : Fin s.ts) (hm : SmT s) : Sz (firstP or s).1 s (firstP or s).2 := by
 have tk : ∀ w, (takeW w s).1 = true → Le s (takeW w s).2 ∧ (takeW w s).2.ts.length + 1 = s.ts.length := fun w hw => ⟨(takeW_le w hf).1, ((takeW_le w hf).2.1 hw).2.2⟩
 have leaf : ∀ (w : B) (h : Hd), Sm h → (takeW w s).1 = true → Sz (.mk h []) s (takeW w s).2 := fun w h hs hw => sz_leaf hs (by have := (tk w hw).2; omega)
 unfold firstP
 split
 ·rename_i t e
  obtain ⟨_, _, _, _, hlen⟩ := (takeK_le (k := 3) (by decide) hf).2.1 t e
  exact sz_leaf ⟨Nat.zero_le _, Nat.zero_le _, Nat.zero_le _⟩ (by simp only; omega)
 ·split
  ·rename_i t e
   obtain ⟨_, ht, hk, _, hlen⟩ := (takeK_le (k := 4) (by decide) hf).2.1 t e
   refine sz_leaf ⟨Nat.zero_le _, Nat.zero_le _, ?_⟩ (by simp only; omega)
   rw [ht] at hk
   have := hm.tk.2 hk
   simp only [bst_size, ht]; omega
  ·split
   ·rename_i hw; exact leaf _ _ ⟨Nat.zero_le _, Nat.zero_le _, Nat.zero_le _⟩ hw
   split
   ·rename_i hw; exact leaf _ _ ⟨Nat.zero_le _, Nat.zero_le _, Nat.zero_le _⟩ hw
   split
   ·rename_i hw; exact leaf _ _ ⟨Nat.zero_le _, Nat.zero_le _, Nat.zero_le _⟩ hw
   split
   ·rename_i hw
    obtain ⟨h1, h2⟩ := tk _ hw
    exact (encl_sz hl hp h1.fin (hm.le h1)).ahead (by omega)
   split
   ·rename_i hw
    obtain ⟨h1, h2⟩ := tk _ hw
    exact count_sz hl hp h1.fin (hm.le h1) (by omega)
   split
   ·rename_i hw
    obtain ⟨h1, h2⟩ := tk _ hw
    exact agg_sz hl hp h1.fin (hm.le h1) (by omega)
   split
   ·rename_i hw
    obtain ⟨h1, h2⟩ := tk _ hw
    exact agg_sz hl hp h1.fin (hm.le h1) (by omega)
   split
   ·rename_i hw
    obtain ⟨h1, h2⟩ := tk _ hw
    exact agg_sz hl hp h1.fin (hm.le h1) (by omega)
   ·exact col_sz hf hm
end
theorem lev_sz : ∀ (f k : Nat) (s : Ps), Fin s.ts → SmT s → Sz (lev f k s).1 s (lev f k s).2
 | 0, k, s, _, _ => by rw [lev]; exact sz_leaf ⟨Nat.zero_le _, Nat.zero_le _, Nat.zero_le _⟩ (by simp [bN])
 | f + 1, k, s, h, hm => by
  rw [lev]
  split
  ·obtain ⟨h1, h2, _⟩ := takeW_le wNOT h
   split
   ·rename_i hw
    exact sz_one (sm0 _ _) (lev_sz f 2 _ h1.fin (hm.le h1)) (by have := (h2 hw).2.2; omega)
   ·exact lev_sz f 3 s h hm
  split
  ·obtain ⟨h1, h2, _⟩ := takeW_le [45] h
   split
   ·rename_i hw
    exact sz_one (sm0 _ _) (lev_sz f 6 _ h1.fin (hm.le h1)) (by have := (h2 hw).2.2; omega)
   ·exact lev_sz f 7 s h hm
  split
  ·exact first_sz (fun s hs => lev_le f 0 s hs) (fun s hs ht => lev_sz f 0 s hs ht) h hm
  ·have h1 := lev_le f (k + 1) s h
   exact row_sz (fun s hs => lev_le f (k + 1) s hs) (fun s hs ht => lev_sz f (k + 1) s hs ht) (ops_pos k) _ _ s _ h1.fin (hm.le h1) (lev_sz f (k + 1) s h hm)
theorem toks_sm {l : B} {a : Nat} {ts : List TkA} {n : Nat} (h : Lx.Toks l a ts n) : ∀ x ∈ ts, TkSm x := by
 induction h with
 | fin _ => intro x hx; obtain rfl := List.mem_singleton.1 hx; exact ⟨(fun e => by cases e), (fun e => by cases e)⟩
 | @tok l w r a t ts n hd ht hf hr ih =>
  intro x hx
  rcases List.mem_cons.1 hx with rfl | hx
  ·cases ht with
   | word hw hl ha hn => exact ⟨(fun _ => hn), (fun e => by simp only at e; split at e <;> cases e)⟩
   | num hw ha hn => exact ⟨(fun e => by cases e), (fun e => by cases e)⟩
   | text hs => exact ⟨(fun e => by cases e), (fun _ => hs)⟩
   | sign hs => exact ⟨(fun e => by cases e), (fun e => by cases e)⟩
  ·exact ih x hx
end Go.Proofs.YtfjimoccliejdaaGreatDoor.Pa
end
section
namespace Go.Proofs.YtfjimoccliejdaaGreatDoor
open Go.RowKit Go.Shelf
attribute [local go_sem] Oper.semAt_some

def aggl (a lv : Nat) : Nat := if lv ≤ a then 0 else a
def mstep : Option (Nat × Nat × Nat) → Ex × Nat → Option (Nat × Nat × Nat)
 | none, _ => none
 | some (a, s, d), (x, lv) =>
  if s = 512 ∨ 32 < lv ∨ (x.hd.k = 4 ∧ 0 < aggl a lv) ∨ fitsB x.hd x.kids.length = false then none
  else some (if x.hd.k = 4 then lv else aggl a lv, s + 1, max d lv)
def msr (ys : List (Ex × Nat)) : Option (Nat × Nat × Nat) := ys.foldl mstep (some (0, 0, 0))
theorem msr_snoc (ys : List (Ex × Nat)) (y : Ex × Nat) : msr (ys ++ [y]) = mstep (msr ys) y := by simp [msr]
theorem mstep_none : ∀ ys : List (Ex × Nat), ys.foldl mstep none = none
 | [] => rfl
 | y :: ys => by rw [List.foldl_cons]; exact mstep_none ys
theorem msr_pre {ys zs : List (Ex × Nat)} (h : ys <+: zs) (hn : msr ys = none) : msr zs = none := by
 obtain ⟨r, rfl⟩ := h
 unfold msr at hn ⊢
 rw [List.foldl_append, hn, mstep_none]
def measO (x : Ex) : Option (Nat × Nat) := (msr (preo x 1)).map (·.2)
def measV (x : Ex) : Value := match measO x with
 | some (s, d) => .tuple #[.int .i64 s, .int .i64 d, .bool true]
 | none => .tuple #[.int .i64 0, .int .i64 0, .bool false]

structure MB (u1 u2 u3 u4 : Nat) (W : World) (s d a : Nat) (b : Bool) : Prop where
 s : Boxed W u1 3 (.int .i64 s)
 d : Boxed W u2 3 (.int .i64 d)
 b : Boxed W u3 4 (.bool b)
 a : Boxed W u4 3 (.int .i64 a)
theorem mstep_bad {a s d lv : Nat} {h : Hd} {l : List Ex} (hb : s = 512 ∨ 32 < lv ∨ (h.k = 4 ∧ 0 < aggl a lv) ∨ fitsB h l.length = false) : mstep (some (a, s, d)) (.mk h l, lv) = none := by
 rw [mstep]; exact if_pos hb
theorem mstep_agg {a s d lv D : Nat} {h : Hd} {l : List Ex} (hk : h.k = 4) (ha : aggl a lv = 0) (hs : ¬ s = 512) (hl : ¬ 32 < lv) (hf : fitsB h l.length = true) (hD : max d lv = D) : mstep (some (a, s, d)) (.mk h l, lv) = some (lv, s + 1, D) := by
 subst hD
 rw [mstep]
 refine (if_neg ?_).trans ?_
 ·rintro (e | e | ⟨_, e⟩ | e)
  ·exact hs e
  ·exact hl e
  ·omega
  ·have e2 : fitsB h l.length = false := e
   rw [hf] at e2; cases e2
 ·rw [show (Ex.mk h l).hd.k = 4 from hk]; rfl
theorem mstep_on {a s d lv D a1 : Nat} {h : Hd} {l : List Ex} (hk : ¬ h.k = 4) (hs : ¬ s = 512) (hl : ¬ 32 < lv) (hf : fitsB h l.length = true) (hD : max d lv = D) (ha : aggl a lv = a1) : mstep (some (a, s, d)) (.mk h l, lv) = some (a1, s + 1, D) := by
 subst hD ha
 rw [mstep]
 refine (if_neg ?_).trans ?_
 ·rintro (e | e | ⟨e, _⟩ | e)
  ·exact hs e
  ·exact hl e
  ·exact hk e
  ·have e2 : fitsB h l.length = false := e
   rw [hf] at e2; cases e2
 ·rw [if_neg (show ¬ (Ex.mk h l).hd.k = 4 from hk)]
theorem bt' {n : Nat} {w w1 w2 : World} (h1 : Below n w w1) (h2 : Below w1.heap.size w1 w2) (hn : n ≤ w1.heap.size := by first | exact h1.size | omega) : Below n w w2 := h1.trans (h2.mono hn)
theorem boxed_below {W W' : World} {B : Nat} {t : TypeId} {v : Value} (h : Boxed W B t v) (hb : Below W.heap.size W W') : Boxed W' B t v := (hb.block B h.lt).trans h
theorem MB.kept {u1 u2 u3 u4 : Nat} {W W' : World} {s d a : Nat} {b : Bool} (m : MB u1 u2 u3 u4 W s d a b) (hb : Below W.heap.size W W') : MB u1 u2 u3 u4 W' s d a b :=
 ⟨boxed_below m.s hb, boxed_below m.d hb, boxed_below m.b hb, boxed_below m.a hb⟩
theorem MB.cells {u1 u2 u3 u4 : Nat} {W : World} {s d a : Nat} {b : Bool} (m : MB u1 u2 u3 u4 W s d a b) :
  (W.cell? ⟨u1, 0, none⟩ = some (.int .i64 s) ∧ W.frozen? ⟨u1, 0, none⟩ = false) ∧ (W.cell? ⟨u2, 0, none⟩ = some (.int .i64 d) ∧ W.frozen? ⟨u2, 0, none⟩ = false) ∧ (W.cell? ⟨u3, 0, none⟩ = some (.bool b) ∧ W.frozen? ⟨u3, 0, none⟩ = false) ∧
  W.cell? ⟨u4, 0, none⟩ = some (.int .i64 a) ∧ W.frozen? ⟨u4, 0, none⟩ = false :=
 ⟨⟨m.s.cell, m.s.frozen⟩, ⟨m.d.cell, m.d.frozen⟩, ⟨m.b.cell, m.b.frozen⟩, m.a.cell, m.a.frozen⟩
theorem MB.lvl {u1 u2 u3 u4 : Nat} {W : World} {s d a : Nat} {b : Bool} (m : MB u1 u2 u3 u4 W s d a b) (h14 : u1 ≠ u4) (h24 : u2 ≠ u4) (h34 : u3 ≠ u4) (a' : Nat) : MB u1 u2 u3 u4 (W.setCell ⟨u4, 0, none⟩ (.int .i64 a')) s d a' b :=
 ⟨m.s.other h14 _, m.d.other h24 _, m.b.other h34 _, m.a.set _⟩
theorem MB.next {u1 u2 u3 u4 : Nat} {W : World} {s d a : Nat} {b : Bool} (m : MB u1 u2 u3 u4 W s d a b) (h12 : u1 ≠ u2) (h23 : u2 ≠ u3) (h14 : u1 ≠ u4) (h24 : u2 ≠ u4) (d' : Nat) (vd : Int) (hvd : vd = d') (h13 : u1 ≠ u3 := by omega) :
  MB u1 u2 u3 u4 ((W.setCell ⟨u1, 0, none⟩ (.int .i64 ((s : Int) + 1))).setCell ⟨u2, 0, none⟩ (.int .i64 vd)) (s + 1) d' a b := by
 subst hvd
 exact ⟨(m.s.set (.int .i64 ((s : Int) + 1))).other h12 _, (m.d.other h12.symm _).set _, (m.b.other h13.symm _).other h23.symm _, (m.a.other h14.symm _).other h24.symm _⟩
theorem MB.zero {u1 u2 u3 u4 : Nat} {W : World} {s d a : Nat} {b : Bool} (m : MB u1 u2 u3 u4 W s d a b) (h12 : u1 ≠ u2) (h23 : u2 ≠ u3) (h34 : u3 ≠ u4) (h13 : u1 ≠ u3 := by omega) (h14 : u1 ≠ u4 := by omega) (h24 : u2 ≠ u4 := by omega) :
  MB u1 u2 u3 u4 (((W.setCell ⟨u1, 0, none⟩ (.int .i64 0)).setCell ⟨u2, 0, none⟩ (.int .i64 0)).setCell ⟨u3, 0, none⟩ (.bool false)) 0 0 a false :=
 ⟨((m.s.set _).other h12 _).other h13 _, ((m.d.other h12.symm _).set _).other h23 _, ((m.b.other h13.symm _).other h23.symm _).set _, ((m.a.other h14.symm _).other h24.symm _).other h34.symm _⟩
theorem cells_put {W : World} {B D : Nat} {t : TypeId} {v : Value} {o o' : Obj} (h : Boxed W B t v) (hD : W.heap[D]? = some o) (ho : o.isCells = false) : (W.putObj D o').cell? ⟨B, 0, none⟩ = some v :=
 (h.kept (grownBy_putObj' W D o') (fun e => by
  obtain rfl : B = D := by simpa using e
  rw [show W.heap[B]? = _ from h] at hD; cases hD; cases ho)).cell
theorem MB.put' {u1 u2 u3 u4 : Nat} {W : World} {s d a : Nat} {b : Bool} (m : MB u1 u2 u3 u4 W s d a b) {D : Nat} {o o' : Obj} (hD : W.heap[D]? = some o) (ho : o.isCells = false) :
  (W.putObj D o').cell? ⟨u1, 0, none⟩ = some (.int .i64 s) ∧ (W.putObj D o').cell? ⟨u2, 0, none⟩ = some (.int .i64 d) ∧ (W.putObj D o').cell? ⟨u3, 0, none⟩ = some (.bool b) :=
 ⟨cells_put m.s hD ho, cells_put m.d hD ho, cells_put m.b hD ho⟩
theorem MB.ends {u1 u2 u3 u4 : Nat} {W : World} {s d a : Nat} {b : Bool} (m : MB u1 u2 u3 u4 W s d a b) (h12 : u1 ≠ u2) (h23 : u2 ≠ u3) (h34 : u3 ≠ u4) (h13 : u1 ≠ u3 := by omega) (h14 : u1 ≠ u4 := by omega) (h24 : u2 ≠ u4 := by omega) :
  MB u1 u2 u3 u4 (((W.setCell ⟨u1, 0, none⟩ (.int .i64 s)).setCell ⟨u2, 0, none⟩ (.int .i64 d)).setCell ⟨u3, 0, none⟩ (.bool true)) s d a true :=
 ⟨((m.s.set _).other h12 _).other h13 _, ((m.d.other h12.symm _).set _).other h23 _, ((m.b.other h13.symm _).other h23.symm _).set _, ((m.a.other h14.symm _).other h24.symm _).other h34.symm _⟩
theorem measV_some {x : Ex} {a s d : Nat} (h : msr (preo x 1) = some (a, s, d)) : measV x = .tuple #[.int .i64 s, .int .i64 d, .bool true] := by
 simp [measV, measO, h]
theorem measV_none {x : Ex} (h : msr (preo x 1) = none) : measV x = .tuple #[.int .i64 0, .int .i64 0, .bool false] := by
 simp [measV, measO, h]
theorem mstep_le {o : Option (Nat × Nat × Nat)} {y : Ex × Nat} {a s d : Nat} (h : mstep o y = some (a, s, d)) (ho : ∀ a s d, o = some (a, s, d) → a ≤ 32 ∧ s ≤ 512 ∧ d ≤ 32) : a ≤ 32 ∧ s ≤ 512 ∧ d ≤ 32 := by
 obtain ⟨x, lv⟩ := y
 cases o with
 | none => cases h
 | some o =>
  obtain ⟨a0, s0, d0⟩ := o
  have h0 := ho _ _ _ rfl
  have hA : aggl a0 lv ≤ 32 := by unfold aggl; split <;> omega
  by_cases hn : s0 = 512 ∨ 32 < lv ∨ (x.hd.k = 4 ∧ 0 < aggl a0 lv) ∨ fitsB x.hd x.kids.length = false
  ·rw [mstep, if_pos hn] at h; cases h
  ·rw [mstep, if_neg hn] at h
   simp only [Option.some.injEq, Prod.mk.injEq] at h
   obtain ⟨h1, h2, h3⟩ := h
   have hs : s0 ≠ 512 := fun e => hn (.inl e)
   have hl : ¬ 32 < lv := fun e => hn (.inr (.inl e))
   refine ⟨?_, by omega, by omega⟩
   rw [← h1]; split <;> omega
theorem msr_le : ∀ (ys : List (Ex × Nat)) {o : Option (Nat × Nat × Nat)} {a s d : Nat}, ys.foldl mstep o = some (a, s, d) → (∀ a s d, o = some (a, s, d) → a ≤ 32 ∧ s ≤ 512 ∧ d ≤ 32) → a ≤ 32 ∧ s ≤ 512 ∧ d ≤ 32
 | [], _, _, _, _, h, ho => ho _ _ _ h
 | y :: ys, _, _, _, _, h, ho => msr_le ys (by rw [List.foldl_cons] at h; exact h) (fun _ _ _ e => mstep_le e ho)

set_option maxRecDepth 100000 in
set_option maxHeartbeats 16000000 in
theorem measure_any (h : Hd) (lk : List Ex) (A : Option Addr) (cap : Nat) (w : World) (hX : XsAt w.heap.size w lk A) (hcap : lk.length ≤ cap) (hsm : AllSm (.mk h lk)) (hc : cnt (.mk h lk) ≤ 999999) (hT : Tabs w) :
  Calls Tryz.prog 62 #[XV h A lk.length cap] w fun e w' => e = .returned (measV (.mk h lk)) ∧ Below w.heap.size w w' := by
 have HT := Lib.hid hT
 have HXs := Lib.hid hX
 have HSm := Lib.hid hsm
 clear hT hX hsm
 refine (callsIn_wide (n := 9)).1 ?_
 refine callsIn_of_wp_marks Tryz.func62 rfl trivial ?_ rfl
 simp only [Tryz.ntmps62, List.size_toArray, List.length_cons, List.length_nil, Nat.reduceAdd, Nat.reduceSub, Array.replicate_succ, Array.replicate_zero, List.push_toArray, List.append_toArray, List.nil_append, List.cons_append]
 gi_wp2_with ((try refine ⟨trivial, ?_⟩); gi_at_call 114; refine (through_in Fence.wide _ trivial rfl _ _ _ _ _).mono ?_; rintro e w' ⟨rfl, rfl⟩)
 have bS := ((((Boxed.new (w.alloc (xbox h A lk.length cap)) 3 (.int .i64 0)).alloc (.cells #[.int .i64 0] 3)).alloc (.cells #[.bool false] 4)).alloc (.cells #[.int .i64 0] 3)).alloc (xbox h A lk.length cap)
 have bD := (((Boxed.new ((w.alloc (xbox h A lk.length cap)).alloc (.cells #[.int .i64 0] 3)) 3 (.int .i64 0)).alloc (.cells #[.bool false] 4)).alloc (.cells #[.int .i64 0] 3)).alloc (xbox h A lk.length cap)
 have bO := ((Boxed.new (((w.alloc (xbox h A lk.length cap)).alloc (.cells #[.int .i64 0] 3)).alloc (.cells #[.int .i64 0] 3)) 4 (.bool false)).alloc (.cells #[.int .i64 0] 3)).alloc (xbox h A lk.length cap)
 have bA := (Boxed.new ((((w.alloc (xbox h A lk.length cap)).alloc (.cells #[.int .i64 0] 3)).alloc (.cells #[.int .i64 0] 3)).alloc (.cells #[.bool false] 4)) 3 (.int .i64 0)).alloc (xbox h A lk.length cap)
 have bX := (MapKept.heap_alloc (((((w.alloc (xbox h A lk.length cap)).alloc (.cells #[.int .i64 0] 3)).alloc (.cells #[.int .i64 0] 3)).alloc (.cells #[.bool false] 4)).alloc (.cells #[.int .i64 0] 3)) (xbox h A lk.length cap)).1
 simp only [World.size_alloc] at bS bD bO bA bX
 have hB0 : Below w.heap.size w ((((((w.alloc (xbox h A lk.length cap)).alloc (.cells #[.int .i64 0] 3)).alloc (.cells #[.int .i64 0] 3)).alloc (.cells #[.bool false] 4)).alloc (.cells #[.int .i64 0] 3)).alloc (xbox h A lk.length cap)) :=
  bt (bt (ba2 w _ _) (ba2 _ _ _)) (ba2 _ _ _)
 have hsz0 : ((((((w.alloc (xbox h A lk.length cap)).alloc (.cells #[.int .i64 0] 3)).alloc (.cells #[.int .i64 0] 3)).alloc (.cells #[.bool false] 4)).alloc (.cells #[.int .i64 0] 3)).alloc (xbox h A lk.length cap)).heap.size = w.heap.size + 6 := by simp
 obtain ⟨W0, hW0⟩ : ∃ W0, (((((w.alloc (xbox h A lk.length cap)).alloc (.cells #[.int .i64 0] 3)).alloc (.cells #[.int .i64 0] 3)).alloc (.cells #[.bool false] 4)).alloc (.cells #[.int .i64 0] 3)).alloc (xbox h A lk.length cap) = W0 := ⟨_, rfl⟩
 rw [hW0] at bS bD bO bA bX hB0 hsz0 ⊢
 clear hW0
 obtain ⟨u1, hu1⟩ : ∃ u, w.heap.size + 1 = u := ⟨_, rfl⟩
 rw [hu1] at bS bD bO bA bX ⊢
 obtain ⟨u2, hu2⟩ : ∃ u, u1 + 1 = u := ⟨_, rfl⟩
 rw [hu2] at bD bO bA bX ⊢
 obtain ⟨u3, hu3⟩ : ∃ u, u2 + 1 = u := ⟨_, rfl⟩
 rw [hu3] at bO bA bX ⊢
 obtain ⟨u4, hu4⟩ : ∃ u, u3 + 1 = u := ⟨_, rfl⟩
 rw [hu4] at bA bX ⊢
 obtain ⟨u5, hu5⟩ : ∃ u, u4 + 1 = u := ⟨_, rfl⟩
 rw [hu5] at bX ⊢
 obtain ⟨S, hSd⟩ : ∃ S : Nat → Prop, (fun k => u1 ≤ k ∧ k ≤ u4) = S := ⟨_, rfl⟩
 have hSi : ∀ k, S k ↔ (u1 ≤ k ∧ k ≤ u4) := fun k => by rw [← hSd]
 have hS1 : S u1 := (hSi _).2 (by omega)
 have hS2 : S u2 := (hSi _).2 (by omega)
 have hS3 : S u3 := (hSi _).2 (by omega)
 have hS4 : S u4 := (hSi _).2 (by omega)
 have hSB : ∀ k, S k → k < W0.heap.size := fun k hk => by have := (hSi k).1 hk; omega
 have hSU : ∀ k, S k → w.heap.size ≤ k := fun k hk => by have := (hSi k).1 hk; omega
 have h12 : u1 ≠ u2 := by omega
 have h23 : u2 ≠ u3 := by omega
 have h34 : u3 ≠ u4 := by omega
 have h14 : u1 ≠ u4 := by omega
 have h24 : u2 ≠ u4 := by omega
 have hX0 : XsAt w.heap.size W0 lk A := HXs.out.kept hB0
 have own1 : ∀ {X Y : World} {row : Option Nat} {B : Nat} {t : TypeId} {v : Value}, Boxed X B t v → X.grownBy Y row → (∀ r, row = some r → W0.heap.size ≤ r ∧ ∃ o : Obj, X.heap[r]? = some o ∧ o.isCells = false) → Boxed Y B t v :=
  fun hb hg hr => boxed_own _ _ (fun (_ : Unit) => _) () _ _ _ hb hg (fun r e => (hr r e).2)
 have ownM : ∀ {X Y : World} {row : Option Nat} {s d a : Nat} {b : Bool}, MB u1 u2 u3 u4 X s d a b → X.grownBy Y row → (∀ r, row = some r → W0.heap.size ≤ r ∧ ∃ o : Obj, X.heap[r]? = some o ∧ o.isCells = false) → MB u1 u2 u3 u4 Y s d a b :=
  fun m hg hr => ⟨own1 m.s hg hr, own1 m.d hg hr, own1 m.b hg hr, own1 m.a hg hr⟩
 have ownB := @ownFrom_below Unit w.heap.size W0.heap.size w (Nat.le_refl _) (by omega)
 refine wpIn_rangeFunc_ownH rfl (by omega) (gf := 140) (lb := #[.pointer (some ⟨u5, 0, none⟩)]) rfl trivial (enters_of Tryz.func140 (by kernel_rfl) rfl)
  (through_stops Fence.wide rfl _ trivial trivial rfl u5 w.heap.size S (fun _ => False) (fun _ _ _ _ h => h) W0 ⟨⟨.mk h lk, A, cap, 1⟩, ⟨hX0, hcap, HSm.out, by simp only; omega⟩⟩ rfl (by omega) (by omega) hSB bX) KpS.trans (kpS_put (by omega)) (Below.refl _ _) (fun _ => rfl)
  (fun pre W => ∃ a s d b, msr (pre.map ndp) = some (a, s, d) ∧ MB u1 u2 u3 u4 W s d a b ∧ Below w.heap.size w W ∧ W0.heap.size ≤ W.heap.size)
  (fun c pre W => c = .ret ∧ msr (pre.map ndp) = none ∧ (∃ a, MB u1 u2 u3 u4 W 0 0 a false) ∧ Below w.heap.size w W)
  (fun pre X Y row hs hg hr => by
   obtain ⟨a, s, d, b, h1, h2, h3, h4⟩ := hs
   exact ⟨a, s, d, b, h1, ownM h2 hg hr, ownB () X Y row h3 hg hr, Nat.le_trans h4 hg.size⟩)
  (fun c pre X Y row hs hg hr => by
   obtain ⟨h0, h1, ⟨a, h2⟩, h3⟩ := hs
   exact ⟨h0, h1, ⟨a, ownM h2 hg hr⟩, ownB () X Y row h3 hg hr⟩)
  ⟨0, 0, 0, false, rfl, ⟨bS, bD, bO, bA⟩, hB0, Nat.le_refl _⟩
  (fun x a' W => ∃ Bx, u5 < Bx ∧ W.heap[Bx]? = some (xbox x.1.ex.hd x.1.A x.1.ex.kids.length x.1.cap) ∧
   a' = { tmps := #[XV h A lk.length cap, .pointer (some ⟨w.heap.size, 0, none⟩), .pointer (some ⟨u1, 0, none⟩), .pointer (some ⟨u2, 0, none⟩), .pointer (some ⟨u3, 0, none⟩), .pointer (some ⟨u4, 0, none⟩), .pointer (some ⟨Bx, 0, none⟩), .int .i64 x.1.lv, undef, XV h A lk.length cap, .func (.func 140) #[] #[.pointer (some ⟨u5, 0, none⟩)], XV x.1.ex.hd x.1.A x.1.ex.kids.length x.1.cap, .int .i64 x.1.lv, undef, undef, undef, undef, undef, undef, undef, undef, undef, undef, undef, undef, undef, undef, undef, undef, undef, undef, undef, undef, undef, undef, undef, undef, undef, undef, undef, undef, undef, undef, undef, undef, undef, undef, undef], defers := [] })
  (fun x a' _ X Y row hs hg hr => by
   obtain ⟨Bx, h1, h2, h3⟩ := hs
   refine ⟨Bx, h1, (hg.block Bx (Array.getElem?_eq_some_iff.1 h2).1 (fun e => ?_)).trans h2, h3⟩
   obtain ⟨_, o, ho, hoc⟩ := hr Bx e.symm
   rw [h2] at ho; cases ho; cases hoc)
  ?assign ?body ?done ?stop
 case assign =>
  rintro l pre x W K ⟨a, s, d, b, h1, h2, h3, h4⟩ hK
  gi_wp2
  exact hK _ _ ((KeepsOthers.alloc _ _).from _) ((Rd.of (S := S) (ba W _)).kp hSU (by omega)) ⟨a, s, d, b, h1, h2.kept (ba W _), bt' h3 (ba W _), by rw [World.size_alloc]; omega⟩ ⟨W.heap.size, by have := h2.a.lt; omega, (MapKept.heap_alloc W _).1, rfl⟩
 case body =>
  rintro l pre x a' W hl _ ⟨a, s, d, b, hms, hm, hB, hsz⟩ ⟨Bx, hBx, hXb, rfl⟩ hlt
  obtain ⟨hab, hsb, hdb⟩ := msr_le _ hms (fun a s d e => by cases e; exact ⟨by omega, by omega, by omega⟩)
  obtain ⟨⟨⟨⟨kk, nn, vk, vn, vs, tb, cl⟩, l'⟩, A', cap', lv⟩, ok⟩ := x
  have hlv := ok.lv
  have hcn := cnt_pos (.mk ⟨kk, nn, vk, vn, vs, tb, cl⟩ l')
  have hln : l'.length ≤ 1000000 := by have := cntL_len l'; simp only [cnt_mk] at hlv; omega
  simp only at hlv
  have Hms := Lib.hid hms
  have HM0 := Lib.hid hm
  obtain ⟨bf, hbf⟩ : ∃ bf, fitsB ⟨kk, nn, vk, vn, vs, tb, cl⟩ l'.length = bf := ⟨_, rfl⟩
  have Hbf := Lib.hid hbf
  have HF := Lib.hid (fun W1 (hb1 : Below w.heap.size w W1) => fits_any ⟨kk, nn, vk, vn, vs, tb, cl⟩ A' l'.length cap' W1 (by have := ok.sm; rw [AllSm] at this; exact this.1) (HT.out.kept hb1) (by omega))
  rw [hbf] at HF
  have hXb : W.heap[Bx]? = some (.cells #[.int .i64 kk, .int .i64 nn, .int .i64 vk, .int .i64 vn, .string vs, .string tb, .string cl, .slice A' l'.length cap'] 37 (0, 0)) := hXb
  have HX0 := Lib.hid hXb
  have HBl := Lib.hid (Array.getElem?_eq_some_iff.1 hXb).1
  obtain ⟨⟨k1, g1⟩, ⟨k2, g2⟩, ⟨k3, g3⟩, k4, g4⟩ := hm.cells
  obtain ⟨⟨y0, y1, y2, y3, y4, y5, y6, y7⟩, _⟩ := cell8 hXb
  clear hms hm hXb hbf
  by_cases hla : lv ≤ a
  ·have hla1 : (lv : Int) ≤ (a : Int) := by omega
   have HM := Lib.hid (HM0.out.lvl h14 h24 h34 0)
   have HBc := Lib.hid (hB.setCell (p := ⟨u4, 0, none⟩) (by simp only; omega) (.int .i64 0))
   have HRc := Lib.hid ((Rd.refl S W).set (j := 0) hS4 (.int .i64 0))
   have HXb := Lib.hid ((setc_other (W := W) (U := u4) (k := Bx) (j := 0) (by omega) (.int .i64 0)).trans HX0.out)
   have HXl := Lib.hid (show Bx < (W.setCell ⟨u4, 0, none⟩ (.int .i64 0)).heap.size by rw [setc_size]; exact HBl.out)
   by_cases hk4 : kk = 4
   ·subst hk4
    by_cases hs : s = 512
    ·have hs1 : (s : Int) = 512 := by omega
     have HN := Lib.hid (show msr ((pre ++ [(⟨⟨.mk ⟨4, nn, vk, vn, vs, tb, cl⟩ l', A', cap', lv⟩, ok⟩ : NdS w.heap.size W0)]).map ndp) = none by rw [List.map_append, List.map_cons, List.map_nil, msr_snoc, Hms.out]; exact mstep_bad (.inl hs))
     gi_wp2_with ((try refine ⟨trivial, ?_⟩); gi_at_call 115; refine (CallsIn.inRound l (callsIn_wide.2 (HF.out _ HBc.out))).mono ?_; rintro e W5 ⟨rfl, hb5⟩; have m5 := HM.out.kept hb5; obtain ⟨⟨k1, g1⟩, ⟨k2, g2⟩, ⟨k3, g3⟩, k4, g4⟩ := m5.cells; have x5 := (hb5.block Bx HXl.out).trans HXb.out; have y0 := (cell8 x5).1.1; have HM5 := Lib.hid m5; have HR5 := Lib.hid (HRc.out.trans (Rd.of hb5)); have HB5 := Lib.hid (HBc.out.trans (hb5.mono HBc.out.size)); clear hb5 m5 x5)
     try (refine ⟨trivial, ?_⟩; gi_wp2)
     refine ⟨?_, rfl, HN.out, ?_, ?_⟩
     ·first
       | exact (((HR5.out.set hS1 _).set hS2 _).set hS3 _).from hSB
       | exact (((HRc.out.set hS1 _).set hS2 _).set hS3 _).from hSB
     ·first
       | exact ⟨_, HM5.out.zero h12 h23 h34⟩
       | exact ⟨_, HM.out.zero h12 h23 h34⟩
     ·first
       | exact ((HB5.out.setCell (p := ⟨u1, 0, none⟩) (by simp only; omega) _).setCell (p := ⟨u2, 0, none⟩) (by simp only; omega) _).setCell (p := ⟨u3, 0, none⟩) (by simp only; omega) _
       | exact ((HBc.out.setCell (p := ⟨u1, 0, none⟩) (by simp only; omega) _).setCell (p := ⟨u2, 0, none⟩) (by simp only; omega) _).setCell (p := ⟨u3, 0, none⟩) (by simp only; omega) _
    ·have hs1 : ¬ (s : Int) = 512 := by omega
     by_cases hl : 32 < lv
     ·have hl1 : (32 : Int) < (lv : Int) := by omega
      omega
     ·have hl1 : ¬ (32 : Int) < (lv : Int) := by omega
      cases hft : bf
      ·have HFt := Lib.hid (Hbf.out.trans hft)
       subst hft
       have HN := Lib.hid (show msr ((pre ++ [(⟨⟨.mk ⟨4, nn, vk, vn, vs, tb, cl⟩ l', A', cap', lv⟩, ok⟩ : NdS w.heap.size W0)]).map ndp) = none by rw [List.map_append, List.map_cons, List.map_nil, msr_snoc, Hms.out]; exact mstep_bad (.inr (.inr (.inr HFt.out))))
       gi_wp2_with ((try refine ⟨trivial, ?_⟩); gi_at_call 115; refine (CallsIn.inRound l (callsIn_wide.2 (HF.out _ HBc.out))).mono ?_; rintro e W5 ⟨rfl, hb5⟩; have m5 := HM.out.kept hb5; obtain ⟨⟨k1, g1⟩, ⟨k2, g2⟩, ⟨k3, g3⟩, k4, g4⟩ := m5.cells; have x5 := (hb5.block Bx HXl.out).trans HXb.out; have y0 := (cell8 x5).1.1; have HM5 := Lib.hid m5; have HR5 := Lib.hid (HRc.out.trans (Rd.of hb5)); have HB5 := Lib.hid (HBc.out.trans (hb5.mono HBc.out.size)); clear hb5 m5 x5)
       try (refine ⟨trivial, ?_⟩; gi_wp2)
       refine ⟨?_, rfl, HN.out, ?_, ?_⟩
       ·first
         | exact (((HR5.out.set hS1 _).set hS2 _).set hS3 _).from hSB
         | exact (((HRc.out.set hS1 _).set hS2 _).set hS3 _).from hSB
       ·first
         | exact ⟨_, HM5.out.zero h12 h23 h34⟩
         | exact ⟨_, HM.out.zero h12 h23 h34⟩
       ·first
         | exact ((HB5.out.setCell (p := ⟨u1, 0, none⟩) (by simp only; omega) _).setCell (p := ⟨u2, 0, none⟩) (by simp only; omega) _).setCell (p := ⟨u3, 0, none⟩) (by simp only; omega) _
         | exact ((HBc.out.setCell (p := ⟨u1, 0, none⟩) (by simp only; omega) _).setCell (p := ⟨u2, 0, none⟩) (by simp only; omega) _).setCell (p := ⟨u3, 0, none⟩) (by simp only; omega) _
      ·have HFt := Lib.hid (Hbf.out.trans hft)
       subst hft
       have HN := Lib.hid (show msr ((pre ++ [(⟨⟨.mk ⟨4, nn, vk, vn, vs, tb, cl⟩ l', A', cap', lv⟩, ok⟩ : NdS w.heap.size W0)]).map ndp) = some (lv, s + 1, (max d lv)) by rw [List.map_append, List.map_cons, List.map_nil, msr_snoc, Hms.out]; exact mstep_agg rfl (by unfold aggl; split <;> omega) hs hl HFt.out rfl)
       gi_wp2_with ((try refine ⟨trivial, ?_⟩); gi_at_call 115; refine (CallsIn.inRound l (callsIn_wide.2 (HF.out _ HBc.out))).mono ?_; rintro e W5 ⟨rfl, hb5⟩; have m5 := HM.out.kept hb5; obtain ⟨⟨k1, g1⟩, ⟨k2, g2⟩, ⟨k3, g3⟩, k4, g4⟩ := m5.cells; have x5 := (hb5.block Bx HXl.out).trans HXb.out; have y0 := (cell8 x5).1.1; have HM5 := Lib.hid m5; have HR5 := Lib.hid (HRc.out.trans (Rd.of hb5)); have HB5 := Lib.hid (HBc.out.trans (hb5.mono HBc.out.size)); clear hb5 m5 x5)
       try (refine ⟨trivial, ?_⟩; gi_wp2)
       exact ⟨(((HR5.out.set hS4 _).set hS1 _).set hS2 _).from hSB, (((HR5.out.set hS4 _).set hS1 _).set hS2 _).kp hSU (by omega), _, _, _, _, HN.out, (HM5.out.lvl h14 h24 h34 lv).next h12 h23 h14 h24 (max d lv) (max (d : Int) lv) (by omega), ((HB5.out.setCell (p := ⟨u4, 0, none⟩) (by simp only; omega) _).setCell (p := ⟨u1, 0, none⟩) (by simp only; omega) _).setCell (p := ⟨u2, 0, none⟩) (by simp only; omega) _, Nat.le_trans hsz (((HR5.out.set hS4 _).set hS1 _).set hS2 _).size⟩
   ·by_cases hs : s = 512
    ·have hs1 : (s : Int) = 512 := by omega
     have HN := Lib.hid (show msr ((pre ++ [(⟨⟨.mk ⟨kk, nn, vk, vn, vs, tb, cl⟩ l', A', cap', lv⟩, ok⟩ : NdS w.heap.size W0)]).map ndp) = none by rw [List.map_append, List.map_cons, List.map_nil, msr_snoc, Hms.out]; exact mstep_bad (.inl hs))
     gi_wp2_with ((try refine ⟨trivial, ?_⟩); gi_at_call 115; refine (CallsIn.inRound l (callsIn_wide.2 (HF.out _ HBc.out))).mono ?_; rintro e W5 ⟨rfl, hb5⟩; have m5 := HM.out.kept hb5; obtain ⟨⟨k1, g1⟩, ⟨k2, g2⟩, ⟨k3, g3⟩, k4, g4⟩ := m5.cells; have x5 := (hb5.block Bx HXl.out).trans HXb.out; have y0 := (cell8 x5).1.1; have HM5 := Lib.hid m5; have HR5 := Lib.hid (HRc.out.trans (Rd.of hb5)); have HB5 := Lib.hid (HBc.out.trans (hb5.mono HBc.out.size)); clear hb5 m5 x5)
     try (refine ⟨trivial, ?_⟩; gi_wp2)
     refine ⟨?_, rfl, HN.out, ?_, ?_⟩
     ·first
       | exact (((HR5.out.set hS1 _).set hS2 _).set hS3 _).from hSB
       | exact (((HRc.out.set hS1 _).set hS2 _).set hS3 _).from hSB
     ·first
       | exact ⟨_, HM5.out.zero h12 h23 h34⟩
       | exact ⟨_, HM.out.zero h12 h23 h34⟩
     ·first
       | exact ((HB5.out.setCell (p := ⟨u1, 0, none⟩) (by simp only; omega) _).setCell (p := ⟨u2, 0, none⟩) (by simp only; omega) _).setCell (p := ⟨u3, 0, none⟩) (by simp only; omega) _
       | exact ((HBc.out.setCell (p := ⟨u1, 0, none⟩) (by simp only; omega) _).setCell (p := ⟨u2, 0, none⟩) (by simp only; omega) _).setCell (p := ⟨u3, 0, none⟩) (by simp only; omega) _
    ·have hs1 : ¬ (s : Int) = 512 := by omega
     by_cases hl : 32 < lv
     ·have hl1 : (32 : Int) < (lv : Int) := by omega
      omega
     ·have hl1 : ¬ (32 : Int) < (lv : Int) := by omega
      cases hft : bf
      ·have HFt := Lib.hid (Hbf.out.trans hft)
       subst hft
       have HN := Lib.hid (show msr ((pre ++ [(⟨⟨.mk ⟨kk, nn, vk, vn, vs, tb, cl⟩ l', A', cap', lv⟩, ok⟩ : NdS w.heap.size W0)]).map ndp) = none by rw [List.map_append, List.map_cons, List.map_nil, msr_snoc, Hms.out]; exact mstep_bad (.inr (.inr (.inr HFt.out))))
       gi_wp2_with ((try refine ⟨trivial, ?_⟩); gi_at_call 115; refine (CallsIn.inRound l (callsIn_wide.2 (HF.out _ HBc.out))).mono ?_; rintro e W5 ⟨rfl, hb5⟩; have m5 := HM.out.kept hb5; obtain ⟨⟨k1, g1⟩, ⟨k2, g2⟩, ⟨k3, g3⟩, k4, g4⟩ := m5.cells; have x5 := (hb5.block Bx HXl.out).trans HXb.out; have y0 := (cell8 x5).1.1; have HM5 := Lib.hid m5; have HR5 := Lib.hid (HRc.out.trans (Rd.of hb5)); have HB5 := Lib.hid (HBc.out.trans (hb5.mono HBc.out.size)); clear hb5 m5 x5)
       try (refine ⟨trivial, ?_⟩; gi_wp2)
       refine ⟨?_, rfl, HN.out, ?_, ?_⟩
       ·first
         | exact (((HR5.out.set hS1 _).set hS2 _).set hS3 _).from hSB
         | exact (((HRc.out.set hS1 _).set hS2 _).set hS3 _).from hSB
       ·first
         | exact ⟨_, HM5.out.zero h12 h23 h34⟩
         | exact ⟨_, HM.out.zero h12 h23 h34⟩
       ·first
         | exact ((HB5.out.setCell (p := ⟨u1, 0, none⟩) (by simp only; omega) _).setCell (p := ⟨u2, 0, none⟩) (by simp only; omega) _).setCell (p := ⟨u3, 0, none⟩) (by simp only; omega) _
         | exact ((HBc.out.setCell (p := ⟨u1, 0, none⟩) (by simp only; omega) _).setCell (p := ⟨u2, 0, none⟩) (by simp only; omega) _).setCell (p := ⟨u3, 0, none⟩) (by simp only; omega) _
      ·have HFt := Lib.hid (Hbf.out.trans hft)
       subst hft
       have HN := Lib.hid (show msr ((pre ++ [(⟨⟨.mk ⟨kk, nn, vk, vn, vs, tb, cl⟩ l', A', cap', lv⟩, ok⟩ : NdS w.heap.size W0)]).map ndp) = some (0, s + 1, (max d lv)) by rw [List.map_append, List.map_cons, List.map_nil, msr_snoc, Hms.out]; exact mstep_on hk4 hs hl HFt.out rfl (by unfold aggl; first | rw [if_pos hla] | rw [if_neg hla]))
       gi_wp2_with ((try refine ⟨trivial, ?_⟩); gi_at_call 115; refine (CallsIn.inRound l (callsIn_wide.2 (HF.out _ HBc.out))).mono ?_; rintro e W5 ⟨rfl, hb5⟩; have m5 := HM.out.kept hb5; obtain ⟨⟨k1, g1⟩, ⟨k2, g2⟩, ⟨k3, g3⟩, k4, g4⟩ := m5.cells; have x5 := (hb5.block Bx HXl.out).trans HXb.out; have y0 := (cell8 x5).1.1; have HM5 := Lib.hid m5; have HR5 := Lib.hid (HRc.out.trans (Rd.of hb5)); have HB5 := Lib.hid (HBc.out.trans (hb5.mono HBc.out.size)); clear hb5 m5 x5)
       try (refine ⟨trivial, ?_⟩; gi_wp2)
       exact ⟨((HR5.out.set hS1 _).set hS2 _).from hSB, ((HR5.out.set hS1 _).set hS2 _).kp hSU (by omega), _, _, _, _, HN.out, HM5.out.next h12 h23 h14 h24 (max d lv) (max (d : Int) lv) (by omega), (HB5.out.setCell (p := ⟨u1, 0, none⟩) (by simp only; omega) _).setCell (p := ⟨u2, 0, none⟩) (by simp only; omega) _, Nat.le_trans hsz ((HR5.out.set hS1 _).set hS2 _).size⟩
  ·have hla1 : ¬ (lv : Int) ≤ (a : Int) := by omega
   have HM := HM0
   have HBc := Lib.hid hB
   have HRc := Lib.hid (Rd.refl S W)
   have HXb := HX0
   have HXl := HBl
   by_cases hk4 : kk = 4
   ·subst hk4
    by_cases ha : a = 0
    ·have ha1 : ¬ (0 : Int) < (a : Int) := by omega
     have ha2 : ¬ 0 < a := by omega
     by_cases hs : s = 512
     ·have hs1 : (s : Int) = 512 := by omega
      have HN := Lib.hid (show msr ((pre ++ [(⟨⟨.mk ⟨4, nn, vk, vn, vs, tb, cl⟩ l', A', cap', lv⟩, ok⟩ : NdS w.heap.size W0)]).map ndp) = none by rw [List.map_append, List.map_cons, List.map_nil, msr_snoc, Hms.out]; exact mstep_bad (.inl hs))
      gi_wp2_with ((try refine ⟨trivial, ?_⟩); gi_at_call 115; refine (CallsIn.inRound l (callsIn_wide.2 (HF.out _ HBc.out))).mono ?_; rintro e W5 ⟨rfl, hb5⟩; have m5 := HM.out.kept hb5; obtain ⟨⟨k1, g1⟩, ⟨k2, g2⟩, ⟨k3, g3⟩, k4, g4⟩ := m5.cells; have x5 := (hb5.block Bx HXl.out).trans HXb.out; have y0 := (cell8 x5).1.1; have HM5 := Lib.hid m5; have HR5 := Lib.hid (HRc.out.trans (Rd.of hb5)); have HB5 := Lib.hid (HBc.out.trans (hb5.mono HBc.out.size)); clear hb5 m5 x5)
      try (refine ⟨trivial, ?_⟩; gi_wp2)
      refine ⟨?_, rfl, HN.out, ?_, ?_⟩
      ·first
        | exact (((HR5.out.set hS1 _).set hS2 _).set hS3 _).from hSB
        | exact (((HRc.out.set hS1 _).set hS2 _).set hS3 _).from hSB
      ·first
        | exact ⟨_, HM5.out.zero h12 h23 h34⟩
        | exact ⟨_, HM.out.zero h12 h23 h34⟩
      ·first
        | exact ((HB5.out.setCell (p := ⟨u1, 0, none⟩) (by simp only; omega) _).setCell (p := ⟨u2, 0, none⟩) (by simp only; omega) _).setCell (p := ⟨u3, 0, none⟩) (by simp only; omega) _
        | exact ((HBc.out.setCell (p := ⟨u1, 0, none⟩) (by simp only; omega) _).setCell (p := ⟨u2, 0, none⟩) (by simp only; omega) _).setCell (p := ⟨u3, 0, none⟩) (by simp only; omega) _
     ·have hs1 : ¬ (s : Int) = 512 := by omega
      by_cases hl : 32 < lv
      ·have hl1 : (32 : Int) < (lv : Int) := by omega
       have HN := Lib.hid (show msr ((pre ++ [(⟨⟨.mk ⟨4, nn, vk, vn, vs, tb, cl⟩ l', A', cap', lv⟩, ok⟩ : NdS w.heap.size W0)]).map ndp) = none by rw [List.map_append, List.map_cons, List.map_nil, msr_snoc, Hms.out]; exact mstep_bad (.inr (.inl hl)))
       gi_wp2_with ((try refine ⟨trivial, ?_⟩); gi_at_call 115; refine (CallsIn.inRound l (callsIn_wide.2 (HF.out _ HBc.out))).mono ?_; rintro e W5 ⟨rfl, hb5⟩; have m5 := HM.out.kept hb5; obtain ⟨⟨k1, g1⟩, ⟨k2, g2⟩, ⟨k3, g3⟩, k4, g4⟩ := m5.cells; have x5 := (hb5.block Bx HXl.out).trans HXb.out; have y0 := (cell8 x5).1.1; have HM5 := Lib.hid m5; have HR5 := Lib.hid (HRc.out.trans (Rd.of hb5)); have HB5 := Lib.hid (HBc.out.trans (hb5.mono HBc.out.size)); clear hb5 m5 x5)
       try (refine ⟨trivial, ?_⟩; gi_wp2)
       refine ⟨?_, rfl, HN.out, ?_, ?_⟩
       ·first
         | exact (((HR5.out.set hS1 _).set hS2 _).set hS3 _).from hSB
         | exact (((HRc.out.set hS1 _).set hS2 _).set hS3 _).from hSB
       ·first
         | exact ⟨_, HM5.out.zero h12 h23 h34⟩
         | exact ⟨_, HM.out.zero h12 h23 h34⟩
       ·first
         | exact ((HB5.out.setCell (p := ⟨u1, 0, none⟩) (by simp only; omega) _).setCell (p := ⟨u2, 0, none⟩) (by simp only; omega) _).setCell (p := ⟨u3, 0, none⟩) (by simp only; omega) _
         | exact ((HBc.out.setCell (p := ⟨u1, 0, none⟩) (by simp only; omega) _).setCell (p := ⟨u2, 0, none⟩) (by simp only; omega) _).setCell (p := ⟨u3, 0, none⟩) (by simp only; omega) _
      ·have hl1 : ¬ (32 : Int) < (lv : Int) := by omega
       cases hft : bf
       ·have HFt := Lib.hid (Hbf.out.trans hft)
        subst hft
        have HN := Lib.hid (show msr ((pre ++ [(⟨⟨.mk ⟨4, nn, vk, vn, vs, tb, cl⟩ l', A', cap', lv⟩, ok⟩ : NdS w.heap.size W0)]).map ndp) = none by rw [List.map_append, List.map_cons, List.map_nil, msr_snoc, Hms.out]; exact mstep_bad (.inr (.inr (.inr HFt.out))))
        gi_wp2_with ((try refine ⟨trivial, ?_⟩); gi_at_call 115; refine (CallsIn.inRound l (callsIn_wide.2 (HF.out _ HBc.out))).mono ?_; rintro e W5 ⟨rfl, hb5⟩; have m5 := HM.out.kept hb5; obtain ⟨⟨k1, g1⟩, ⟨k2, g2⟩, ⟨k3, g3⟩, k4, g4⟩ := m5.cells; have x5 := (hb5.block Bx HXl.out).trans HXb.out; have y0 := (cell8 x5).1.1; have HM5 := Lib.hid m5; have HR5 := Lib.hid (HRc.out.trans (Rd.of hb5)); have HB5 := Lib.hid (HBc.out.trans (hb5.mono HBc.out.size)); clear hb5 m5 x5)
        try (refine ⟨trivial, ?_⟩; gi_wp2)
        refine ⟨?_, rfl, HN.out, ?_, ?_⟩
        ·first
          | exact (((HR5.out.set hS1 _).set hS2 _).set hS3 _).from hSB
          | exact (((HRc.out.set hS1 _).set hS2 _).set hS3 _).from hSB
        ·first
          | exact ⟨_, HM5.out.zero h12 h23 h34⟩
          | exact ⟨_, HM.out.zero h12 h23 h34⟩
        ·first
          | exact ((HB5.out.setCell (p := ⟨u1, 0, none⟩) (by simp only; omega) _).setCell (p := ⟨u2, 0, none⟩) (by simp only; omega) _).setCell (p := ⟨u3, 0, none⟩) (by simp only; omega) _
          | exact ((HBc.out.setCell (p := ⟨u1, 0, none⟩) (by simp only; omega) _).setCell (p := ⟨u2, 0, none⟩) (by simp only; omega) _).setCell (p := ⟨u3, 0, none⟩) (by simp only; omega) _
       ·have HFt := Lib.hid (Hbf.out.trans hft)
        subst hft
        have HN := Lib.hid (show msr ((pre ++ [(⟨⟨.mk ⟨4, nn, vk, vn, vs, tb, cl⟩ l', A', cap', lv⟩, ok⟩ : NdS w.heap.size W0)]).map ndp) = some (lv, s + 1, (max d lv)) by rw [List.map_append, List.map_cons, List.map_nil, msr_snoc, Hms.out]; exact mstep_agg rfl (by unfold aggl; split <;> omega) hs hl HFt.out rfl)
        gi_wp2_with ((try refine ⟨trivial, ?_⟩); gi_at_call 115; refine (CallsIn.inRound l (callsIn_wide.2 (HF.out _ HBc.out))).mono ?_; rintro e W5 ⟨rfl, hb5⟩; have m5 := HM.out.kept hb5; obtain ⟨⟨k1, g1⟩, ⟨k2, g2⟩, ⟨k3, g3⟩, k4, g4⟩ := m5.cells; have x5 := (hb5.block Bx HXl.out).trans HXb.out; have y0 := (cell8 x5).1.1; have HM5 := Lib.hid m5; have HR5 := Lib.hid (HRc.out.trans (Rd.of hb5)); have HB5 := Lib.hid (HBc.out.trans (hb5.mono HBc.out.size)); clear hb5 m5 x5)
        try (refine ⟨trivial, ?_⟩; gi_wp2)
        exact ⟨(((HR5.out.set hS4 _).set hS1 _).set hS2 _).from hSB, (((HR5.out.set hS4 _).set hS1 _).set hS2 _).kp hSU (by omega), _, _, _, _, HN.out, (HM5.out.lvl h14 h24 h34 lv).next h12 h23 h14 h24 (max d lv) (max (d : Int) lv) (by omega), ((HB5.out.setCell (p := ⟨u4, 0, none⟩) (by simp only; omega) _).setCell (p := ⟨u1, 0, none⟩) (by simp only; omega) _).setCell (p := ⟨u2, 0, none⟩) (by simp only; omega) _, Nat.le_trans hsz (((HR5.out.set hS4 _).set hS1 _).set hS2 _).size⟩
    ·have ha1 : (0 : Int) < (a : Int) := by omega
     have ha2 : 0 < a := by omega
     by_cases hs : s = 512
     ·have hs1 : (s : Int) = 512 := by omega
      have HN := Lib.hid (show msr ((pre ++ [(⟨⟨.mk ⟨4, nn, vk, vn, vs, tb, cl⟩ l', A', cap', lv⟩, ok⟩ : NdS w.heap.size W0)]).map ndp) = none by rw [List.map_append, List.map_cons, List.map_nil, msr_snoc, Hms.out]; exact mstep_bad (.inl hs))
      gi_wp2_with ((try refine ⟨trivial, ?_⟩); gi_at_call 115; refine (CallsIn.inRound l (callsIn_wide.2 (HF.out _ HBc.out))).mono ?_; rintro e W5 ⟨rfl, hb5⟩; have m5 := HM.out.kept hb5; obtain ⟨⟨k1, g1⟩, ⟨k2, g2⟩, ⟨k3, g3⟩, k4, g4⟩ := m5.cells; have x5 := (hb5.block Bx HXl.out).trans HXb.out; have y0 := (cell8 x5).1.1; have HM5 := Lib.hid m5; have HR5 := Lib.hid (HRc.out.trans (Rd.of hb5)); have HB5 := Lib.hid (HBc.out.trans (hb5.mono HBc.out.size)); clear hb5 m5 x5)
      try (refine ⟨trivial, ?_⟩; gi_wp2)
      refine ⟨?_, rfl, HN.out, ?_, ?_⟩
      ·first
        | exact (((HR5.out.set hS1 _).set hS2 _).set hS3 _).from hSB
        | exact (((HRc.out.set hS1 _).set hS2 _).set hS3 _).from hSB
      ·first
        | exact ⟨_, HM5.out.zero h12 h23 h34⟩
        | exact ⟨_, HM.out.zero h12 h23 h34⟩
      ·first
        | exact ((HB5.out.setCell (p := ⟨u1, 0, none⟩) (by simp only; omega) _).setCell (p := ⟨u2, 0, none⟩) (by simp only; omega) _).setCell (p := ⟨u3, 0, none⟩) (by simp only; omega) _
        | exact ((HBc.out.setCell (p := ⟨u1, 0, none⟩) (by simp only; omega) _).setCell (p := ⟨u2, 0, none⟩) (by simp only; omega) _).setCell (p := ⟨u3, 0, none⟩) (by simp only; omega) _
     ·have hs1 : ¬ (s : Int) = 512 := by omega
      by_cases hl : 32 < lv
      ·have hl1 : (32 : Int) < (lv : Int) := by omega
       have HN := Lib.hid (show msr ((pre ++ [(⟨⟨.mk ⟨4, nn, vk, vn, vs, tb, cl⟩ l', A', cap', lv⟩, ok⟩ : NdS w.heap.size W0)]).map ndp) = none by rw [List.map_append, List.map_cons, List.map_nil, msr_snoc, Hms.out]; exact mstep_bad (.inr (.inl hl)))
       gi_wp2_with ((try refine ⟨trivial, ?_⟩); gi_at_call 115; refine (CallsIn.inRound l (callsIn_wide.2 (HF.out _ HBc.out))).mono ?_; rintro e W5 ⟨rfl, hb5⟩; have m5 := HM.out.kept hb5; obtain ⟨⟨k1, g1⟩, ⟨k2, g2⟩, ⟨k3, g3⟩, k4, g4⟩ := m5.cells; have x5 := (hb5.block Bx HXl.out).trans HXb.out; have y0 := (cell8 x5).1.1; have HM5 := Lib.hid m5; have HR5 := Lib.hid (HRc.out.trans (Rd.of hb5)); have HB5 := Lib.hid (HBc.out.trans (hb5.mono HBc.out.size)); clear hb5 m5 x5)
       try (refine ⟨trivial, ?_⟩; gi_wp2)
       refine ⟨?_, rfl, HN.out, ?_, ?_⟩
       ·first
         | exact (((HR5.out.set hS1 _).set hS2 _).set hS3 _).from hSB
         | exact (((HRc.out.set hS1 _).set hS2 _).set hS3 _).from hSB
       ·first
         | exact ⟨_, HM5.out.zero h12 h23 h34⟩
         | exact ⟨_, HM.out.zero h12 h23 h34⟩
       ·first
         | exact ((HB5.out.setCell (p := ⟨u1, 0, none⟩) (by simp only; omega) _).setCell (p := ⟨u2, 0, none⟩) (by simp only; omega) _).setCell (p := ⟨u3, 0, none⟩) (by simp only; omega) _
         | exact ((HBc.out.setCell (p := ⟨u1, 0, none⟩) (by simp only; omega) _).setCell (p := ⟨u2, 0, none⟩) (by simp only; omega) _).setCell (p := ⟨u3, 0, none⟩) (by simp only; omega) _
      ·have hl1 : ¬ (32 : Int) < (lv : Int) := by omega
       have HN := Lib.hid (show msr ((pre ++ [(⟨⟨.mk ⟨4, nn, vk, vn, vs, tb, cl⟩ l', A', cap', lv⟩, ok⟩ : NdS w.heap.size W0)]).map ndp) = none by rw [List.map_append, List.map_cons, List.map_nil, msr_snoc, Hms.out]; exact mstep_bad (.inr (.inr (.inl ⟨rfl, by unfold aggl; rw [if_neg hla]; exact ha2⟩))))
       gi_wp2_with ((try refine ⟨trivial, ?_⟩); gi_at_call 115; refine (CallsIn.inRound l (callsIn_wide.2 (HF.out _ HBc.out))).mono ?_; rintro e W5 ⟨rfl, hb5⟩; have m5 := HM.out.kept hb5; obtain ⟨⟨k1, g1⟩, ⟨k2, g2⟩, ⟨k3, g3⟩, k4, g4⟩ := m5.cells; have x5 := (hb5.block Bx HXl.out).trans HXb.out; have y0 := (cell8 x5).1.1; have HM5 := Lib.hid m5; have HR5 := Lib.hid (HRc.out.trans (Rd.of hb5)); have HB5 := Lib.hid (HBc.out.trans (hb5.mono HBc.out.size)); clear hb5 m5 x5)
       try (refine ⟨trivial, ?_⟩; gi_wp2)
       refine ⟨?_, rfl, HN.out, ?_, ?_⟩
       ·first
         | exact (((HR5.out.set hS1 _).set hS2 _).set hS3 _).from hSB
         | exact (((HRc.out.set hS1 _).set hS2 _).set hS3 _).from hSB
       ·first
         | exact ⟨_, HM5.out.zero h12 h23 h34⟩
         | exact ⟨_, HM.out.zero h12 h23 h34⟩
       ·first
         | exact ((HB5.out.setCell (p := ⟨u1, 0, none⟩) (by simp only; omega) _).setCell (p := ⟨u2, 0, none⟩) (by simp only; omega) _).setCell (p := ⟨u3, 0, none⟩) (by simp only; omega) _
         | exact ((HBc.out.setCell (p := ⟨u1, 0, none⟩) (by simp only; omega) _).setCell (p := ⟨u2, 0, none⟩) (by simp only; omega) _).setCell (p := ⟨u3, 0, none⟩) (by simp only; omega) _
   ·by_cases hs : s = 512
    ·have hs1 : (s : Int) = 512 := by omega
     have HN := Lib.hid (show msr ((pre ++ [(⟨⟨.mk ⟨kk, nn, vk, vn, vs, tb, cl⟩ l', A', cap', lv⟩, ok⟩ : NdS w.heap.size W0)]).map ndp) = none by rw [List.map_append, List.map_cons, List.map_nil, msr_snoc, Hms.out]; exact mstep_bad (.inl hs))
     gi_wp2_with ((try refine ⟨trivial, ?_⟩); gi_at_call 115; refine (CallsIn.inRound l (callsIn_wide.2 (HF.out _ HBc.out))).mono ?_; rintro e W5 ⟨rfl, hb5⟩; have m5 := HM.out.kept hb5; obtain ⟨⟨k1, g1⟩, ⟨k2, g2⟩, ⟨k3, g3⟩, k4, g4⟩ := m5.cells; have x5 := (hb5.block Bx HXl.out).trans HXb.out; have y0 := (cell8 x5).1.1; have HM5 := Lib.hid m5; have HR5 := Lib.hid (HRc.out.trans (Rd.of hb5)); have HB5 := Lib.hid (HBc.out.trans (hb5.mono HBc.out.size)); clear hb5 m5 x5)
     try (refine ⟨trivial, ?_⟩; gi_wp2)
     refine ⟨?_, rfl, HN.out, ?_, ?_⟩
     ·first
       | exact (((HR5.out.set hS1 _).set hS2 _).set hS3 _).from hSB
       | exact (((HRc.out.set hS1 _).set hS2 _).set hS3 _).from hSB
     ·first
       | exact ⟨_, HM5.out.zero h12 h23 h34⟩
       | exact ⟨_, HM.out.zero h12 h23 h34⟩
     ·first
       | exact ((HB5.out.setCell (p := ⟨u1, 0, none⟩) (by simp only; omega) _).setCell (p := ⟨u2, 0, none⟩) (by simp only; omega) _).setCell (p := ⟨u3, 0, none⟩) (by simp only; omega) _
       | exact ((HBc.out.setCell (p := ⟨u1, 0, none⟩) (by simp only; omega) _).setCell (p := ⟨u2, 0, none⟩) (by simp only; omega) _).setCell (p := ⟨u3, 0, none⟩) (by simp only; omega) _
    ·have hs1 : ¬ (s : Int) = 512 := by omega
     by_cases hl : 32 < lv
     ·have hl1 : (32 : Int) < (lv : Int) := by omega
      have HN := Lib.hid (show msr ((pre ++ [(⟨⟨.mk ⟨kk, nn, vk, vn, vs, tb, cl⟩ l', A', cap', lv⟩, ok⟩ : NdS w.heap.size W0)]).map ndp) = none by rw [List.map_append, List.map_cons, List.map_nil, msr_snoc, Hms.out]; exact mstep_bad (.inr (.inl hl)))
      gi_wp2_with ((try refine ⟨trivial, ?_⟩); gi_at_call 115; refine (CallsIn.inRound l (callsIn_wide.2 (HF.out _ HBc.out))).mono ?_; rintro e W5 ⟨rfl, hb5⟩; have m5 := HM.out.kept hb5; obtain ⟨⟨k1, g1⟩, ⟨k2, g2⟩, ⟨k3, g3⟩, k4, g4⟩ := m5.cells; have x5 := (hb5.block Bx HXl.out).trans HXb.out; have y0 := (cell8 x5).1.1; have HM5 := Lib.hid m5; have HR5 := Lib.hid (HRc.out.trans (Rd.of hb5)); have HB5 := Lib.hid (HBc.out.trans (hb5.mono HBc.out.size)); clear hb5 m5 x5)
      try (refine ⟨trivial, ?_⟩; gi_wp2)
      refine ⟨?_, rfl, HN.out, ?_, ?_⟩
      ·first
        | exact (((HR5.out.set hS1 _).set hS2 _).set hS3 _).from hSB
        | exact (((HRc.out.set hS1 _).set hS2 _).set hS3 _).from hSB
      ·first
        | exact ⟨_, HM5.out.zero h12 h23 h34⟩
        | exact ⟨_, HM.out.zero h12 h23 h34⟩
      ·first
        | exact ((HB5.out.setCell (p := ⟨u1, 0, none⟩) (by simp only; omega) _).setCell (p := ⟨u2, 0, none⟩) (by simp only; omega) _).setCell (p := ⟨u3, 0, none⟩) (by simp only; omega) _
        | exact ((HBc.out.setCell (p := ⟨u1, 0, none⟩) (by simp only; omega) _).setCell (p := ⟨u2, 0, none⟩) (by simp only; omega) _).setCell (p := ⟨u3, 0, none⟩) (by simp only; omega) _
     ·have hl1 : ¬ (32 : Int) < (lv : Int) := by omega
      cases hft : bf
      ·have HFt := Lib.hid (Hbf.out.trans hft)
       subst hft
       have HN := Lib.hid (show msr ((pre ++ [(⟨⟨.mk ⟨kk, nn, vk, vn, vs, tb, cl⟩ l', A', cap', lv⟩, ok⟩ : NdS w.heap.size W0)]).map ndp) = none by rw [List.map_append, List.map_cons, List.map_nil, msr_snoc, Hms.out]; exact mstep_bad (.inr (.inr (.inr HFt.out))))
       gi_wp2_with ((try refine ⟨trivial, ?_⟩); gi_at_call 115; refine (CallsIn.inRound l (callsIn_wide.2 (HF.out _ HBc.out))).mono ?_; rintro e W5 ⟨rfl, hb5⟩; have m5 := HM.out.kept hb5; obtain ⟨⟨k1, g1⟩, ⟨k2, g2⟩, ⟨k3, g3⟩, k4, g4⟩ := m5.cells; have x5 := (hb5.block Bx HXl.out).trans HXb.out; have y0 := (cell8 x5).1.1; have HM5 := Lib.hid m5; have HR5 := Lib.hid (HRc.out.trans (Rd.of hb5)); have HB5 := Lib.hid (HBc.out.trans (hb5.mono HBc.out.size)); clear hb5 m5 x5)
       try (refine ⟨trivial, ?_⟩; gi_wp2)
       refine ⟨?_, rfl, HN.out, ?_, ?_⟩
       ·first
         | exact (((HR5.out.set hS1 _).set hS2 _).set hS3 _).from hSB
         | exact (((HRc.out.set hS1 _).set hS2 _).set hS3 _).from hSB
       ·first
         | exact ⟨_, HM5.out.zero h12 h23 h34⟩
         | exact ⟨_, HM.out.zero h12 h23 h34⟩
       ·first
         | exact ((HB5.out.setCell (p := ⟨u1, 0, none⟩) (by simp only; omega) _).setCell (p := ⟨u2, 0, none⟩) (by simp only; omega) _).setCell (p := ⟨u3, 0, none⟩) (by simp only; omega) _
         | exact ((HBc.out.setCell (p := ⟨u1, 0, none⟩) (by simp only; omega) _).setCell (p := ⟨u2, 0, none⟩) (by simp only; omega) _).setCell (p := ⟨u3, 0, none⟩) (by simp only; omega) _
      ·have HFt := Lib.hid (Hbf.out.trans hft)
       subst hft
       have HN := Lib.hid (show msr ((pre ++ [(⟨⟨.mk ⟨kk, nn, vk, vn, vs, tb, cl⟩ l', A', cap', lv⟩, ok⟩ : NdS w.heap.size W0)]).map ndp) = some (a, s + 1, (max d lv)) by rw [List.map_append, List.map_cons, List.map_nil, msr_snoc, Hms.out]; exact mstep_on hk4 hs hl HFt.out rfl (by unfold aggl; first | rw [if_pos hla] | rw [if_neg hla]))
       gi_wp2_with ((try refine ⟨trivial, ?_⟩); gi_at_call 115; refine (CallsIn.inRound l (callsIn_wide.2 (HF.out _ HBc.out))).mono ?_; rintro e W5 ⟨rfl, hb5⟩; have m5 := HM.out.kept hb5; obtain ⟨⟨k1, g1⟩, ⟨k2, g2⟩, ⟨k3, g3⟩, k4, g4⟩ := m5.cells; have x5 := (hb5.block Bx HXl.out).trans HXb.out; have y0 := (cell8 x5).1.1; have HM5 := Lib.hid m5; have HR5 := Lib.hid (HRc.out.trans (Rd.of hb5)); have HB5 := Lib.hid (HBc.out.trans (hb5.mono HBc.out.size)); clear hb5 m5 x5)
       try (refine ⟨trivial, ?_⟩; gi_wp2)
       exact ⟨((HR5.out.set hS1 _).set hS2 _).from hSB, ((HR5.out.set hS1 _).set hS2 _).kp hSU (by omega), _, _, _, _, HN.out, HM5.out.next h12 h23 h14 h24 (max d lv) (max (d : Int) lv) (by omega), (HB5.out.setCell (p := ⟨u1, 0, none⟩) (by simp only; omega) _).setCell (p := ⟨u2, 0, none⟩) (by simp only; omega) _, Nat.le_trans hsz ((HR5.out.set hS1 _).set hS2 _).size⟩
 case done =>
  rintro D ys W hD hys ⟨a, s, d, b, h1, h2, h3, h4⟩ hK
  obtain ⟨⟨k1, g1⟩, ⟨k2, g2⟩, ⟨k3, g3⟩, k4, g4⟩ := h2.cells
  have hz := h2.ends h12 h23 h34
  have hR := (((Rd.refl S W).set (j := 0) hS1 (.int .i64 s)).set (j := 0) hS2 (.int .i64 d)).set (j := 0) hS3 (.bool true)
  have hKD := (hR.block D (Array.getElem?_eq_some_iff.1 hK).1 (fun e => by have := hSB D e; omega)).trans hK
  have HE := Lib.hid (measV_some (x := .mk h lk) (by rw [← hys]; exact h1))
  have HBl := Lib.hid (h3.trans (hR.below (n₀ := w.heap.size) hSU (by omega)))
  clear hR hK
  gi_wp2
  gi_region
  all_goals gi_wp2
  refine ⟨by simp, .inl ⟨_, _, rfl, run_takeDeferred hKD, ?_⟩⟩
  obtain ⟨q1, q2, q3⟩ := (show MB u1 u2 u3 u4 (((W.setCell ⟨u1, 0, none⟩ (.int .i64 s)).setCell ⟨u2, 0, none⟩ (.int .i64 d)).setCell ⟨u3, 0, none⟩ (.bool true)).drew s d a true from ⟨hz.s, hz.d, hz.b, hz.a⟩).put' (o' := .deferred none) hKD rfl
  refine ⟨measV (.mk h lk), ?_, rfl, ?_⟩
  ·rw [HE.out]; simp [results, Tryz.results62, go_sem, q1, q2, q3]
  ·exact (Below.drew HBl.out).trans (belowK_b (w := w) (Nat.le_refl _) _ D _ _ (by omega) hKD rfl rfl)
 case stop =>
  rintro D c pre W hD hSp ⟨rfl, h1, ⟨a, h2⟩, h3⟩ hK
  have HE := Lib.hid (measV_none (x := .mk h lk) (msr_pre hSp h1))
  gi_wp2
  refine ⟨by simp, .inl ⟨_, _, rfl, run_takeDeferred hK, ?_⟩⟩
  obtain ⟨q1, q2, q3⟩ := h2.put' (o' := .deferred none) hK rfl
  refine ⟨measV (.mk h lk), ?_, rfl, ?_⟩
  ·rw [HE.out]; simp [results, Tryz.results62, go_sem, q1, q2, q3]
  ·exact h3.trans (belowK_b (w := w) (Nat.le_refl _) _ D _ _ (by omega) hK rfl rfl)
end Go.Proofs.YtfjimoccliejdaaGreatDoor
end
section
namespace Go.Proofs.YtfjimoccliejdaaGreatDoor
open Go.RowKit Go.Shelf
attribute [local go_sem] Oper.semAt_some

def chkI (x : Ex) : Int := if (measO x).isSome then 0 else 100
theorem xcheck_any (h : Hd) (lk : List Ex) (A : Option Addr) (cap : Nat) (w : World) (hX : XsAt w.heap.size w lk A) (hcap : lk.length ≤ cap) (hsm : AllSm (.mk h lk)) (hc : cnt (.mk h lk) ≤ 999999) (hT : Tabs w) :
  Calls Tryz.prog 30 #[XV h A lk.length cap] w fun e w' => e = .returned (.int .i64 (chkI (.mk h lk))) ∧ Below w.heap.size w w' := by
 have HC := Lib.hid (measure_any h lk A cap (w.alloc (xbox h A lk.length cap)) (hX.next (ba w _)) hcap hsm hc (hT.kept (ba w _)))
 have HB := Lib.hid (ba w (xbox h A lk.length cap))
 clear hX hT
 cases hm : measO (.mk h lk) with
 | none =>
  have HV := Lib.hid (show measV (.mk h lk) = .tuple #[.int .i64 0, .int .i64 0, .bool false] by simp [measV, hm])
  have HM := Lib.hid hm
  rw [HV.out] at HC
  clear hm
  go_enter Tryz.func30, Tryz.ntmps30
  go_wp2_with fail
  refine HC.out.mono ?_
  rintro e w1 ⟨rfl, hb⟩
  have HB2 := Lib.hid (bt HB.out hb)
  clear hb
  go_wp2_with fail
  go_ret
  exact ⟨by simp [chkI, HM.out], HB2.out⟩
 | some sd =>
  obtain ⟨s, d⟩ := sd
  have HV := Lib.hid (show measV (.mk h lk) = .tuple #[.int .i64 s, .int .i64 d, .bool true] by simp [measV, hm])
  have HM := Lib.hid hm
  rw [HV.out] at HC
  clear hm
  go_enter Tryz.func30, Tryz.ntmps30
  go_wp2_with fail
  refine HC.out.mono ?_
  rintro e w1 ⟨rfl, hb⟩
  have HB2 := Lib.hid (bt HB.out hb)
  clear hb
  go_wp2_with fail
  go_ret
  exact ⟨by simp [chkI, HM.out], HB2.out⟩

end Go.Proofs.YtfjimoccliejdaaGreatDoor
end
section
namespace Go.Proofs.YtfjimoccliejdaaGreatDoor
open Go.RowKit Go.Shelf

def noDef (ops : Array Oper) : Bool := ops.all fun o => match o.op with | .defer _ => false | _ => true
theorem noDef_at {ops : Array Oper} (h : noDef ops = true) {i : Nat} {o : Oper} (ho : ops[i]? = some o) : ∀ c, o.op ≠ .defer c := by
 intro c hc
 have := Array.all_eq_true_iff_forall_mem.1 h o (Array.mem_of_getElem? ho)
 rw [hc] at this
 cases this
theorem upon_in {l n : Nat} {P : Program} {o : Oper} {a : Act} {K : Act → World → Prop} {Q : Exit → Act → World → Prop} {r : Result Next} (h : o.upon P a K Q r) : o.uponIn (Fence.wide.inRound l) n P a K Q r := by
 cases r with
 | ok x w =>
  cases x with
  | value v => exact h
  | skip => exact h
  | «defer» d => exact h
  | enter f args => exact ⟨(fun e => by cases e), CallsIn.inRound l (callsIn_wide.2 h)⟩
  | row row args =>
   refine ⟨(fun e => by cases e), fun c cs _ => ?_⟩
   obtain ⟨v, w', hv, hs⟩ := h c cs
   exact ⟨v, w', hv, stepsIn_wide.2 hs⟩
  | _ => exact absurd h id
 | halt x w =>
  cases x with
  | panic v => exact h
  | _ => exact absurd h id
theorem wpOp_in {l n : Nat} {P : Program} {ops : Array Oper} {Q : Exit → Act → World → Prop} {i : Nat} {K : Act → World → Prop} {a : Act} {w : World} (hd : noDef ops = true) (hq : ¬ LetsOut Q) (h : wpOp P ops Q i K a w) :
  wpOpIn (Fence.wide.inRound l) n P ops Q i K a w := by
 unfold wpOp at h
 unfold wpOpIn
 cases ho : ops[i]? with
 | none => rw [ho] at h; exact h
 | some o =>
  rw [ho] at h
  simp only at h ⊢
  split
  ·rename_i hw
   rw [if_pos hw] at h
   rcases h with h | ⟨_, hl⟩
   ·refine ⟨fun _ _ => trivial, ?_⟩
    rw [Oper.semAt_eq _ _ _ (noDef_at hd ho)]
    exact upon_in h
   ·exact absurd hl hq
  ·rename_i hw
   rw [if_neg hw] at h
   exact ⟨fun _ _ => trivial, h⟩
theorem wpAny_in {l n : Nat} {P : Program} {md : Region.Mode} {ops : Array Oper} {Q : Exit → Act → World → Prop} (hd : noDef ops = true) (hq : ¬ LetsOut Q) : ∀ (fuel : Nat) (listed : Array Bool) (a : Act) (w : World), wpAny P md ops Q fuel listed a w → wpAnyIn (Fence.wide.inRound l) n P md ops Q fuel listed a w := by
 intro fuel
 induction fuel with
 | zero => intro listed a w h; exact h
 | succ fuel ih =>
  intro listed a w h
  exact ⟨h.1, fun i hi => wpOpIn_mono (fun a w => ih _ a w) (wpOp_in hd hq (h.2 i hi))⟩
theorem wpIn_held {l n : Nat} {P : Program} {id : Nat} {ops : Array Oper} {Q : Exit → Act → World → Prop} {S : World → Prop} {a : Act} {w : World} (hm : P.follows .mixedOrders = true) (hd : noDef ops = true) (hq : ∀ a w, ¬ Q .outgrown a w) (hS : S w.drew)
  (h : S w.drew → wpAnyH P .any ops (NoPanic Q) S ops.size (Array.replicate ops.size false) a w.drew) : (Code.region id ops true).wpIn (Fence.wide.inRound l) n P Q a w :=
 Code.wpIn_mono NoPanic.imp (wpIn_region_any hm (wpAny_in (Q := NoPanic Q) hd (fun ⟨a, w, e⟩ => hq a w e) _ _ _ _ (wpAny_of_held _ _ _ _ (h hS))))
end Go.Proofs.YtfjimoccliejdaaGreatDoor
end
section
namespace Go.Proofs.YtfjimoccliejdaaGreatDoor
open Go.Lib

def dbl (l : List UInt8) : List UInt8 := l.flatMap fun c => if c = 39 then [39, 39] else [c]

theorem dbl_le (l : List UInt8) : (dbl l).length ≤ 2 * l.length := by
 induction l with
 | nil => simp [dbl]
 | cons b l ih =>
  have e : dbl (b :: l) = (if b = 39 then [39, 39] else [b]) ++ dbl l := rfl
  rw [e, List.length_append]
  split <;> simp <;> omega



end Go.Proofs.YtfjimoccliejdaaGreatDoor
end
section
namespace Go.Proofs.YtfjimoccliejdaaGreatDoor
open Go.RowKit Go.Shelf Go.Sort

abbrev qt : ByteArray := ⟨#[39]⟩

def showL (k n : Int) (s : ByteArray) : List UInt8 :=
 if okV k n s = true then
  (if k = 1 then (if n = 1 then [84, 82, 85, 69] else [70, 65, 76, 83, 69])
   else if k = 2 then Lib.itoa n else if k = 3 then 39 :: (dbl s.data.toList ++ [39]) else [78, 85, 76, 76])
 else [63]
def bstr (l : List UInt8) : ByteArray := ⟨l.toArray⟩


theorem ret_str {a b : ByteArray} (h : a = b) : Ending.returned (.string a) = .returned (.string b) := by rw [h]

end Go.Proofs.YtfjimoccliejdaaGreatDoor
end
