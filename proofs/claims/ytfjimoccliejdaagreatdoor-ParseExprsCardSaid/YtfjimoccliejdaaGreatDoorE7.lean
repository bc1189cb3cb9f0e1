/-
  The document's own tokens: numbers; a token.
-/
import Derived.Test.YtfjimoccliejdaaGreatDoorE6
import Derived.Orders
import Derived.Deep.RegionHeld3
import Derived.Conc.Own4
import Derived.Tactics2
import Derived.Laws.Tables
import Derived.Deep.MidRow
import Derived.Great.BuildSlice
import Derived.Deep.QuietTactic
import Derived.BigQuiet
section
namespace Go.Proofs.YtfjimoccliejdaaGreatDoor
section

def slotAt (ds : List (Option Tmp)) (a : Act) (k : Nat) : Value := match (ds[k]?).getD none with | some t => a.tmps.getD t undef | none => undef
theorem put_size (a : Act) (d : Option Tmp) (v : Value) : (a.put d v).tmps.size = a.tmps.size := by cases d <;> simp [Act.put]
theorem put_defers (a : Act) (d : Option Tmp) (v : Value) : (a.put d v).defers = a.defers := by cases d <;> rfl
theorem put_get (a : Act) (d : Option Tmp) (v : Value) (t : Nat) (h : d ≠ some t) : (a.put d v).tmps.getD t undef = a.tmps.getD t undef := by
 cases d with
 | none => rfl
 | some u =>
  have hu : u ≠ t := fun e => h (by rw [e])
  simp [Act.put, Array.getD_eq_getD_getElem?, hu]
theorem put_at (a : Act) (v : Value) (t : Nat) (h : t < a.tmps.size) : (a.put (some t) v).tmps.getD t undef = v := by
 simp [Act.put, Array.getD_eq_getD_getElem?, h]
def apartB : List (Option Tmp) → Nat → Bool
 | [], _ => true
 | none :: r, n => apartB r n
 | some t :: r, n => decide (t < n) && r.all (fun d => d != some t) && apartB r n
theorem apart_ne : ∀ (ds : List (Option Tmp)) (n i j t : Nat), apartB ds n = true → ds[i]? = some (some t) → ds[j]? = some (some t) → i = j
 | [], _, i, j, t, _, hi, _ => by simp at hi
 | d :: r, n, 0, 0, t, _, _, _ => rfl
 | d :: r, n, i + 1, j + 1, t, h, hi, hj => by
  have h' : apartB r n = true := by
   cases d with
   | none => simpa [apartB] using h
   | some u => simp only [apartB, Bool.and_eq_true] at h; exact h.2
  rw [apart_ne r n i j t h' (by simpa using hi) (by simpa using hj)]
 | d :: r, n, 0, j + 1, t, h, hi, hj => by
  simp only [List.getElem?_cons_zero, Option.some.injEq] at hi
  subst hi
  simp only [apartB, Bool.and_eq_true, List.all_eq_true] at h
  have := h.1.2 (some t) (List.mem_of_getElem? (by simpa using hj))
  simp at this
 | d :: r, n, i + 1, 0, t, h, hi, hj => by
  simp only [List.getElem?_cons_zero, Option.some.injEq] at hj
  subst hj
  simp only [apartB, Bool.and_eq_true, List.all_eq_true] at h
  have := h.1.2 (some t) (List.mem_of_getElem? (by simpa using hi))
  simp at this
theorem apart_lt : ∀ (ds : List (Option Tmp)) (n k t : Nat), apartB ds n = true → ds[k]? = some (some t) → t < n
 | [], _, k, t, _, hk => by simp at hk
 | d :: r, n, 0, t, h, hk => by
  simp only [List.getElem?_cons_zero, Option.some.injEq] at hk
  subst hk
  simp only [apartB, Bool.and_eq_true, decide_eq_true_eq] at h
  exact h.1.1
 | d :: r, n, k + 1, t, h, hk => by
  have h' : apartB r n = true := by
   cases d with
   | none => simpa [apartB] using h
   | some u => simp only [apartB, Bool.and_eq_true] at h; exact h.2
  exact apart_lt r n k t h' (by simpa using hk)

variable {P : Program} {ops : List Oper}
structure Inv (n : Nat) (ds : List (Option Tmp)) (need : List (List Nat)) (a0 : Act) (w0 : World) (R : World → World → Prop) (Gs : List (Value → World → Prop)) (listed : Array Bool) (a : Act) (w : World) : Prop where
 defers : a.defers = a0.defers
 size : a.tmps.size = a0.tmps.size
 lsize : listed.size = ds.length
 out : ∀ k, n ≤ k → listed.getD k false = false
 grow : R w0 w
 rest : ∀ t, (∀ k, k < n → listed.getD k false = true → ds[k]? ≠ some (some t)) → a.tmps.getD t undef = a0.tmps.getD t undef
 facts : ∀ k, k < n → listed.getD k false = true → (Gs.getD k (fun _ _ => True)) (slotAt ds a k) w
 clos : ∀ k, k < n → listed.getD k false = true → ∀ j ∈ need.getD k [], j < n ∧ listed.getD j false = true
def StepOk (P : Program) (ops : List Oper) (ds : List (Option Tmp)) (need : List (List Nat)) (a0 : Act) (w0 : World) (R : World → World → Prop) (Gs : List (Value → World → Prop)) (Q : Exit → Act → World → Prop) (i : Nat) (o : Oper) : Prop :=
 ∀ a w, a.tmps.size = a0.tmps.size → R w0 w → (∀ t, (∀ d ∈ ds, d ≠ some t) → a.tmps.getD t undef = a0.tmps.getD t undef) → (∀ j ∈ need.getD i [], (Gs.getD j (fun _ _ => True)) (slotAt ds a j) w) →
  (Region.wanted o (yielded ops.toArray a.tmps) = true ∧ o.wp P a w (fun a' w' => ∃ v, a' = a.put o.dst v ∧ R w w' ∧ (Gs.getD i (fun _ _ => True)) (if o.dst.isSome then v else undef) w') Q) ∨
  (Region.wanted o (yielded ops.toArray a.tmps) = false ∧ (Gs.getD i (fun _ _ => True)) undef w)
def Keeps (R : World → World → Prop) (g : Value → World → Prop) : Prop := ∀ v w w', R w w' → g v w → g v w'
def Each (P : Program) (ops : List Oper) (ds : List (Option Tmp)) (need : List (List Nat)) (a0 : Act) (w0 : World) (R : World → World → Prop) (Gs : List (Value → World → Prop)) (Q : Exit → Act → World → Prop) (n i : Nat) : Prop :=
 ∀ k, i ≤ k → k < n → Keeps R (Gs.getD k (fun _ _ => True)) ∧ ∀ o, ops[k]? = some o → StepOk P ops ds need a0 w0 R Gs Q k o
theorem Each.nil {ds need a0 w0 R Gs Q n} : Each P ops ds need a0 w0 R Gs Q n n := fun k h1 h2 => by omega
theorem Each.cons {ds need a0 w0 R Gs Q n} {i : Nat} {o : Oper} (ho : ops[i]? = some o) (hk : Keeps R (Gs.getD i (fun _ _ => True))) (hs : StepOk P ops ds need a0 w0 R Gs Q i o) (hr : Each P ops ds need a0 w0 R Gs Q n (i + 1)) : Each P ops ds need a0 w0 R Gs Q n i := by
 intro k h1 h2
 rcases Nat.lt_or_eq_of_le h1 with h | rfl
 ·exact hr k h h2
 ·refine ⟨hk, fun o' ho' => ?_⟩
  rw [ho] at ho'
  cases ho'
  exact hs
theorem getD_set_ne (l : Array Bool) {i k : Nat} (h : k ≠ i) : (l.setIfInBounds i true).getD k false = l.getD k false := by simp [Array.getD_eq_getD_getElem?, Ne.symm h]
theorem getD_set_eq (l : Array Bool) {i : Nat} (h : i < l.size) : (l.setIfInBounds i true).getD i false = true := by simp [Array.getD_eq_getD_getElem?, h]

theorem Inv.step {n : Nat} {ds : List (Option Tmp)} {need : List (List Nat)} {a0 : Act} {w0 : World} {R : World → World → Prop} {Gs : List (Value → World → Prop)} {listed : Array Bool} {a : Act} {w w' : World} {i : Nat} {d : Option Tmp} {v : Value}
  (h : Inv n ds need a0 w0 R Gs listed a w) (hn : n ≤ ds.length) (hap : apartB (ds.take n) a0.tmps.size = true) (hT : ∀ x y z, R x y → R y z → R x z) (hK : ∀ k, k < n → Keeps R (Gs.getD k (fun _ _ => True)))
  (hin : i < n) (hdi : ds[i]? = some d) (hneedi : ∀ j ∈ need.getD i [], j < n ∧ listed.getD j false = true) (hR : R w w') (hG : (Gs.getD i (fun _ _ => True)) (if d.isSome then v else undef) w') :
  Inv n ds need a0 w0 R Gs (listed.setIfInBounds i true) (a.put d v) w' := by
 have hls : i < listed.size := by rw [h.lsize]; omega
 have hdt : ∀ k, k < n → (ds.take n)[k]? = ds[k]? := fun k hk => by rw [List.getElem?_take, if_pos hk]
 refine ⟨by rw [put_defers]; exact h.defers, by rw [put_size]; exact h.size, by rw [Array.size_setIfInBounds]; exact h.lsize, fun k hk => ?_, hT _ _ _ h.grow hR, fun t ht => ?_, fun k hk hkl => ?_, fun k hk hkl j hj => ?_⟩
 ·rw [getD_set_ne _ (by omega)]; exact h.out k hk
 ·have hne : d ≠ some t := fun e => ht i hin (getD_set_eq _ hls) (by rw [hdi, e])
  rw [put_get _ _ _ _ hne]
  refine h.rest t fun k hk hkl => ht k hk ?_
  by_cases hki : k = i
  ·subst hki; exact getD_set_eq _ hls
  ·rw [getD_set_ne _ hki]; exact hkl
 ·by_cases hki : k = i
  ·subst hki
   have : slotAt ds (a.put d v) k = if d.isSome then v else undef := by
    unfold slotAt
    rw [hdi]
    simp only [Option.getD_some]
    cases hd : d with
    | none => rfl
    | some t =>
     simp only [Option.isSome_some, if_true]
     refine put_at _ _ _ ?_
     rw [h.size]
     exact apart_lt _ _ k t hap (by rw [hdt k hin, hdi, hd])
   rw [this]
   exact hG
  ·rw [getD_set_ne _ hki] at hkl
   have : slotAt ds (a.put d v) k = slotAt ds a k := by
    unfold slotAt
    cases hd : (ds[k]?).getD none with
    | none => rfl
    | some t =>
     refine put_get _ _ _ _ fun e => hki ?_
     have hk2 : ds[k]? = some (some t) := by
      cases hq : ds[k]? with
      | none => rw [hq] at hd; cases hd
      | some x => rw [hq] at hd; simp at hd; rw [hd]
     exact apart_ne _ _ k i t hap (by rw [hdt k hk]; exact hk2) (by rw [hdt i hin, hdi, e])
   rw [this]
   exact hK k hk _ _ _ hR (h.facts k hk hkl)
 ·have hj2 : j < n ∧ listed.getD j false = true := by
   by_cases hki : k = i
   ·subst hki; exact hneedi j hj
   ·rw [getD_set_ne _ hki] at hkl; exact h.clos k hk hkl j hj
  refine ⟨hj2.1, ?_⟩
  by_cases hji : j = i
  ·rw [hji]; exact getD_set_eq _ hls
  ·rw [getD_set_ne _ hji]; exact hj2.2
end
section
open Go.RowKit

abbrev Bel : World → World → Prop := fun x y => Below x.heap.size x y
variable {P : Program} {ops : List Oper} {ds : List (Option Tmp)} {need : List (List Nat)} {a0 : Act} {w0 : World} {R : World → World → Prop} {Gs : List (Value → World → Prop)} {Q : Exit → Act → World → Prop}
theorem StepOk.plain {i : Nat} {o : Oper} {g : Value → World → Prop} (hg : Gs.getD i (fun _ _ => True) = g) (hgd : o.guard = none) (hd : o.dst.isSome = true)
  (h : ∀ a w, a.tmps.size = a0.tmps.size → R w0 w → (∀ t, (∀ d ∈ ds, d ≠ some t) → a.tmps.getD t undef = a0.tmps.getD t undef) → (∀ j ∈ need.getD i [], (Gs.getD j (fun _ _ => True)) (slotAt ds a j) w) →
   o.wp P a w (fun a' w' => ∃ v, a' = a.put o.dst v ∧ R w w' ∧ g v w') Q) : StepOk P ops ds need a0 w0 R Gs Q i o := by
 intro a w h1 h2 h3 h4
 refine .inl ⟨by unfold Region.wanted; rw [hgd], Oper.wp_mono (fun a' w' ⟨v, e, r, hv⟩ => ⟨v, e, r, ?_⟩) (h a w h1 h2 h3 h4)⟩
 rw [hg, if_pos hd]
 exact hv
theorem Keeps.const (c : Value) : Keeps Bel (fun v _ => v = c) := fun _ _ _ _ h => h
section
variable {o : Oper} {a : Act} {w : World}
end
end
end Go.Proofs.YtfjimoccliejdaaGreatDoor
end
section
namespace Go.Proofs.YtfjimoccliejdaaGreatDoor
section
open Go.RowKit Go.Shelf
attribute [local go_sem] Oper.semAt_some

theorem columns_any (h : Hd) (lk : List Ex) (A : Option Addr) (cap : Nat) (w : World) (hX : XsAt w.heap.size w lk A) (hcap : lk.length ≤ cap) (hsm : AllSm (.mk h lk)) (hc : cnt (.mk h lk) ≤ 999999) (hT : Tabs w) :
  Calls Tryz.prog 152 #[XV h A lk.length cap] w (ListBack w (if okX (.mk h lk) = true then kndX 2 (.mk h lk) else [])) := by
 have hb0 := ba w (xbox h A lk.length cap)
 have HC := Lib.hid (pick2_any h lk A cap _ (XsAt.next hX hb0) hcap hsm hc (hT.kept hb0))
 have HX1 := Lib.hid (MapKept.heap_alloc w (xbox h A lk.length cap)).1
 obtain ⟨⟨y0, y1, y2, y3, y4, y5, y6, y7⟩, _⟩ := cell8 HX1.out
 have HB0 := Lib.hid hb0
 obtain ⟨L, hL⟩ : ∃ L, (if okX (.mk h lk) = true then kndX 2 (.mk h lk) else []) = L := ⟨_, rfl⟩
 rw [hL] at HC ⊢
 clear hX hT hb0 hsm hL
 go_enter Tryz.func152, Tryz.ntmps152
 go_wp2_with fail
 refine HC.out.mono ?_
 rintro e w1 ⟨A1, c1, rfl, hl, hx, hb⟩
 have HX := Lib.hid hx
 have HB := Lib.hid (bt HB0.out hb)
 clear hb hx
 go_wp2_with fail
 go_ret
 exact ⟨A1, c1, rfl, hl, HX.out, HB.out⟩
theorem aggs_any (h : Hd) (lk : List Ex) (A : Option Addr) (cap : Nat) (w : World) (hX : XsAt w.heap.size w lk A) (hcap : lk.length ≤ cap) (hsm : AllSm (.mk h lk)) (hc : cnt (.mk h lk) ≤ 999999) (hT : Tabs w) :
  Calls Tryz.prog 137 #[XV h A lk.length cap] w (ListBack w (if okX (.mk h lk) = true then kndX 4 (.mk h lk) else [])) := by
 have hb0 := ba w (xbox h A lk.length cap)
 have HC := Lib.hid (pick4_any h lk A cap _ (XsAt.next hX hb0) hcap hsm hc (hT.kept hb0))
 have HX1 := Lib.hid (MapKept.heap_alloc w (xbox h A lk.length cap)).1
 obtain ⟨⟨y0, y1, y2, y3, y4, y5, y6, y7⟩, _⟩ := cell8 HX1.out
 have HB0 := Lib.hid hb0
 obtain ⟨L, hL⟩ : ∃ L, (if okX (.mk h lk) = true then kndX 4 (.mk h lk) else []) = L := ⟨_, rfl⟩
 rw [hL] at HC ⊢
 clear hX hT hb0 hsm hL
 go_enter Tryz.func137, Tryz.ntmps137
 go_wp2_with fail
 refine HC.out.mono ?_
 rintro e w1 ⟨A1, c1, rfl, hl, hx, hb⟩
 have HX := Lib.hid hx
 have HB := Lib.hid (bt HB0.out hb)
 clear hb hx
 go_wp2_with fail
 go_ret
 exact ⟨A1, c1, rfl, hl, HX.out, HB.out⟩
end
section
open Go.RowKit Go.Shelf
attribute [local go_sem] Oper.semAt_some

def EV (x : Ex) (v : Value) (w : World) : Prop := ∃ A cap, v = XV x.hd A x.kids.length cap ∧ x.kids.length ≤ cap ∧ XsAt w.heap.size w x.kids A
def LV (l : List Ex) (v : Value) (w : World) : Prop := ∃ A cap, v = .slice A l.length cap ∧ l.length ≤ cap ∧ XsAt w.heap.size w l A
theorem EV.next {x : Ex} {v : Value} {w w' : World} (hb : Bel w w') (h : EV x v w) : EV x v w' := by
 obtain ⟨A, cap, e, hl, hx⟩ := h
 exact ⟨A, cap, e, hl, XsAt.next hx hb⟩
theorem LV.next {l : List Ex} {v : Value} {w w' : World} (hb : Bel w w') (h : LV l v w) : LV l v w' := by
 obtain ⟨A, cap, e, hl, hx⟩ := h
 exact ⟨A, cap, e, hl, XsAt.next hx hb⟩
theorem EV.leaf (h : Hd) (w : World) : EV (.mk h []) (XV h none 0 0) w := ⟨none, 0, rfl, Nat.le_refl _, by show XsB _ _ [] _; rw [XsB]; trivial⟩
theorem LV.nil (w : World) : LV [] (.slice none 0 0) w := ⟨none, 0, rfl, Nat.le_refl _, by rw [XsAt, XsB]; trivial⟩
theorem LV.ofBack {w w' : World} {l : List Ex} {e : Ending} (h : ListBack w l e w') : ∃ v, e = .returned v ∧ Bel w w' ∧ LV l v w' := by
 obtain ⟨A, cap, rfl, hl, hx, hb⟩ := h
 exact ⟨_, rfl, hb, A, cap, rfl, hl, hx⟩
theorem EV.ofCopy {w w' : World} {x : Ex} {e : Ending} (h : CopyE w x e w') : ∃ v, e = .returned v ∧ Bel w w' ∧ EV x v w' := by
 obtain ⟨A, cap, rfl, hl, hx, hb⟩ := h
 exact ⟨_, rfl, hb, A, cap, rfl, hl, XsB.go (fun _ _ => rfl) (fun k hk => hk.2) _ _ hx⟩

theorem ev_check {x : Ex} {v : Value} {w : World} (h : EV x v w) (hsm : AllSm x) (hc : cnt x ≤ 999999) (hT : Tabs w) {c : Int} (e : chkI x = c) :
  Calls Tryz.prog 30 #[v] w fun e w' => ∃ u, e = .returned u ∧ Bel w w' ∧ u = .int .i64 c := by
 obtain ⟨hd, l⟩ := x
 obtain ⟨A, cap, rfl, hl, hx⟩ := h
 refine (xcheck_any hd l A cap w hx hl hsm hc hT).mono ?_
 rintro _ w' ⟨rfl, hb⟩
 exact ⟨_, rfl, hb, by rw [e]⟩
theorem ev_columns {x : Ex} {v : Value} {w : World} (h : EV x v w) (hsm : AllSm x) (hc : cnt x ≤ 999999) (hT : Tabs w) :
  Calls Tryz.prog 152 #[v] w fun e w' => ∃ u, e = .returned u ∧ Bel w w' ∧ LV (if okX x = true then kndX 2 x else []) u w' := by
 obtain ⟨hd, l⟩ := x
 obtain ⟨A, cap, rfl, hl, hx⟩ := h
 exact (columns_any hd l A cap w hx hl hsm hc hT).mono fun _ _ h => LV.ofBack h
theorem ev_aggs {x : Ex} {v : Value} {w : World} (h : EV x v w) (hsm : AllSm x) (hc : cnt x ≤ 999999) (hT : Tabs w) :
  Calls Tryz.prog 137 #[v] w fun e w' => ∃ u, e = .returned u ∧ Bel w w' ∧ LV (if okX x = true then kndX 4 x else []) u w' := by
 obtain ⟨hd, l⟩ := x
 obtain ⟨A, cap, rfl, hl, hx⟩ := h
 exact (aggs_any hd l A cap w hx hl hsm hc hT).mono fun _ _ h => LV.ofBack h
theorem ev_same {x y : Ex} {v u : Value} {w : World} (h : EV x v w) (h' : EV y u w) (hc : cnt x ≤ 1000000) (hc' : cnt y ≤ 1000000) {c : Bool} (e : sameX x y = c) :
  Calls Tryz.prog 72 #[v, u] w fun e w' => ∃ u, e = .returned u ∧ Bel w w' ∧ u = .bool c := by
 obtain ⟨hd, l⟩ := x
 obtain ⟨hd', l'⟩ := y
 obtain ⟨A, cap, rfl, hl, hx⟩ := h
 obtain ⟨A', cap', rfl, hl', hx'⟩ := h'
 refine (xsame_any hd hd' l l' w A cap A' cap' hx hl hx' hl' hc hc').mono ?_
 rintro _ w' ⟨rfl, hb⟩
 exact ⟨_, rfl, hb, by rw [e]⟩
theorem ev_agg {n : Int} {l : List Ex} {v : Value} {w : World} (h : LV l v w) (hc : cntL l ≤ 1000000) :
  Calls Tryz.prog 182 #[.int .i64 n, v] w fun e w' => ∃ u, e = .returned u ∧ Bel w w' ∧ EV (.mk (hdA n) l) u w' := by
 obtain ⟨A, cap, rfl, hl, hx⟩ := h
 exact (agg_any n l w A cap hc hx).mono fun _ _ h => EV.ofCopy h
theorem ev_lit {k n : Int} {s : ByteArray} {w : World} :
  Calls Tryz.prog 169 #[VV k n s] w fun e w' => ∃ u, e = .returned u ∧ Bel w w' ∧ u = XV (hdL k n s) none 0 0 :=
 (lit_any k n s w).mono fun _ _ ⟨h1, h2⟩ => ⟨_, h1, h2, rfl⟩
theorem ev_column {t c : ByteArray} {w : World} :
  Calls Tryz.prog 130 #[.string t, .string c] w fun e w' => ∃ u, e = .returned u ∧ Bel w w' ∧ u = XV (hdC t c) none 0 0 :=
 (column_any t c w).mono fun _ _ ⟨h1, h2⟩ => ⟨_, h1, h2, rfl⟩
theorem ev_arity {n : Int} {w : World} {c : Int} (e : arI n = c) :
  Calls Tryz.prog 111 #[.int .i64 n] w fun e w' => ∃ u, e = .returned u ∧ Bel w w' ∧ u = .int .i64 c :=
 (arity_any n w).mono fun _ w' ⟨h1, h2⟩ => ⟨_, h1, by rw [h2]; exact Below.refl _ _, by rw [e]⟩

section
variable {o : Oper} {a : Act} {w : World}
theorem XC.range {g p : Nat} {h : Hd} {A : Option Addr} {len cap : Nat} (c : XC w g p h A len cap) : w.rangeAt g p [.int .i64 h.k, .int .i64 h.n, .int .i64 h.vk, .int .i64 h.vn, .string h.vs, .string h.tab, .string h.col, .slice A len cap] := by
 intro j v hj
 obtain ⟨c0, c1, c2, c3, c4, c5, c6, c7⟩ := c
 have hl : j < 8 := by have := (List.getElem?_eq_some_iff.1 hj).1; simpa using this
 rcases (show j = 0 ∨ j = 1 ∨ j = 2 ∨ j = 3 ∨ j = 4 ∨ j = 5 ∨ j = 6 ∨ j = 7 by omega) with rfl | rfl | rfl | rfl | rfl | rfl | rfl | rfl
 all_goals
  simp only [List.getElem?_cons_zero, List.getElem?_cons_succ, Option.some.injEq] at hj
  subst hj
  assumption
end
theorem LV.made {w : World} {l : List Ex} {q : List XQ} (hq : XRs (fun k => k < w.heap.size) w l q) : LV l (.slice (some ⟨w.heap.size, 0, none⟩) l.length l.length) (w.alloc (.cells (xcells q).toArray 37)) := by
 refine ⟨_, _, rfl, Nat.le_refl _, ?_⟩
 refine XRs.xsB (B := fun k => k < (w.alloc (.cells (xcells q).toArray 37)).heap.size) (by simp) (hq.go (fun k hk => (ba w _).block k hk) (fun k hk => by rw [World.size_alloc]; omega)) fun j u hj => ?_
 have hn := (MapKept.heap_alloc w (.cells (xcells q).toArray 37)).1
 rw [Nat.zero_add]
 unfold World.cell?
 rw [hn]
 simp [hj]
theorem EV.row {x : Ex} {v : Value} {w : World} (h : EV x v w) : ∃ A cap, v = XV x.hd A x.kids.length cap ∧ XR (fun k => k < w.heap.size) w x (x.hd, A, x.kids.length, cap) := by
 obtain ⟨A, cap, e, hl, hx⟩ := h
 exact ⟨A, cap, e, rfl, rfl, hl, hx⟩
end
end Go.Proofs.YtfjimoccliejdaaGreatDoor
end
section
namespace Go.Proofs.YtfjimoccliejdaaGreatDoor
open Go.RowKit Go.Shelf

structure ButM (m : Nat) (w w' : World) : Prop where
 os : w'.os = w.os
 tape : w'.tape = w.tape
 output : w'.output = w.output
 size : w.heap.size ≤ w'.heap.size
 block : ∀ k, k < w.heap.size → k ≠ m → w'.heap[k]? = w.heap[k]?
theorem ButM.refl (m : Nat) (w : World) : ButM m w w := ⟨rfl, rfl, rfl, Nat.le_refl _, fun _ _ _ => rfl⟩
theorem ButM.trans {m : Nat} {a b c : World} (h : ButM m a b) (k : ButM m b c) : ButM m a c :=
 ⟨k.os.trans h.os, k.tape.trans h.tape, k.output.trans h.output, Nat.le_trans h.size k.size, fun q hq hm => (k.block q (Nat.lt_of_lt_of_le hq h.size) hm).trans (h.block q hq hm)⟩
theorem ButM.of {m : Nat} {w w' : World} (h : Below w.heap.size w w') : ButM m w w' := ⟨h.os, h.tape, h.output, h.size, fun k hk _ => h.block k hk⟩
theorem ButM.below {m B : Nat} {w w' : World} (h : ButM m w w') (hB : B ≤ m) (hw : B ≤ w.heap.size) : Below B w w' := ⟨h.os, h.tape, h.output, h.size, fun k hk => h.block k (Nat.lt_of_lt_of_le hk hw) (by omega)⟩
abbrev rbox (A : Option Addr) (n c : Nat) (b : Bool) : Obj := .cells #[.slice A n c, .bool b] 86
def RdM (w : World) (m : Nat) (s : Pa.Ps) : Prop := ∃ A c, w.heap[m]? = some (rbox A s.ts.length c s.bad) ∧ TkAt w A s.ts ∧ s.ts.length ≤ c ∧ ∀ a, A = some a → a.block < m
theorem RdM.lt {w : World} {m : Nat} {s : Pa.Ps} (h : RdM w m s) : m < w.heap.size := by
 obtain ⟨A, c, h, _⟩ := h
 exact (Array.getElem?_eq_some_iff.1 h).1
theorem rcell {w : World} {m : Nat} {A : Option Addr} {n c : Nat} {b : Bool} (h : w.heap[m]? = some (rbox A n c b)) : w.cell? ⟨m, 0, none⟩ = some (.slice A n c) ∧ w.cell? ⟨m, 1, none⟩ = some (.bool b) := by
 refine ⟨?_, ?_⟩ <;> simp [World.cell?, h]
theorem RdM.next {w w' : World} {m : Nat} {s : Pa.Ps} (h : RdM w m s) (hb : Below w.heap.size w w') : RdM w' m s := by
 obtain ⟨A, c, h1, h2, h3⟩ := h
 exact ⟨A, c, (hb.block m (Array.getElem?_eq_some_iff.1 h1).1).trans h1, h2.kept hb, h3⟩
theorem RdM.low {w w' : World} {m : Nat} {s : Pa.Ps} (h : RdM w m s) (hb : ∀ k, k ≤ m → w'.heap[k]? = w.heap[k]?) : RdM w' m s := by
 obtain ⟨A, c, h1, h2, h3, h4⟩ := h
 refine ⟨A, c, (hb m (Nat.le_refl _)).trans h1, ?_, h3, h4⟩
 rcases h2 with h2 | ⟨g, off, rfl, h2⟩
 ·exact .inl h2
 ·have hg : g < m := h4 _ rfl
  exact .inr ⟨g, off, rfl, fun j u hj => (World.cell?_of_block (hb g (by omega))).trans (h2 j u hj)⟩
abbrev tkv (x : TkA) : Value := .agg #[.int .i64 x.1.k, .string ⟨x.1.s.toArray⟩, .int .i64 x.1.n, .int .i64 x.2]
theorem RdM.head {w : World} {m : Nat} {s : Pa.Ps} (h : RdM w m s) (hf : Pa.Fin s.ts) : ∃ x g off c, w.heap[m]? = some (rbox (some ⟨g, off, none⟩) s.ts.length c s.bad) ∧ s.ts.head? = some x ∧ s.tk = x.1 ∧ s.at = x.2 ∧ TC w g off x ∧ s.ts.length ≤ c ∧ 0 < s.ts.length := by
 obtain ⟨A, c, h1, h2, h3⟩ := h
 obtain ⟨ts, b⟩ := s
 have hn := hf.ne
 cases ts with
 | nil => simp at hn
 | cons x l =>
  obtain ⟨g, off, rfl, hc⟩ := h2.at (i := 0) (x := x) rfl
  exact ⟨x, g, off, c, h1, rfl, rfl, rfl, by simpa using hc, h3.1, hn⟩
end Go.Proofs.YtfjimoccliejdaaGreatDoor
end
section
namespace Go.Proofs.YtfjimoccliejdaaGreatDoor
open Go.RowKit Go.Shelf

set_option maxRecDepth 100000 in
theorem next_any (m : Nat) (s : Pa.Ps) (w : World) (h : RdM w m s) (hf : Pa.Fin s.ts) :
  Calls Tryz.prog 40 #[.pointer (some ⟨m, 0, none⟩)] w fun e w' => (∃ x, s.ts.head? = some x ∧ s.tk = x.1 ∧ s.at = x.2 ∧ e = .returned (tkv x)) ∧ Below w.heap.size w w' := by
 have hb := ba w (.cells #[.int .i64 0, .string ⟨#[]⟩, .int .i64 0, .int .i64 0] 66)
 have h' := h.next hb
 obtain ⟨x, g, off, c, h1, h2, h3, h4, ⟨c0, c1, c2, c3⟩, h5, h6⟩ := h'.head hf
 obtain ⟨r0, r1⟩ := rcell h1
 have hlen : (0 : Int) < (s.ts.length : Int) := by omega
 have HB := Lib.hid hb
 have HE := Lib.hid (show ∃ y, s.ts.head? = some y ∧ s.tk = y.1 ∧ s.at = y.2 ∧ tkv x = tkv y from ⟨x, h2, h3, h4, rfl⟩)
 clear h h' h1 h2 h3 h4 hb
 go_enter Tryz.func40, Tryz.ntmps40
 go_wp2_with fail
 refine bodyPost_ret (v := tkv x) (by simp [results, Tryz.results40, go_sem]) rfl ⟨?_, ba w _⟩
 obtain ⟨y, h1, h2, h3, h4⟩ := HE.out
 exact ⟨y, h1, h2, h3, by rw [h4]⟩
end Go.Proofs.YtfjimoccliejdaaGreatDoor
end
section
namespace Go.Proofs.YtfjimoccliejdaaGreatDoor
open Go.RowKit Go.Shelf

theorem isW_eq (x : TkA) (b : ByteArray) : Pa.isW (bs b) x.1 = ((x.1.s == b.toList) && (x.1.k == 2 || x.1.k == 5)) := by
 rw [ByteArray.toList_eq]; rfl
theorem int_k (n : Nat) (m : Nat) : ((n : Int) == (m : Int)) = (n == m) := by
 by_cases h : n = m
 ·subst h; simp
 ·rw [beq_eq_false_iff_ne.2 h, beq_eq_false_iff_ne]; omega
theorem takeF_any (x : TkA) (g : Nat) (b : ByteArray) (w : World) (hg : w.cell? ⟨g, 0, none⟩ = some (.string b)) :
  Calls Tryz.prog 84 #[tkv x, .pointer (some ⟨g, 0, none⟩)] w fun e w' => e = .returned (.bool (Pa.isW (bs b) x.1)) ∧ Below w.heap.size w w' := by
 have HB := Lib.hid (ba w (.cells #[.int .i64 x.1.k, .string ⟨x.1.s.toArray⟩, .int .i64 x.1.n, .int .i64 x.2] 66))
 have hg' := cell_kept HB.out hg
 rw [isW_eq]
 clear hg
 go_enter Tryz.func84, Tryz.ntmps84
 go_wp2_with fail
 ·rename_i h1 h2
  refine bodyPost_ret (v := .bool true) (by simp [results, Tryz.results84, go_sem]) rfl ⟨?_, ba w _⟩
  rw [h1, show x.1.k = 2 by omega]; simp
 ·rename_i h1 h2
  refine bodyPost_ret (v := .bool ((x.1.k : Int) == 2 || (x.1.k : Int) == 5)) (by simp [results, Tryz.results84, go_sem]) rfl ⟨?_, ba w _⟩
  rw [h1, show (2 : Int) = ((2 : Nat) : Int) from rfl, show (5 : Int) = ((5 : Nat) : Int) from rfl, int_k, int_k]; simp
 ·rename_i h1
  refine bodyPost_ret (v := .bool false) (by simp [results, Tryz.results84, go_sem]) rfl ⟨?_, ba w _⟩
  rw [beq_eq_false_iff_ne.2 h1]; simp
theorem kindF_any (x : TkA) (g : Nat) (k : Nat) (w : World) (hg : w.cell? ⟨g, 0, none⟩ = some (.int .i64 k)) :
  Calls Tryz.prog 131 #[tkv x, .pointer (some ⟨g, 0, none⟩)] w fun e w' => e = .returned (.bool (x.1.k == k)) ∧ Below w.heap.size w w' := by
 have HB := Lib.hid (ba w (.cells #[.int .i64 x.1.k, .string ⟨x.1.s.toArray⟩, .int .i64 x.1.n, .int .i64 x.2] 66))
 have hg' := cell_kept HB.out hg
 clear hg
 go_enter Tryz.func131, Tryz.ntmps131
 go_wp2_with fail
 refine bodyPost_ret (v := .bool ((x.1.k : Int) == (k : Int))) (by simp [results, Tryz.results131, go_sem]) rfl ⟨?_, ba w _⟩
 rw [int_k]
end Go.Proofs.YtfjimoccliejdaaGreatDoor
end
section
namespace Go.Proofs.YtfjimoccliejdaaGreatDoor
section
open Go.RowKit Go.Shelf

def nameL (l : Lx.B) : Bool := decide (1 ≤ l.length) && decide (l.length ≤ 24) && !((l.head?.map Lx.digit).getD false) && !Lx.key l && l.all Lx.wordy
theorem take_all (l : Lx.B) : (l.takeWhile Lx.wordy).length = l.length ↔ l.all Lx.wordy = true := by
 induction l with
 | nil => simp
 | cons c l ih =>
  cases hc : Lx.wordy c with
  | true => simp [hc, ih]
  | false => simp [hc]
theorem take_eq {l : Lx.B} (h : l.all Lx.wordy = true) : l.takeWhile Lx.wordy = l := by
 have := Lx.takeWhile_take Lx.wordy l
 rw [(take_all l).2 h, List.take_length] at this
 exact this.symm
theorem isName_eq (s : ByteArray) : isName s = nameL (bs s) := by
 have hl : (bs s).length = s.size := by simp
 unfold isName
 cases hb : bs s with
 | nil => simp [Lx.cut, nameL]
 | cons c r =>
  rw [hb] at hl
  rw [Lx.cut]
  by_cases h1 : Lx.letter c = true
  ·have hd : Lx.digit c = false := by
    cases h : Lx.digit c with
    | false => rfl
    | true => rw [Lx.digit_letter h] at h1; cases h1
   rw [if_pos h1, Lx.cutWord]
   cases ha : (c :: r).all Lx.wordy with
   | true =>
    rw [take_eq ha]
    unfold nameL
    rw [ha]
    by_cases h24 : 24 < (c :: r).length
    ·rw [if_pos h24]
     have : decide ((c :: r).length ≤ 24) = false := decide_eq_false (by omega)
     rw [this, Bool.and_false]; rfl
    ·rw [if_neg h24]
     have h25 : decide ((c :: r).length ≤ 24) = true := decide_eq_true (by omega)
     have h26 : decide (1 ≤ (c :: r).length) = true := by simp
     rw [h25, h26]
     cases hk : Lx.key (c :: r) with
     | true => simp
     | false => simp [hd, ← hl]
   | false =>
    have hne : ¬ ((c :: r).takeWhile Lx.wordy).length = s.size := fun e => by
     have := (take_all (c :: r)).1 (by rw [e, hl])
     rw [ha] at this; cases this
    unfold nameL
    rw [ha, Bool.and_false]
    split
    ·rename_i t z e
     split at e
     ·cases e
     ·simp only [Option.some.injEq, Prod.mk.injEq] at e
      rw [← e.2]
      simp only [hne, decide_false, Bool.and_false]
    ·rfl
  ·rw [if_neg h1]
   by_cases h2 : Lx.digit c = true
   ·rw [if_pos h2, Lx.cutNum]
    have : nameL (c :: r) = false := by simp [nameL, h2]
    rw [this]
    split
    ·rename_i t z e
     split at e
     ·cases e
     ·split at e
      ·cases e
      ·simp only [Option.some.injEq, Prod.mk.injEq] at e
       rw [← e.1]; rfl
    ·rfl
   ·rw [if_neg h2]
    have hw : Lx.wordy c = false := by simp [Lx.wordy, h1, h2]
    have : nameL (c :: r) = false := by simp [nameL, hw]
    rw [this]
    split
    ·rename_i t z e
     split at e
     ·rw [Lx.cutText] at e
      simp only [Option.map_eq_some_iff] at e
      obtain ⟨_, _, e⟩ := e
      simp only [Prod.mk.injEq] at e
      rw [← e.1]; rfl
     ·rw [Lx.cutSign] at e
      simp only [Option.map_eq_some_iff] at e
      obtain ⟨_, _, e⟩ := e
      simp only [Prod.mk.injEq] at e
      rw [← e.1]; rfl
    ·rfl
theorem refLetter_any (c : UInt8) (w : World) :
  Calls Tryz.prog 86 #[.int .u8 c.toNat] w fun e w' => e = .returned (.bool (Lx.letter c)) ∧ w' = w := by
 have hc : ∀ n : Nat, (c = UInt8.ofNat n) → n < 256 → (c.toNat = n) := by rintro n rfl h; simp; omega
 have hl : Lx.letter c = decide (c.toNat = 95 ∨ (97 ≤ c.toNat ∧ c.toNat ≤ 122) ∨ (65 ≤ c.toNat ∧ c.toNat ≤ 90)) := by
  unfold Lx.letter
  congr 1
  rw [← UInt8.toNat_inj]; rfl
 rw [hl]
 generalize c.toNat = m
 clear hc hl
 go_enter Tryz.func86, Tryz.ntmps86
 go_wp2
 all_goals
  go_ret
  exact ⟨ret_bool (by first | rfl | (rw [Bool.eq_iff_iff]; simp; done) | (rw [Bool.eq_iff_iff]; simp; omega)), rfl⟩
theorem refDigit_any (c : UInt8) (w : World) :
  Calls Tryz.prog 87 #[.int .u8 c.toNat] w fun e w' => e = .returned (.bool (Lx.digit c)) ∧ w' = w := by
 unfold Lx.digit
 generalize c.toNat = m
 go_enter Tryz.func87, Tryz.ntmps87
 go_wp2
 all_goals
  go_ret
  exact ⟨ret_bool (by first | rfl | (rw [Bool.eq_iff_iff]; simp; done) | (rw [Bool.eq_iff_iff]; simp; omega)), rfl⟩
def keyCells : Array Value := (Lx.keys.map fun b => Value.string ⟨b.toArray⟩).toArray
theorem refKeys_any (w : World) :
  Calls Tryz.prog 132 #[] w fun e w' => e = .returned (.slice (some ⟨w.heap.size, 0, none⟩) 28 28) ∧ w' = w.alloc (.cells keyCells 9) := by
 go_enter Tryz.func132, Tryz.ntmps132
 go_wp2
 go_ret
 exact ⟨rfl, congrArg (fun c => w.alloc (.cells c 9)) (by kernel_rfl)⟩
theorem keyCells_at (w : World) {j : Nat} {b : Lx.B} (h : Lx.keys[j]? = some b) : (w.alloc (.cells keyCells 9)).cell? ⟨w.heap.size, j, none⟩ = some (.string ⟨b.toArray⟩) := by
 have hn := (MapKept.heap_alloc w (.cells keyCells 9)).1
 unfold World.cell?
 rw [hn]
 simp [keyCells, h]
set_option maxHeartbeats 1000000 in
theorem refKey_any (s : ByteArray) (w : World) :
  Calls Tryz.prog 90 #[.string s] w fun e w' => e = .returned (.bool (Lx.key (bs s))) ∧ Below w.heap.size w w' := by
 go_enter Tryz.func90, Tryz.ntmps90
 go_wp2_with fail
 refine (refKeys_any _).mono ?_
 rintro e w1 ⟨rfl, hw1⟩
 have HK := Lib.hid (fun j b (h : Lx.keys[j]? = some b) => (by rw [hw1]; exact keyCells_at w h : w1.cell? ⟨w.heap.size, j, none⟩ = some (.string ⟨b.toArray⟩)))
 have HB := Lib.hid (by rw [hw1]; exact ba w _ : Below w.heap.size w w1)
 have hsz : w1.heap.size = w.heap.size + 1 := by rw [hw1, World.size_alloc]
 clear hw1
 go_wp2_with fail
 go_loop [4] (fun i => ∃ k : Nat, k ≤ 28 ∧ i = .int .i64 k ∧ Hid (∀ j b, j < k → Lx.keys[j]? = some b → b ≠ bs s)) (fun i => 28 - (intOf i).toNat)
 case atStart => exact ⟨0, Nat.zero_le _, rfl, Lib.hid (fun j c h => absurd h (by omega))⟩
 case round =>
  obtain ⟨k, hk, rfl, HA⟩ := hrel
  by_cases hlt : k < 28
  ·obtain ⟨b, hb⟩ : ∃ b, Lx.keys[k]? = some b := ⟨_, List.getElem?_eq_getElem (by rw [keys_len]; exact hlt)⟩
   have hc := HK.out k b hb
   have HBb := Lib.hid hb
   have hq : ((⟨b.toArray⟩ : ByteArray).toList == s.toList) = (b == bs s) := tl_bs _ _
   clear hb
   generalize (⟨b.toArray⟩ : ByteArray) = kb at hc hq
   cases he : b == bs s
   ·rw [he] at hq
    go_wp2_with fail
    go_round
    case rel =>
     refine ⟨k + 1, by omega, by go_num, Lib.hid (fun j x hj hx => ?_)⟩
     rcases Nat.lt_or_ge j k with h | h
     ·exact HA.out j x h hx
     ·obtain rfl : j = k := by omega
      rw [HBb.out] at hx; obtain rfl := Option.some.inj hx; simpa using he
    case measure => simp [intOf]; omega
   ·rw [he] at hq
    go_wp2_with fail
    go_ret
    refine ⟨ret_b ?_, HB.out⟩
    obtain rfl : b = bs s := by simpa using he
    symm; rw [Lx.key, List.contains_iff_mem]
    exact List.mem_of_getElem? HBb.out
  ·go_wp2_with fail
   go_ret
   refine ⟨ret_b ?_, HB.out⟩
   symm; rw [Lx.key, Bool.eq_false_iff]
   intro h
   rw [List.contains_iff_mem] at h
   obtain ⟨j, hj⟩ := List.getElem?_of_mem h
   have : j < 28 := by have := (List.getElem?_eq_some_iff.1 hj).1; rw [keys_len] at this; exact this
   exact HA.out j _ (by omega) hj rfl
theorem all_take {l : Lx.B} {k : Nat} (h : ∀ j c, j < k → l[j]? = some c → Lx.wordy c = true) (hk : l.length ≤ k) : l.all Lx.wordy = true := by
 rw [List.all_eq_true]
 intro c hc
 obtain ⟨j, hj⟩ := List.getElem?_of_mem hc
 exact h j c (by have := (List.getElem?_eq_some_iff.1 hj).1; omega) hj
set_option maxHeartbeats 2000000 in
theorem refName_any (s : ByteArray) (w : World) (hs : s.size ≤ 9223372036854775807) :
  Calls Tryz.prog 55 #[.string s] w fun e w' => e = .returned (.bool (isName s)) ∧ Below w.heap.size w w' := by
 rw [isName_eq]
 have hL : (bs s).length = s.size := bs_len s
 by_cases z1 : s.size < 1
 ·have y1 : (s.size : Int) < 1 := by omega
  have HN := Lib.hid (show nameL (bs s) = false by unfold nameL; rw [decide_eq_false (by omega)]; simp)
  go_enter Tryz.func55, Tryz.ntmps55
  go_wp2_with fail
  go_ret
  exact ⟨ret_b HN.out.symm, Below.refl _ _⟩
 ·have y1 : ¬ (s.size : Int) < 1 := by omega
  by_cases z2 : 24 < s.size
  ·have y2 : (24 : Int) < (s.size : Int) := by omega
   have HN := Lib.hid (show nameL (bs s) = false by unfold nameL; rw [decide_eq_false (p := (bs s).length ≤ 24) (by omega)]; simp)
   go_enter Tryz.func55, Tryz.ntmps55
   go_wp2_with fail
   go_ret
   exact ⟨ret_b HN.out.symm, Below.refl _ _⟩
  ·have y2 : ¬ (24 : Int) < (s.size : Int) := by omega
   have h0 := bs_get s 0 (by omega)
   have hh : (bs s).head? = some s[0] := by rw [← List.head?_eq_getElem?] at h0; exact h0
   have HN := Lib.hid (show nameL (bs s) = (!Lx.digit s[0] && !Lx.key (bs s) && (bs s).all Lx.wordy) by
    unfold nameL; rw [decide_eq_true (by omega), decide_eq_true (by omega), hh]; simp)
   have z3 : 0 < s.size := by omega
   obtain ⟨c0, hc0⟩ : ∃ c, s[0] = c := ⟨_, rfl⟩
   have HD := Lib.hid (fun w1 => refDigit_any s[0] w1)
   obtain ⟨bd, hbd⟩ : ∃ b, Lx.digit s[0] = b := ⟨_, rfl⟩
   rw [hbd] at HN HD
   clear hbd h0 hh hc0
   cases bd
   ·obtain ⟨bk, hbk⟩ : ∃ b, Lx.key (bs s) = b := ⟨_, rfl⟩
    have HK := Lib.hid (refKey_any s w)
    rw [hbk] at HN HK
    clear hbk
    cases bk
    ·go_enter Tryz.func55, Tryz.ntmps55
     go_wp2_with fail
     refine (HD.out _).mono ?_
     rintro e w1 ⟨rfl, rfl⟩
     go_wp2_with fail
     refine HK.out.mono ?_
     rintro e w1 ⟨rfl, hb1⟩
     have HB1 := Lib.hid hb1
     clear hb1
     go_wp2_with fail
     go_loop [3] (fun i => ∃ k : Nat, k ≤ s.size ∧ i = .int .i64 k ∧ Hid (∀ j c, j < k → (bs s)[j]? = some c → Lx.wordy c = true)) (fun i => s.size - (intOf i).toNat)
     case atStart => exact ⟨0, Nat.zero_le _, rfl, Lib.hid (fun j c h => absurd h (by omega))⟩
     case round =>
      obtain ⟨k, hk, rfl, HA⟩ := hrel
      by_cases hlt : k < s.size
      ·have HG := Lib.hid (bs_get s k hlt)
       have HNo := Lib.hid (show Lx.wordy s[k] = false → nameL (bs s) = false from fun e => by
        rw [HN.out]
        have : (bs s).all Lx.wordy = false := by
         rw [← Bool.not_eq_true, List.all_eq_true]
         intro h
         have := h s[k] (List.mem_of_getElem? (bs_get s k hlt))
         rw [e] at this; cases this
        rw [this]; simp)
       have HL := Lib.hid (fun w1 => refLetter_any s[k] w1)
       have HD2 := Lib.hid (fun w1 => refDigit_any s[k] w1)
       have HW := Lib.hid (show Lx.wordy s[k] = (Lx.letter s[k] || Lx.digit s[k]) from rfl)
       obtain ⟨bl, hbl⟩ : ∃ b, Lx.letter s[k] = b := ⟨_, rfl⟩
       obtain ⟨b2, hb2⟩ : ∃ b, Lx.digit s[k] = b := ⟨_, rfl⟩
       rw [hbl] at HL
       rw [hb2] at HD2
       rw [hbl, hb2] at HW
       clear hbl hb2
       have next : (bl || b2) = true → Hid (∀ j c, j < k + 1 → (bs s)[j]? = some c → Lx.wordy c = true) := fun hw => Lib.hid (fun j c hj hc => by
        rcases Nat.lt_or_ge j k with h | h
        ·exact HA.out j c h hc
        ·obtain rfl : j = k := by omega
         rw [HG.out] at hc; obtain rfl := Option.some.inj hc
         rw [HW.out, hw])
       cases bl
       ·go_wp2_with fail
        refine (HL.out _).mono ?_
        rintro e w2 ⟨rfl, rfl⟩
        go_wp2_with fail
        refine (HD2.out _).mono ?_
        rintro e w2 ⟨rfl, rfl⟩
        cases b2
        ·go_wp2_with fail
         go_ret
         exact ⟨ret_b (HNo.out HW.out).symm, HB1.out⟩
        ·go_wp2_with fail
         go_round
         case rel => exact ⟨k + 1, by omega, by go_num, next rfl⟩
         case measure => simp [intOf]; omega
       ·go_wp2_with fail
        refine (HL.out _).mono ?_
        rintro e w2 ⟨rfl, rfl⟩
        go_wp2_with fail
        go_round
        case rel => exact ⟨k + 1, by omega, by go_num, next rfl⟩
        case measure => simp [intOf]; omega
      ·have HY := Lib.hid (show nameL (bs s) = true by rw [HN.out, all_take HA.out (by omega)]; rfl)
       go_wp2_with fail
       go_ret
       exact ⟨ret_b HY.out.symm, HB1.out⟩
    ·go_enter Tryz.func55, Tryz.ntmps55
     go_wp2_with fail
     refine (HD.out _).mono ?_
     rintro e w1 ⟨rfl, rfl⟩
     go_wp2_with fail
     refine HK.out.mono ?_
     rintro e w1 ⟨rfl, hb1⟩
     go_wp2_with fail
     go_ret
     exact ⟨ret_b (by rw [HN.out]; rfl), hb1⟩
   ·go_enter Tryz.func55, Tryz.ntmps55
    go_wp2_with fail
    refine (HD.out _).mono ?_
    rintro e w1 ⟨rfl, rfl⟩
    go_wp2_with fail
    go_ret
    exact ⟨ret_b (by rw [HN.out]; rfl), Below.refl _ _⟩
end
section
open Go.RowKit Go.Shelf

def oneB (h : Hd) (len : Nat) (ag : Bool) : Bool := !(h.k == 4 && ag) && fitsB h len
theorem two8 {w w1 : World} {a0 a1 a2 a3 a4 a5 a6 a7 b0 b1 b2 : Value} {T T' : TypeId} (hb : Below ((w.alloc (.cells #[a0, a1, a2, a3, a4, a5, a6, a7] T)).alloc (.cells #[b0, b1, b2] T')).heap.size ((w.alloc (.cells #[a0, a1, a2, a3, a4, a5, a6, a7] T)).alloc (.cells #[b0, b1, b2] T')) w1) :
  (w1.cell? ⟨w.heap.size, 0, none⟩ = some a0 ∧ w1.cell? ⟨w.heap.size, 1, none⟩ = some a1 ∧ w1.cell? ⟨w.heap.size, 2, none⟩ = some a2 ∧ w1.cell? ⟨w.heap.size, 3, none⟩ = some a3 ∧
  w1.cell? ⟨w.heap.size, 4, none⟩ = some a4 ∧ w1.cell? ⟨w.heap.size, 5, none⟩ = some a5 ∧ w1.cell? ⟨w.heap.size, 6, none⟩ = some a6 ∧ w1.cell? ⟨w.heap.size, 7, none⟩ = some a7) := by
 have h1 := ((hb.block w.heap.size (by rw [World.size_alloc, World.size_alloc]; omega)).trans ((ba (w.alloc (.cells #[a0, a1, a2, a3, a4, a5, a6, a7] T)) (.cells #[b0, b1, b2] T')).block w.heap.size (by rw [World.size_alloc]; omega))).trans (MapKept.heap_alloc w (.cells #[a0, a1, a2, a3, a4, a5, a6, a7] T)).1
 exact (cell8 h1).1
end
section
open Go.RowKit Go.Shelf

set_option maxRecDepth 100000 in
set_option maxHeartbeats 16000000 in
theorem one_1 (h : Hd) (A : Option Addr) (len cap : Nat) (ag : Bool) (w : World) (hs : Sm h) (hk : h.k = 1) :
  Calls Tryz.prog 117 #[XV h A len cap, .bool ag] w fun e w' => e = .returned (.bool (oneB h len ag)) ∧ Below w.heap.size w w' := by
 obtain ⟨k, n, vk, vn, vs, tab, col⟩ := h
 obtain ⟨ht, hc, hv⟩ := hs
 simp only at ht hc hv
 obtain ⟨bO, hbO⟩ : ∃ b, okV vk vn vs = b := ⟨_, rfl⟩
 obtain ⟨bK, hbK⟩ : ∃ b, isName col = b := ⟨_, rfl⟩
 obtain ⟨bJ, hbJ⟩ : ∃ b, isName tab = b := ⟨_, rfl⟩
 have HO := Lib.hid (fun w1 => refCheck_any vk vn vs w1 (by omega))
 have HC := Lib.hid (fun w1 => refName_any col w1 (by omega))
 have HTb := Lib.hid (fun w1 => refName_any tab w1 (by omega))
 rw [hbO] at HO
 rw [hbK] at HC
 rw [hbJ] at HTb
 have hq := fun w1 => run_eqV vk vn vs 0 0 ⟨#[]⟩ w1
 obtain ⟨bT, hbT⟩ : ∃ b, tab.toList.isEmpty = b := ⟨_, rfl⟩
 obtain ⟨bC, hbC⟩ : ∃ b, col.toList.isEmpty = b := ⟨_, rfl⟩
 obtain ⟨bV, hbV⟩ : ∃ b, eqV vk vn vs 0 0 ⟨#[]⟩ = b := ⟨_, rfl⟩
 rw [hbV] at hq
 have HN := Lib.hid (show namelessB ⟨k, n, vk, vn, vs, tab, col⟩ = (bT && bC) by rw [namelessB, hbT, hbC])
 have HV := Lib.hid (show valuelessB ⟨k, n, vk, vn, vs, tab, col⟩ = bV from hbV)
 have HBx := Lib.hid (ba2 w (xbox ⟨k, n, vk, vn, vs, tab, col⟩ A len cap) (.cells #[.int .i64 0, .int .i64 0, .string ⟨#[]⟩] 34))
 have HF := Lib.hid (show oneB ⟨k, n, vk, vn, vs, tab, col⟩ len ag =
   (!(k == 4 && ag) && (if k = 1 then (bO && (vk != 2 || decide (0 ≤ vn))) && n == 0 && (bT && bC) && (len : Int) == 0
   else if k = 2 then (bK && (bT || bJ)) && decide (0 ≤ n) && decide (n < 32) && bV && (len : Int) == 0
   else if k = 3 then decide (0 < arI n) && ((len : Int) == arI n) && (bT && bC) && bV
   else if k = 4 then aggB n len && (bT && bC) && bV else false)) by
  unfold oneB fitsB; rw [HN.out, HV.out]; simp only [litB, colB, hbO, hbK, hbJ, hbT])
 clear hbV hv hbO hbK hbJ HN HV ht hc
 simp only at hk
 have h1 := hk
 clear hk
 subst h1
 simp only [if_true] at HF
 cases bT <;> cases bC <;> cases bO
 all_goals
  go_enter Tryz.func117, Tryz.ntmps117
  go_wp2_with (go_at_call 66; refine (HO.out _).mono ?_; rintro e w1 ⟨rfl, hb1⟩; obtain ⟨c0, c1, c2, c3, c4, c5, c6, c7⟩ := two8 hb1; have HB1 := Lib.hid (bt (ba2 w _ _) hb1); clear hb1)
  all_goals
   go_ret
   first
    | exact ⟨ret_bool (by rw [HF.out]; simp_all <;> (intros; omega)), HB1.out⟩
    | exact ⟨ret_bool (by rw [HF.out]; simp_all <;> (intros; omega)), ba2 w _ _⟩
end
section
open Go.RowKit Go.Shelf

set_option maxRecDepth 100000 in
set_option maxHeartbeats 16000000 in
theorem one_2 (h : Hd) (A : Option Addr) (len cap : Nat) (ag : Bool) (w : World) (hs : Sm h) (hk : h.k = 2) :
  Calls Tryz.prog 117 #[XV h A len cap, .bool ag] w fun e w' => e = .returned (.bool (oneB h len ag)) ∧ Below w.heap.size w w' := by
 obtain ⟨k, n, vk, vn, vs, tab, col⟩ := h
 obtain ⟨ht, hc, hv⟩ := hs
 simp only at ht hc hv
 obtain ⟨bO, hbO⟩ : ∃ b, okV vk vn vs = b := ⟨_, rfl⟩
 obtain ⟨bK, hbK⟩ : ∃ b, isName col = b := ⟨_, rfl⟩
 obtain ⟨bJ, hbJ⟩ : ∃ b, isName tab = b := ⟨_, rfl⟩
 have HO := Lib.hid (fun w1 => refCheck_any vk vn vs w1 (by omega))
 have HC := Lib.hid (fun w1 => refName_any col w1 (by omega))
 have HTb := Lib.hid (fun w1 => refName_any tab w1 (by omega))
 rw [hbO] at HO
 rw [hbK] at HC
 rw [hbJ] at HTb
 have hq := fun w1 => run_eqV vk vn vs 0 0 ⟨#[]⟩ w1
 obtain ⟨bT, hbT⟩ : ∃ b, tab.toList.isEmpty = b := ⟨_, rfl⟩
 obtain ⟨bC, hbC⟩ : ∃ b, col.toList.isEmpty = b := ⟨_, rfl⟩
 obtain ⟨bV, hbV⟩ : ∃ b, eqV vk vn vs 0 0 ⟨#[]⟩ = b := ⟨_, rfl⟩
 rw [hbV] at hq
 have HN := Lib.hid (show namelessB ⟨k, n, vk, vn, vs, tab, col⟩ = (bT && bC) by rw [namelessB, hbT, hbC])
 have HV := Lib.hid (show valuelessB ⟨k, n, vk, vn, vs, tab, col⟩ = bV from hbV)
 have HBx := Lib.hid (ba2 w (xbox ⟨k, n, vk, vn, vs, tab, col⟩ A len cap) (.cells #[.int .i64 0, .int .i64 0, .string ⟨#[]⟩] 34))
 have HF := Lib.hid (show oneB ⟨k, n, vk, vn, vs, tab, col⟩ len ag =
   (!(k == 4 && ag) && (if k = 1 then (bO && (vk != 2 || decide (0 ≤ vn))) && n == 0 && (bT && bC) && (len : Int) == 0
   else if k = 2 then (bK && (bT || bJ)) && decide (0 ≤ n) && decide (n < 32) && bV && (len : Int) == 0
   else if k = 3 then decide (0 < arI n) && ((len : Int) == arI n) && (bT && bC) && bV
   else if k = 4 then aggB n len && (bT && bC) && bV else false)) by
  unfold oneB fitsB; rw [HN.out, HV.out]; simp only [litB, colB, hbO, hbK, hbJ, hbT])
 clear hbV hv hbO hbK hbJ HN HV ht hc
 simp only at hk
 have h2 := hk
 clear hk
 rw [if_neg (by omega)] at HF
 subst h2
 simp only [if_true] at HF
 by_cases q1 : 0 ≤ n
 ·by_cases q2 : n < 32
  ·cases bV
   ·go_enter Tryz.func117, Tryz.ntmps117
    go_wp2_with fail
    go_ret
    exact ⟨ret_bool (by rw [HF.out]; simp_all <;> (intros; omega)), by first | exact HBx.out | exact ba2 w _ _⟩
   ·by_cases q4 : (len : Int) = 0
    ·have q4b : ((len : Int) == 0) = true := by simpa using q4
     cases bK
     ·go_enter Tryz.func117, Tryz.ntmps117
      go_wp2_with fail
      refine (HC.out _).mono ?_
      rintro e w1 ⟨rfl, hb1⟩
      have HB1 := Lib.hid (bt (ba2 w _ _) hb1)
      obtain ⟨c0, c1, c2, c3, c4, c5, c6, c7⟩ := two8 hb1
      clear hb1
      go_wp2_with fail
      go_ret
      exact ⟨ret_bool (by rw [HF.out]; simp_all <;> (intros; omega)), HB1.out⟩
     ·cases bT
      ·go_enter Tryz.func117, Tryz.ntmps117
       go_wp2_with fail
       refine (HC.out _).mono ?_
       rintro e w1 ⟨rfl, hb1⟩
       have HB1 := Lib.hid (bt (ba2 w _ _) hb1)
       obtain ⟨c0, c1, c2, c3, c4, c5, c6, c7⟩ := two8 hb1
       clear hb1
       go_wp2_with fail
       refine (HTb.out _).mono ?_
       rintro e w2 ⟨rfl, hb2⟩
       have HB2 := Lib.hid (bt HB1.out hb2)
       clear hb2
       go_wp2_with fail
       go_ret
       exact ⟨ret_bool (by rw [HF.out]; simp_all <;> (intros; omega)), HB2.out⟩
      ·go_enter Tryz.func117, Tryz.ntmps117
       go_wp2_with fail
       refine (HC.out _).mono ?_
       rintro e w1 ⟨rfl, hb1⟩
       have HB1 := Lib.hid (bt (ba2 w _ _) hb1)
       obtain ⟨c0, c1, c2, c3, c4, c5, c6, c7⟩ := two8 hb1
       clear hb1
       go_wp2_with fail
       go_ret
       exact ⟨ret_bool (by rw [HF.out]; simp_all <;> (intros; omega)), HB1.out⟩
    ·have q4b : ((len : Int) == 0) = false := by simpa using q4
     go_enter Tryz.func117, Tryz.ntmps117
     go_wp2_with fail
     go_ret
     exact ⟨ret_bool (by rw [HF.out]; simp_all <;> (intros; omega)), by first | exact HBx.out | exact ba2 w _ _⟩
  ·go_enter Tryz.func117, Tryz.ntmps117
   go_wp2_with fail
   go_ret
   exact ⟨ret_bool (by rw [HF.out]; simp_all <;> (intros; omega)), by first | exact HBx.out | exact ba2 w _ _⟩
 ·go_enter Tryz.func117, Tryz.ntmps117
  go_wp2_with fail
  go_ret
  exact ⟨ret_bool (by rw [HF.out]; simp_all <;> (intros; omega)), by first | exact HBx.out | exact ba2 w _ _⟩
end
section
open Go.RowKit Go.Shelf

set_option maxRecDepth 100000 in
set_option maxHeartbeats 16000000 in
theorem one_3 (h : Hd) (A : Option Addr) (len cap : Nat) (ag : Bool) (w : World) (hs : Sm h) (hl : len ≤ 9223372036854775807) (hk : h.k = 3) :
  Calls Tryz.prog 117 #[XV h A len cap, .bool ag] w fun e w' => e = .returned (.bool (oneB h len ag)) ∧ Below w.heap.size w w' := by
 obtain ⟨k, n, vk, vn, vs, tab, col⟩ := h
 obtain ⟨ht, hc, hv⟩ := hs
 simp only at ht hc hv
 obtain ⟨bO, hbO⟩ : ∃ b, okV vk vn vs = b := ⟨_, rfl⟩
 obtain ⟨bK, hbK⟩ : ∃ b, isName col = b := ⟨_, rfl⟩
 obtain ⟨bJ, hbJ⟩ : ∃ b, isName tab = b := ⟨_, rfl⟩
 have HO := Lib.hid (fun w1 => refCheck_any vk vn vs w1 (by omega))
 have HC := Lib.hid (fun w1 => refName_any col w1 (by omega))
 have HTb := Lib.hid (fun w1 => refName_any tab w1 (by omega))
 rw [hbO] at HO
 rw [hbK] at HC
 rw [hbJ] at HTb
 have hq := fun w1 => run_eqV vk vn vs 0 0 ⟨#[]⟩ w1
 obtain ⟨bT, hbT⟩ : ∃ b, tab.toList.isEmpty = b := ⟨_, rfl⟩
 obtain ⟨bC, hbC⟩ : ∃ b, col.toList.isEmpty = b := ⟨_, rfl⟩
 obtain ⟨bV, hbV⟩ : ∃ b, eqV vk vn vs 0 0 ⟨#[]⟩ = b := ⟨_, rfl⟩
 rw [hbV] at hq
 have HN := Lib.hid (show namelessB ⟨k, n, vk, vn, vs, tab, col⟩ = (bT && bC) by rw [namelessB, hbT, hbC])
 have HV := Lib.hid (show valuelessB ⟨k, n, vk, vn, vs, tab, col⟩ = bV from hbV)
 have HBx := Lib.hid (ba2 w (xbox ⟨k, n, vk, vn, vs, tab, col⟩ A len cap) (.cells #[.int .i64 0, .int .i64 0, .string ⟨#[]⟩] 34))
 have HF := Lib.hid (show oneB ⟨k, n, vk, vn, vs, tab, col⟩ len ag =
   (!(k == 4 && ag) && (if k = 1 then (bO && (vk != 2 || decide (0 ≤ vn))) && n == 0 && (bT && bC) && (len : Int) == 0
   else if k = 2 then (bK && (bT || bJ)) && decide (0 ≤ n) && decide (n < 32) && bV && (len : Int) == 0
   else if k = 3 then decide (0 < arI n) && ((len : Int) == arI n) && (bT && bC) && bV
   else if k = 4 then aggB n len && (bT && bC) && bV else false)) by
  unfold oneB fitsB; rw [HN.out, HV.out]; simp only [litB, colB, hbO, hbK, hbJ, hbT])
 clear hbV hv hbO hbK hbJ HN HV ht hc
 simp only at hk
 have h3 := hk
 clear hk
 rw [if_neg (by omega), if_neg (by omega)] at HF
 subst h3
 simp only [if_true] at HF
 obtain ⟨a, ha⟩ : ∃ a, arI n = a := ⟨_, rfl⟩
 have HAr := Lib.hid (fun w1 => refArity_any n w1)
 rw [ha] at HF HAr
 clear ha
 rcases (show bV = false ∨ (bV = true ∧ bT = false) ∨ (bV = true ∧ bT = true ∧ bC = false) ∨ (bV = true ∧ bT = true ∧ bC = true) by cases bV <;> cases bT <;> cases bC <;> simp) with hx | ⟨hx, hy⟩ | ⟨hx, hy, hz⟩ | ⟨hx, hy, hz⟩
 all_goals
  subst hx
  try subst hy
  try subst hz
 iterate 3
  (go_enter Tryz.func117, Tryz.ntmps117
   go_wp2_with fail
   go_quiet ((go_at_call 146; exact Calls.quiet_of_same (HAr.out _)))
   go_wp2_with fail
   go_ret
   exact ⟨ret_bool (by rw [HF.out]; simp), bt HBx.out (drNE _ _)⟩)
 by_cases hp : 0 < a
 ·by_cases hla : (len : Int) = a
  ·subst hla
   have hpn : 0 < len := by omega
   have hpd : decide (0 < len) = true := by simpa using hpn
   go_enter Tryz.func117, Tryz.ntmps117
   go_wp2_with fail
   go_quiet ((go_at_call 146; exact Calls.quiet_of_same (HAr.out _)))
   go_wp2_with fail
   go_ret
   exact ⟨ret_bool (by rw [HF.out]; simp_all <;> (intros; omega)), bt HBx.out (drNE _ _)⟩
  ·have hpb : decide (0 < a) = true := by simpa using hp
   have hlb : ((len : Int) == a) = false := by simpa using hla
   go_enter Tryz.func117, Tryz.ntmps117
   go_wp2_with fail
   go_quiet ((go_at_call 146; exact Calls.quiet_of_same (HAr.out _)))
   go_wp2_with fail
   go_ret
   exact ⟨ret_bool (by rw [HF.out]; simp_all <;> (intros; omega)), bt HBx.out (drNE _ _)⟩
 ·have hpb : decide (0 < a) = false := by simpa using hp
  go_enter Tryz.func117, Tryz.ntmps117
  go_wp2_with fail
  go_quiet ((go_at_call 146; exact Calls.quiet_of_same (HAr.out _)))
  go_wp2_with fail
  go_ret
  exact ⟨ret_bool (by rw [HF.out]; simp_all <;> (intros; omega)), bt HBx.out (drNE _ _)⟩
end
section
open Go.RowKit Go.Shelf

set_option maxRecDepth 100000 in
set_option maxHeartbeats 16000000 in
theorem one_4 (h : Hd) (A : Option Addr) (len cap : Nat) (ag : Bool) (w : World) (hs : Sm h) (hl : len ≤ 9223372036854775807) (hk : h.k = 4) :
  Calls Tryz.prog 117 #[XV h A len cap, .bool ag] w fun e w' => e = .returned (.bool (oneB h len ag)) ∧ Below w.heap.size w w' := by
 obtain ⟨k, n, vk, vn, vs, tab, col⟩ := h
 obtain ⟨ht, hc, hv⟩ := hs
 simp only at ht hc hv
 obtain ⟨bO, hbO⟩ : ∃ b, okV vk vn vs = b := ⟨_, rfl⟩
 obtain ⟨bK, hbK⟩ : ∃ b, isName col = b := ⟨_, rfl⟩
 obtain ⟨bJ, hbJ⟩ : ∃ b, isName tab = b := ⟨_, rfl⟩
 have HO := Lib.hid (fun w1 => refCheck_any vk vn vs w1 (by omega))
 have HC := Lib.hid (fun w1 => refName_any col w1 (by omega))
 have HTb := Lib.hid (fun w1 => refName_any tab w1 (by omega))
 rw [hbO] at HO
 rw [hbK] at HC
 rw [hbJ] at HTb
 have hq := fun w1 => run_eqV vk vn vs 0 0 ⟨#[]⟩ w1
 obtain ⟨bT, hbT⟩ : ∃ b, tab.toList.isEmpty = b := ⟨_, rfl⟩
 obtain ⟨bC, hbC⟩ : ∃ b, col.toList.isEmpty = b := ⟨_, rfl⟩
 obtain ⟨bV, hbV⟩ : ∃ b, eqV vk vn vs 0 0 ⟨#[]⟩ = b := ⟨_, rfl⟩
 rw [hbV] at hq
 have HN := Lib.hid (show namelessB ⟨k, n, vk, vn, vs, tab, col⟩ = (bT && bC) by rw [namelessB, hbT, hbC])
 have HV := Lib.hid (show valuelessB ⟨k, n, vk, vn, vs, tab, col⟩ = bV from hbV)
 have HBx := Lib.hid (ba2 w (xbox ⟨k, n, vk, vn, vs, tab, col⟩ A len cap) (.cells #[.int .i64 0, .int .i64 0, .string ⟨#[]⟩] 34))
 have HF := Lib.hid (show oneB ⟨k, n, vk, vn, vs, tab, col⟩ len ag =
   (!(k == 4 && ag) && (if k = 1 then (bO && (vk != 2 || decide (0 ≤ vn))) && n == 0 && (bT && bC) && (len : Int) == 0
   else if k = 2 then (bK && (bT || bJ)) && decide (0 ≤ n) && decide (n < 32) && bV && (len : Int) == 0
   else if k = 3 then decide (0 < arI n) && ((len : Int) == arI n) && (bT && bC) && bV
   else if k = 4 then aggB n len && (bT && bC) && bV else false)) by
  unfold oneB fitsB; rw [HN.out, HV.out]; simp only [litB, colB, hbO, hbK, hbJ, hbT])
 clear hbV hv hbO hbK hbJ HN HV ht hc
 simp only at hk
 have h4 := hk
 clear hk
 rw [if_neg (by omega), if_neg (by omega), if_neg (by omega)] at HF
 subst h4
 simp only [if_true] at HF
 rcases (show ag = true ∨ (ag = false ∧ bV = false) ∨ (ag = false ∧ bV = true ∧ bT = false) ∨ (ag = false ∧ bV = true ∧ bT = true ∧ bC = false) ∨ (ag = false ∧ bV = true ∧ bT = true ∧ bC = true) by cases ag <;> cases bV <;> cases bT <;> cases bC <;> simp) with hx | ⟨hx, hy⟩ | ⟨hx, hy, hz⟩ | ⟨hx, hy, hz, hu⟩ | ⟨hx, hy, hz, hu⟩
 all_goals
  subst hx
  try subst hy
  try subst hz
  try subst hu
 iterate 4
  (go_enter Tryz.func117, Tryz.ntmps117
   go_wp2_with fail
   go_ret
   exact ⟨ret_bool (by rw [HF.out]; simp), HBx.out⟩)
 have HA := Lib.hid (show aggB n len = if n = 1 then (len : Int) == 0 else decide (1 < n) && decide (n ≤ 5) && (len : Int) == 1 from rfl)
 rcases (show ¬ 1 ≤ n ∨ (1 ≤ n ∧ ¬ n ≤ 5) ∨ (n = 1 ∧ len = 0) ∨ (n = 1 ∧ ¬ len = 0) ∨ (1 ≤ n ∧ n ≤ 5 ∧ ¬ n = 1 ∧ len = 0) ∨ (1 ≤ n ∧ n ≤ 5 ∧ ¬ n = 1 ∧ ¬ len = 0 ∧ len ≤ 1) ∨ (1 ≤ n ∧ n ≤ 5 ∧ ¬ n = 1 ∧ ¬ len = 0 ∧ ¬ len ≤ 1) by omega) with p1 | ⟨p1, p2⟩ | ⟨p1, p2⟩ | ⟨p1, p2⟩ | ⟨p1, p2, p3, p4⟩ | ⟨p1, p2, p3, p4, p5⟩ | ⟨p1, p2, p3, p4, p5⟩
 ·have HR := Lib.hid (show aggB n len = false by rw [HA.out, if_neg (by omega), decide_eq_false (p := 1 < n) (by omega)]; rfl)
  go_enter Tryz.func117, Tryz.ntmps117
  go_wp2_with fail
  go_ret
  exact ⟨ret_bool (by rw [HF.out, HR.out]; simp), HBx.out⟩
 ·have HR := Lib.hid (show aggB n len = false by rw [HA.out, if_neg (by omega), decide_eq_false (p := n ≤ 5) (by omega), Bool.and_false]; rfl)
  go_enter Tryz.func117, Tryz.ntmps117
  go_wp2_with fail
  go_ret
  exact ⟨ret_bool (by rw [HF.out, HR.out]; simp), HBx.out⟩
 ·subst p1 p2
  go_enter Tryz.func117, Tryz.ntmps117
  go_wp2_with fail
  go_ret
  exact ⟨ret_bool (by rw [HF.out]; rfl), ba2 w _ _⟩
 ·subst p1
  have q : ((len : Int) == 0) = false := by simp; omega
  have HR := Lib.hid (show aggB 1 len = false by rw [HA.out, if_pos rfl, q])
  go_enter Tryz.func117, Tryz.ntmps117
  go_wp2_with fail
  go_ret
  exact ⟨ret_bool (by rw [HF.out, HR.out]; simp), ba2 w _ _⟩
 ·subst p4
  have q : (n == 1) = false := by simpa using p3
  have HR := Lib.hid (show aggB n (0 : Nat) = false by rw [HA.out, if_neg p3]; simp)
  go_enter Tryz.func117, Tryz.ntmps117
  go_wp2_with fail
  go_ret
  exact ⟨ret_bool (by rw [HF.out, HR.out]; simp), ba2 w _ _⟩
 ·obtain rfl : len = 1 := by omega
  have q : (n == 1) = false := by simpa using p3
  have HR := Lib.hid (show aggB n (1 : Nat) = true by rw [HA.out, if_neg p3, decide_eq_true (p := 1 < n) (by omega), decide_eq_true (p := n ≤ 5) p2]; rfl)
  go_enter Tryz.func117, Tryz.ntmps117
  go_wp2_with fail
  go_ret
  exact ⟨ret_bool (by rw [HF.out, HR.out]; simp), ba2 w _ _⟩
 ·have q : (n == 1) = false := by simpa using p3
  have q2 : ((len : Int) == 0) = false := by simp; omega
  have q3 : ¬ (len : Int) ≤ 1 := by omega
  have HR := Lib.hid (show aggB n len = false by rw [HA.out, if_neg p3, show ((len : Int) == 1) = false by simp; omega, Bool.and_false])
  go_enter Tryz.func117, Tryz.ntmps117
  go_wp2_with fail
  go_ret
  exact ⟨ret_bool (by rw [HF.out, HR.out]; simp), HBx.out⟩
end
end Go.Proofs.YtfjimoccliejdaaGreatDoor
end
section
namespace Go.Proofs.YtfjimoccliejdaaGreatDoor
open Go.RowKit Go.Shelf

theorem sk_end (r : Lx.B) : Lx.sk true (10 :: r) = Lx.sk false (10 :: r) := by rw [Lx.sk, if_pos rfl, Lx.sk, if_pos (by decide)]
theorem sk_in {c : UInt8} {r : Lx.B} (h : c ≠ 10) : Lx.sk true (c :: r) = Lx.sk true r + 1 := by rw [Lx.sk, if_neg h]
theorem sk_into {c : UInt8} {r : Lx.B} (h : c = 45) (h' : r.head? = some 45) : Lx.sk false (c :: r) = Lx.sk true r + 1 := by
 rw [Lx.sk, if_neg (by subst h; decide), if_pos ⟨h, h'⟩]
theorem sk_no2 {c : UInt8} {r : Lx.B} (h : Lx.blank c = false) (h' : c = 45 → r.head? ≠ some 45) : Lx.sk false (c :: r) = 0 := by
 rw [Lx.sk, if_neg (by simp [h]), if_neg (fun ⟨e, e'⟩ => h' e e')]
set_option maxRecDepth 100000 in
set_option maxHeartbeats 4000000 in
theorem refSkip_any (s : ByteArray) (p : Nat) (w : World) (hs : s.size ≤ 9223372036854775806) (hp : p ≤ s.size) :
  Calls Tryz.prog 48 #[.string s, .int .i64 p] w fun e w' => e = .returned (.int .i64 ((p + Lx.sk false ((bs s).drop p) : Nat))) ∧ Below w.heap.size w w' := by
 obtain ⟨N, hN⟩ : ∃ N, p + Lx.sk false ((bs s).drop p) = N := ⟨_, rfl⟩
 rw [hN]
 have HN := Lib.hid hN
 clear hN
 go_enter Tryz.func48, Tryz.ntmps48
 go_wp2_with fail
 go_loopw [1] (fun i wr => ∃ k : Nat, k ≤ s.size ∧ i = .int .i64 k ∧ wr = w ∧ Hid (k + Lx.sk false ((bs s).drop k) = N)) (fun i _ => s.size - (intOf i).toNat)
 case atStart => exact ⟨p, hp, rfl, rfl, HN⟩
 case round =>
  obtain ⟨k, hk, rfl, rfl, HA⟩ := hrel
  by_cases hlt : k < s.size
  ·have HD := Lib.hid (bs_drop s k hlt)
   have blank : ∀ c : UInt8, s[k] = c → Lx.blank c = true → Hid (k + 1 + Lx.sk false ((bs s).drop (k + 1)) = N) := fun c hc hb => Lib.hid (by
    rw [← HA.out, HD.out, hc, sk_blank hb]; omega)
   have HBl := Lib.hid blank
   clear blank
   by_cases h1 : s[k] = 32
   ·have HE := HBl.out 32 h1 (by decide)
    have hz : (s[k].toNat : Int) = 32 := by rw [h1]; rfl
    clear h1
    go_wp2_with fail
    go_roundw
    case rel => exact ⟨k + 1, by omega, by go_num, by first | rfl | trivial, HE⟩
    case measure => simp [intOf]; omega
   by_cases h2 : s[k] = 9
   ·have HE := HBl.out 9 h2 (by decide)
    have hz : (s[k].toNat : Int) = 9 := by rw [h2]; rfl
    clear h1 h2
    go_wp2_with fail
    go_roundw
    case rel => exact ⟨k + 1, by omega, by go_num, by first | rfl | trivial, HE⟩
    case measure => simp [intOf]; omega
   by_cases h3 : s[k] = 10
   ·have HE := HBl.out 10 h3 (by decide)
    have hz : (s[k].toNat : Int) = 10 := by rw [h3]; rfl
    clear h1 h2 h3
    go_wp2_with fail
    go_roundw
    case rel => exact ⟨k + 1, by omega, by go_num, by first | rfl | trivial, HE⟩
    case measure => simp [intOf]; omega
   by_cases h4 : s[k] = 13
   ·have HE := HBl.out 13 h4 (by decide)
    have hz : (s[k].toNat : Int) = 13 := by rw [h4]; rfl
    clear h1 h2 h3 h4
    go_wp2_with fail
    go_roundw
    case rel => exact ⟨k + 1, by omega, by go_num, by first | rfl | trivial, HE⟩
    case measure => simp [intOf]; omega
   have hnb : Lx.blank s[k] = false := by simp [Lx.blank, h1, h2, h3, h4]
   have z : ∀ (n : Nat), n < 256 → s[k] ≠ UInt8.ofNat n → ((s[k].toNat : Int) == (n : Int)) = false := fun n hn h => by
    rw [beq_eq_false_iff_ne]
    intro e
    apply h
    have : s[k].toNat = n := by omega
    rw [← this]; simp
   have z1 : ((s[k].toNat : Int) == 32) = false := z 32 (by decide) h1
   have z2 : ((s[k].toNat : Int) == 9) = false := z 9 (by decide) h2
   have z3 : ((s[k].toNat : Int) == 10) = false := z 10 (by decide) h3
   have z4 : ((s[k].toNat : Int) == 13) = false := z 13 (by decide) h4
   by_cases h5 : s[k] = 45
   ·have z5 : (s[k].toNat : Int) = 45 := by rw [h5]; rfl
    by_cases hk1 : k + 1 < s.size
    ·by_cases h6 : s[k + 1] = 45
     ·have z6 : (s[k + 1].toNat : Int) = 45 := by rw [h6]; rfl
      have HI := Lib.hid (show k + Lx.sk true ((bs s).drop k) = N by
       have hh : ((bs s).drop (k + 1)).head? = some 45 := by rw [bs_drop s (k + 1) hk1, h6]; rfl
       rw [← HA.out, HD.out, sk_into h5 hh, sk_in (by rw [h5]; decide)])
      have HK := Lib.hid h5
      clear h1 h2 h3 h4 h5 h6 z z1 z2 z3 z4 hnb
      go_wp2_with fail
      clear z5 z6 hk1
      go_loopw [1] (fun i wq => ∃ j : Nat, k ≤ j ∧ j ≤ s.size ∧ i = .int .i64 j ∧ wq = wr ∧ Hid (j + Lx.sk true ((bs s).drop j) = N)) (fun i _ => s.size - (intOf i).toNat)
      case atStart => exact ⟨k, Nat.le_refl _, hk, rfl, rfl, HI⟩
      case round =>
       obtain ⟨j, hkj, hj, rfl, rfl, HJ⟩ := hrel
       by_cases hjt : j < s.size
       ·have HDj := Lib.hid (bs_drop s j hjt)
        by_cases h10 : s[j] = 10
        ·have z10 : (s[j].toNat : Int) = 10 := by rw [h10]; rfl
         have hne : k ≠ j := fun e => by
          subst e
          have := HK.out
          rw [h10] at this
          cases this
         have HE := Lib.hid (show j + Lx.sk false ((bs s).drop j) = N by rw [← HJ.out, HDj.out, h10, sk_end])
         clear h10
         go_wp2_with fail
         go_roundw
         case rel => exact ⟨j, by omega, by first | rfl | go_num, by first | rfl | trivial, HE⟩
         case measure => simp [intOf]; omega
        ·have z10 : ((s[j].toNat : Int) == 10) = false := by
          rw [beq_eq_false_iff_ne]
          intro e
          apply h10
          have : s[j].toNat = 10 := by omega
          exact UInt8.toNat_inj.1 this
         have HE := Lib.hid (show j + 1 + Lx.sk true ((bs s).drop (j + 1)) = N by rw [← HJ.out, HDj.out, sk_in h10]; omega)
         clear h10
         go_wp2_with fail
         go_roundw
         case rel => exact ⟨j + 1, by omega, by omega, by go_num, by first | rfl | trivial, HE⟩
         case measure => simp [intOf]; omega
       ·have HE := Lib.hid (show j + Lx.sk false ((bs s).drop j) = N by
         rw [← HJ.out, List.drop_eq_nil_iff.2 (by rw [bs_len]; omega)]; rfl)
        go_wp2_with fail
        go_roundw
        case rel => exact ⟨j, by omega, by first | rfl | go_num, by first | rfl | trivial, HE⟩
        case measure => simp [intOf]; omega
     ·have z6 : ((s[k + 1].toNat : Int) == 45) = false := by
       rw [beq_eq_false_iff_ne]
       intro e
       apply h6
       have : s[k + 1].toNat = 45 := by omega
       exact UInt8.toNat_inj.1 this
      have HE := Lib.hid (show k = N by
       rw [← HA.out, HD.out, sk_no2 hnb (fun _ => by rw [bs_drop s (k + 1) hk1]; simpa using h6)]; rfl)
      clear h1 h2 h3 h4 h5 h6 z hnb
      go_wp2_with fail
      go_ret
      exact ⟨by (show Ending.returned (Value.int IntKind.i64 (k : Int)) = _); rw [HE.out], Below.refl _ _⟩
    ·have HE := Lib.hid (show k = N by
      rw [← HA.out, HD.out, sk_no2 hnb (fun _ => by rw [List.drop_eq_nil_iff.2 (by rw [bs_len]; omega)]; simp)]; rfl)
     clear h1 h2 h3 h4 h5 z hnb
     go_wp2_with fail
     go_ret
     exact ⟨by (show Ending.returned (Value.int IntKind.i64 (k : Int)) = _); rw [HE.out], Below.refl _ _⟩
   ·have z5 : ((s[k].toNat : Int) == 45) = false := z 45 (by decide) h5
    have HE := Lib.hid (show k = N by
     rw [← HA.out, HD.out, sk_no2 hnb (fun e => absurd e h5)]; rfl)
    clear h1 h2 h3 h4 h5 z hnb
    go_wp2_with fail
    go_ret
    exact ⟨by (show Ending.returned (Value.int IntKind.i64 (k : Int)) = _); rw [HE.out], Below.refl _ _⟩
  ·have HE := Lib.hid (show k = N by
    rw [← HA.out, List.drop_eq_nil_iff.2 (by rw [bs_len]; omega)]; rfl)
   go_wp2_with fail
   go_ret
   exact ⟨by (show Ending.returned (Value.int IntKind.i64 (k : Int)) = _); rw [HE.out], Below.refl _ _⟩
end Go.Proofs.YtfjimoccliejdaaGreatDoor
end
section
namespace Go.Proofs.YtfjimoccliejdaaGreatDoor
open Go.RowKit Go.Shelf

def TextE (p n : Nat) (T : Option (Lx.B × Lx.B)) (e : Ending) : Prop := match T with
 | some (o, r) => e = .returned (.tuple #[.agg #[.int .i64 4, .string ⟨o.toArray⟩, .int .i64 0, .int .i64 p], .int .i64 ((n - r.length : Nat) : Int), .bool true])
 | none => ∃ (k : Int) (b : ByteArray) (m a z : Int), e = .returned (.tuple #[.agg #[.int .i64 k, .string b, .int .i64 m, .int .i64 a], .int .i64 z, .bool false])
theorem TextE.no {p n : Nat} {T : Option (Lx.B × Lx.B)} (h : T = none) (k : Int) (b : ByteArray) (m a z : Int) : TextE p n T (.returned (.tuple #[.agg #[.int .i64 k, .string b, .int .i64 m, .int .i64 a], .int .i64 z, .bool false])) := by
 subst h; exact ⟨k, b, m, a, z, rfl⟩
theorem TextE.yes {p n : Nat} {T : Option (Lx.B × Lx.B)} {o r : Lx.B} {b : ByteArray} {z : Int} (h : T = some (o, r)) (hb : bs b = o) (hz : z = ((n - r.length : Nat) : Int)) : TextE p n T (.returned (.tuple #[.agg #[.int .i64 4, .string b, .int .i64 0, .int .i64 p], .int .i64 z, .bool true])) := by
 subst h; subst hz; rw [ba_eq hb]; rfl
theorem bs_append (a b : ByteArray) : bs (a ++ b) = bs a ++ bs b := by simp [bs]
set_option maxRecDepth 100000 in
set_option maxHeartbeats 4000000 in
theorem refText_any (s : ByteArray) (p : Nat) (w : World) (hs : s.size ≤ 16384) (hp : p < s.size) :
  Calls Tryz.prog 88 #[.string s, .int .i64 p] w fun e w' => TextE p s.size (Lx.txq false ((bs s).drop (p + 1)) []) e ∧ Below w.heap.size w w' := by
 obtain ⟨T, hT⟩ : ∃ T, Lx.txq false ((bs s).drop (p + 1)) [] = T := ⟨_, rfl⟩
 rw [hT]
 have HT := Lib.hid hT
 have HB := Lib.hid (ba w (.cells #[.int .i64 0, .string ⟨#[]⟩, .int .i64 0, .int .i64 0] 66))
 clear hT
 go_enter Tryz.func88, Tryz.ntmps88
 go_wp2_with fail
 have HU := Lib.hid (MapKept.heap_alloc w (.cells #[.int .i64 0, .string ⟨#[]⟩, .int .i64 0, .int .i64 0] 66)).1
 have HUl := Lib.hid (Nat.le_refl w.heap.size)
 generalize w.alloc (.cells #[.int .i64 0, .string ⟨#[]⟩, .int .i64 0, .int .i64 0] 66) = W at HB HU ⊢
 obtain ⟨U, hU⟩ : ∃ U, w.heap.size = U := ⟨_, rfl⟩
 rw [hU] at HU ⊢
 have HUl := Lib.hid hU
 clear hU
 go_loopw [7, 8] (fun v i wr => ∃ (k : Nat) (o : ByteArray), p + 1 ≤ k ∧ k ≤ s.size ∧ o.size ≤ k ∧ v = .string o ∧ i = .int .i64 k ∧ wr = W ∧ Hid ((o.size ≤ 64 ∧ Lx.txq false ((bs s).drop k) (bs o) = T) ∨ (64 < o.size ∧ T = none))) (fun v i _ => s.size - (intOf i).toNat)
 case atStart => exact ⟨p + 1, ⟨#[]⟩, Nat.le_refl _, hp, Nat.zero_le _, rfl, by go_num, rfl, Lib.hid (.inl ⟨Nat.zero_le _, HT.out⟩)⟩
 case round =>
  obtain ⟨k, o, hpk, hk, hok, rfl, rfl, rfl, HR⟩ := hrel
  obtain ⟨x0, x1, x2, x3⟩ : wr.cell? ⟨U, 0, none⟩ = some (.int .i64 0) ∧ wr.cell? ⟨U, 1, none⟩ = some (.string ⟨#[]⟩) ∧ wr.cell? ⟨U, 2, none⟩ = some (.int .i64 0) ∧ wr.cell? ⟨U, 3, none⟩ = some (.int .i64 0) := by
   refine ⟨?_, ?_, ?_, ?_⟩ <;> simp [World.cell?, HU.out]
  obtain ⟨f0, f1, f2, f3⟩ : wr.frozen? ⟨U, 0, none⟩ = false ∧ wr.frozen? ⟨U, 1, none⟩ = false ∧ wr.frozen? ⟨U, 2, none⟩ = false ∧ wr.frozen? ⟨U, 3, none⟩ = false := by
   refine ⟨?_, ?_, ?_, ?_⟩ <;> (unfold World.frozen?; rw [HU.out]; rfl)
  have HF := Lib.hid (show ∀ b0 b1 b2 b3 : Value, Below w.heap.size w ((((wr.setCell ⟨U, 0, none⟩ b0).setCell ⟨U, 1, none⟩ b1).setCell ⟨U, 2, none⟩ b2).setCell ⟨U, 3, none⟩ b3) from fun b0 b1 b2 b3 => below_tok HB.out (by rw [HUl.out]; exact Nat.le_refl _) b0 b1 b2 b3)
  by_cases hkn : k < s.size
  ·have hD := bs_drop s k hkn
   by_cases hc : s[k] = 39
   ·have hz : (s[k].toNat : Int) = 39 := by rw [hc]; rfl
    by_cases hk1 : k + 1 < s.size
    ·have hD1 := bs_drop s (k + 1) hk1
     by_cases hc1 : s[k + 1] = 39
     ·have hz1 : (s[k + 1].toNat : Int) = 39 := by rw [hc1]; rfl
      have HN := Lib.hid (show ((o ++ ⟨#[39]⟩).size ≤ 64 ∧ Lx.txq false ((bs s).drop (k + 1 + 1)) (bs (o ++ ⟨#[39]⟩)) = T) ∨ (64 < (o ++ ⟨#[39]⟩).size ∧ T = none) by
       rw [ByteArray.size_append, show ByteArray.size ⟨#[39]⟩ = 1 from rfl, bs_append, show bs ⟨#[39]⟩ = [39] from rfl]
       rcases HR.out with ⟨h1, h2⟩ | ⟨h1, h2⟩
       ·have h3 : Lx.txq false ((bs s).drop (k + 1 + 1)) (bs o ++ [39]) = T := by
         rw [← h2, hD, hc, txq_quote (by rw [bs_len]; exact h1), hD1, hc1, txq_two]
        by_cases h4 : o.size + 1 ≤ 64
        ·exact .inl ⟨h4, h3⟩
        ·exact .inr ⟨by omega, by rw [← h3]; exact txq_long (by rw [List.length_append, bs_len]; simp; omega)⟩
       ·exact .inr ⟨by omega, h2⟩)
      have hsz : (o ++ ⟨#[39]⟩ : ByteArray).size = o.size + 1 := by rw [ByteArray.size_append]; rfl
      clear hD hc hD1 hc1
      go_wp2_with fail
      generalize (o ++ ⟨#[39]⟩ : ByteArray) = o' at HN hsz ⊢
      go_roundw
      case rel => exact ⟨k + 1 + 1, o', by omega, by omega, by omega, rfl, by go_num, by first | rfl | trivial, HN⟩
      case measure => simp [intOf]; omega
     ·have hq : ((bs s).drop (k + 1)).head? ≠ some 39 := by rw [hD1]; simpa using hc1
      have HY := Lib.hid (show o.size ≤ 64 → T = some (bs o, (bs s).drop (k + 1)) from fun h64 => by
       rcases HR.out with ⟨h1, h2⟩ | ⟨h1, h2⟩
       ·rw [← h2, hD, hc, txq_quote (by rw [bs_len]; exact h1), txq_end hq]
       ·omega)
      have HZ := Lib.hid (show 64 < o.size → T = none from fun h64 => by
       rcases HR.out with ⟨h1, h2⟩ | ⟨h1, h2⟩
       ·omega
       ·exact h2)
      have hz1 : ((s[k + 1].toNat : Int) == 39) = false := by
       rw [beq_eq_false_iff_ne]
       intro e
       apply hc1
       have : s[k + 1].toNat = 39 := by omega
       exact UInt8.toNat_inj.1 this
      clear hc1 hD1
      clear hD hc hq
      by_cases h64 : (o.size : Int) ≤ 64
      ·go_wp2_with fail
       refine bodyPost_ret (v := .tuple #[.agg #[.int .i64 4, .string o, .int .i64 0, .int .i64 p], .int .i64 ((k : Int) + 1), .bool true]) (by simp [results, Tryz.results88, go_sem, x0, x1, x2, x3]) rfl ⟨TextE.yes (HY.out (by omega)) rfl (by rw [List.length_drop, bs_len]; omega), HF.out _ _ _ _⟩
      ·go_wp2_with fail
       refine bodyPost_ret (v := .tuple #[.agg #[.int .i64 4, .string o, .int .i64 0, .int .i64 p], .int .i64 ((k : Int) + 1), .bool false]) (by simp [results, Tryz.results88, go_sem, x0, x1, x2, x3] <;> exact h64) rfl ⟨TextE.no (HZ.out (by omega)) _ _ _ _ _, HF.out _ _ _ _⟩
    ·have hq : ((bs s).drop (k + 1)).head? ≠ some 39 := by rw [List.drop_eq_nil_iff.2 (by rw [bs_len]; omega)]; simp
     have HY := Lib.hid (show o.size ≤ 64 → T = some (bs o, (bs s).drop (k + 1)) from fun h64 => by
      rcases HR.out with ⟨h1, h2⟩ | ⟨h1, h2⟩
      ·rw [← h2, hD, hc, txq_quote (by rw [bs_len]; exact h1), txq_end hq]
      ·omega)
     have HZ := Lib.hid (show 64 < o.size → T = none from fun h64 => by
      rcases HR.out with ⟨h1, h2⟩ | ⟨h1, h2⟩
      ·omega
      ·exact h2)
     skip
     clear hD hc hq
     by_cases h64 : (o.size : Int) ≤ 64
     ·go_wp2_with fail
      refine bodyPost_ret (v := .tuple #[.agg #[.int .i64 4, .string o, .int .i64 0, .int .i64 p], .int .i64 ((k : Int) + 1), .bool true]) (by simp [results, Tryz.results88, go_sem, x0, x1, x2, x3]) rfl ⟨TextE.yes (HY.out (by omega)) rfl (by rw [List.length_drop, bs_len]; omega), HF.out _ _ _ _⟩
     ·go_wp2_with fail
      refine bodyPost_ret (v := .tuple #[.agg #[.int .i64 4, .string o, .int .i64 0, .int .i64 p], .int .i64 ((k : Int) + 1), .bool false]) (by simp [results, Tryz.results88, go_sem, x0, x1, x2, x3] <;> exact h64) rfl ⟨TextE.no (HZ.out (by omega)) _ _ _ _ _, HF.out _ _ _ _⟩
   ·have hz : ((s[k].toNat : Int) == 39) = false := by
     rw [beq_eq_false_iff_ne]
     intro e
     apply hc
     have : s[k].toNat = 39 := by omega
     exact UInt8.toNat_inj.1 this
    have hx : bs (s.extract k (k + 1)) = [s[k]] := by
     rw [bs_extract, List.drop_take, hD]
     simp
    have hxz : (s.extract k (k + 1)).size = 1 := by rw [← bs_len, hx]; rfl
    have HN := Lib.hid (show ((o ++ s.extract k (k + 1)).size ≤ 64 ∧ Lx.txq false ((bs s).drop (k + 1)) (bs (o ++ s.extract k (k + 1))) = T) ∨ (64 < (o ++ s.extract k (k + 1)).size ∧ T = none) by
     rw [ByteArray.size_append, hxz, bs_append, hx]
     rcases HR.out with ⟨h1, h2⟩ | ⟨h1, h2⟩
     ·have h3 : Lx.txq false ((bs s).drop (k + 1)) (bs o ++ [s[k]]) = T := by
       rw [← h2, hD, txq_byte hc (by rw [bs_len]; exact h1)]
      by_cases h4 : o.size + 1 ≤ 64
      ·exact .inl ⟨h4, h3⟩
      ·exact .inr ⟨by omega, by rw [← h3]; exact txq_long (by rw [List.length_append, bs_len]; simp; omega)⟩
     ·exact .inr ⟨by omega, h2⟩)
    have hsz : (o ++ s.extract k (k + 1) : ByteArray).size = o.size + 1 := by rw [ByteArray.size_append, hxz]
    have HSz := Lib.hid hsz
    clear hD hc hx
    by_cases h64 : (o.size : Int) + 1 > 64
    ·have HNo := Lib.hid (show T = none by
      rcases HN.out with ⟨h1, h2⟩ | ⟨h1, h2⟩
      ·have := HSz.out; omega
      ·exact h2)
     clear hsz
     go_wp2_with fail
     refine bodyPost_ret (v := .tuple #[.agg #[.int .i64 0, .string ⟨#[]⟩, .int .i64 0, .int .i64 0], .int .i64 0, .bool false]) (by simp [results, Tryz.results88, go_sem, x0, x1, x2, x3]) rfl ⟨TextE.no HNo.out _ _ _ _ _, HF.out _ _ _ _⟩
    ·clear hsz
     go_wp2_with fail
     generalize (o ++ s.extract k (k + 1) : ByteArray) = o' at HN HSz ⊢
     go_roundw
     case rel => exact ⟨k + 1, o', by omega, by omega, by have := HSz.out; omega, rfl, by go_num, by first | rfl | trivial, HN⟩
     case measure => simp [intOf]; omega
  ·have HNo := Lib.hid (show T = none by
    rcases HR.out with ⟨h1, h2⟩ | ⟨h1, h2⟩
    ·rw [← h2, List.drop_eq_nil_iff.2 (by rw [bs_len]; omega)]; rfl
    ·exact h2)
   go_wp2_with fail
   refine bodyPost_ret (v := .tuple #[.agg #[.int .i64 0, .string ⟨#[]⟩, .int .i64 0, .int .i64 0], .int .i64 0, .bool false]) (by simp [results, Tryz.results88, go_sem, x0, x1, x2, x3]) rfl ⟨TextE.no HNo.out _ _ _ _ _, HF.out _ _ _ _⟩
end Go.Proofs.YtfjimoccliejdaaGreatDoor
end
section
namespace Go.Proofs.YtfjimoccliejdaaGreatDoor
open Go.RowKit Go.Shelf

def NumE (l : Lx.B) (e : Ending) : Prop := if 9007199254740991 < Lx.val l then e = .returned (.tuple #[.int .i64 0, .bool false]) else e = .returned (.tuple #[.int .i64 (Lx.val l : Nat), .bool true])
set_option maxRecDepth 100000 in
set_option maxHeartbeats 2000000 in
theorem refNumber_any (s : ByteArray) (w : World) (hs : s.size ≤ 16384) (hd : ∀ x ∈ bs s, Lx.digit x = true) :
  Calls Tryz.prog 89 #[.string s] w fun e w' => NumE (bs s) e ∧ Below w.heap.size w w' := by
 have HD := Lib.hid hd
 clear hd
 go_enter Tryz.func89, Tryz.ntmps89
 go_wp2_with fail
 go_loopw [4, 5] (fun v i wr => ∃ k : Nat, k ≤ s.size ∧ i = .int .i64 k ∧ v = .int .i64 (Lx.val ((bs s).take k) : Nat) ∧ Lx.val ((bs s).take k) ≤ 9007199254740991 ∧ wr = w) (fun _ i _ => s.size - (intOf i).toNat)
 case atStart => exact ⟨0, Nat.zero_le _, rfl, by simp [Lx.val], by simp [Lx.val], rfl⟩
 case round =>
  obtain ⟨k, hk, rfl, rfl, hv, rfl⟩ := hrel
  by_cases hkn : k < s.size
  ·have HS := Lib.hid (show Lx.val ((bs s).take (k + 1)) = 10 * Lx.val ((bs s).take k) + (s[k].toNat - 48) by rw [bs_snoc s k hkn, val_snoc])
   have hdg : 48 ≤ s[k].toNat ∧ s[k].toNat ≤ 57 := by
    have := HD.out s[k] (List.mem_of_getElem? (bs_get s k hkn))
    simpa [Lx.digit] using this
   have HM := Lib.hid (show Lx.val ((bs s).take (k + 1)) ≤ Lx.val (bs s) from val_take _ _)
   generalize Lx.val ((bs s).take k) = v at hv HS ⊢
   by_cases hb : 9007199254740991 < 10 * v + (s[k].toNat - 48)
   ·have hb' : 9007199254740991 < 10 * (v : Int) + ((s[k].toNat : Int) - 48) := by omega
    go_wp2_with fail
    go_ret2
    refine ⟨?_, Below.refl _ _⟩
    unfold NumE
    rw [if_pos (by have := HM.out; rw [HS.out] at this; omega)]
    rfl
   ·have hb' : ¬ 9007199254740991 < 10 * (v : Int) + ((s[k].toNat : Int) - 48) := by omega
    go_wp2_with fail
    go_roundw
    case rel => exact ⟨k + 1, by omega, by go_num, by rw [HS.out]; go_num, by rw [HS.out]; omega, by first | rfl | trivial⟩
    case measure => simp [intOf]; omega
  ·obtain rfl : k = s.size := by omega
   have ht : (bs s).take s.size = bs s := List.take_of_length_le (by rw [bs_len]; exact Nat.le_refl _)
   rw [ht] at hv ⊢
   go_wp2_with fail
   go_ret2
   refine ⟨?_, Below.refl _ _⟩
   unfold NumE
   rw [if_neg (by omega)]
   rfl
end Go.Proofs.YtfjimoccliejdaaGreatDoor
end
