/-
  A region that draws its order, walked by what each operation leaves: no order is told apart. Of each operation is shown, once, what it leaves where those hold that it waits for.
  Single operations, whatever else the slots hold: for regions walked by what each operation leaves.
Columns, Aggs: pick's wrappers.
  The contracts of package expr, of values that hold expressions; operations upon them.
The reader in memory; its next token, what it takes.
The reader's next token.
The reader takes: whether a token is a word, or of a kind.
The document's Name.
  The document's one: may an expression be, but for its parts?
  The document's one, at 1.
  The document's one, at 2.
  The document's one, at 3.
  The document's one, at 4.
The document's own tokens: where blanks and remarks end, numbers.
The document's own tokens: texts.
The document's own tokens: numbers; a token.
The document's own tokens: one token.
The reader takes a word, if it stands next.
The reader takes a token of a kind, if it stands next.
The reader's steps: a word, a token of a kind, one that must stand there, a name.
How the pieces of a query lie in memory.
Rules of expressions: what is made; what ends a rule.
Rules of expressions: which operator stands next.
-/
import Derived.Test.YtfjimoccliejdaaGreatDoorY7
import Derived.Orders
import Derived.Deep.RegionHeld3
import Derived.Conc.Own4
import Derived.Tactics2
import Derived.Laws.Tables
import Derived.Deep.MidRow
import Derived.Great.BuildSlice
import Derived.Deep.QuietTactic
import Derived.BigQuiet
import Derived.Deep.Cut
section
namespace Go.Proofs.YtfjimoccliejdaaGreatDoor
section

def slotAt (ds : List (Option Tmp)) (a : Act) (k : Nat) : Value := match (ds[k]?).getD none with | some t => a.tmps.getD t undef | none => undef
theorem put_size (a : Act) (d : Option Tmp) (v : Value) : (a.put d v).tmps.size = a.tmps.size := by cases d <;> simp [Act.put]
theorem put_defers (a : Act) (d : Option Tmp) (v : Value) : (a.put d v).defers = a.defers := by cases d <;> rfl
theorem put_get (a : Act) (d : Option Tmp) (v : Value) (t : Nat) (h : d ≠ some t) : (a.put d v).tmps.getD t undef = a.tmps.getD t undef := by
  cases d with
  | none => rfl
  | some u =>
    have hu : u ≠ t := fun e => h (by rw [e])
    simp [Act.put, Array.getD_eq_getD_getElem?, hu]
theorem put_at (a : Act) (v : Value) (t : Nat) (h : t < a.tmps.size) : (a.put (some t) v).tmps.getD t undef = v := by
  simp [Act.put, Array.getD_eq_getD_getElem?, h]
/-- The slots are apart, and there. -/
def apartB : List (Option Tmp) → Nat → Bool
  | [], _ => true
  | none :: r, n => apartB r n
  | some t :: r, n => decide (t < n) && r.all (fun d => d != some t) && apartB r n
theorem apart_ne : ∀ (ds : List (Option Tmp)) (n i j t : Nat), apartB ds n = true → ds[i]? = some (some t) → ds[j]? = some (some t) → i = j
  | [], _, i, j, t, _, hi, _ => by simp at hi
  | d :: r, n, 0, 0, t, _, _, _ => rfl
  | d :: r, n, i + 1, j + 1, t, h, hi, hj => by
    have h' : apartB r n = true := by
      cases d with
      | none => simpa [apartB] using h
      | some u => simp only [apartB, Bool.and_eq_true] at h; exact h.2
    rw [apart_ne r n i j t h' (by simpa using hi) (by simpa using hj)]
  | d :: r, n, 0, j + 1, t, h, hi, hj => by
    simp only [List.getElem?_cons_zero, Option.some.injEq] at hi
    subst hi
    simp only [apartB, Bool.and_eq_true, List.all_eq_true] at h
    have := h.1.2 (some t) (List.mem_of_getElem? (by simpa using hj))
    simp at this
  | d :: r, n, i + 1, 0, t, h, hi, hj => by
    simp only [List.getElem?_cons_zero, Option.some.injEq] at hj
    subst hj
    simp only [apartB, Bool.and_eq_true, List.all_eq_true] at h
    have := h.1.2 (some t) (List.mem_of_getElem? (by simpa using hi))
    simp at this
theorem apart_lt : ∀ (ds : List (Option Tmp)) (n k t : Nat), apartB ds n = true → ds[k]? = some (some t) → t < n
  | [], _, k, t, _, hk => by simp at hk
  | d :: r, n, 0, t, h, hk => by
    simp only [List.getElem?_cons_zero, Option.some.injEq] at hk
    subst hk
    simp only [apartB, Bool.and_eq_true, decide_eq_true_eq] at h
    exact h.1.1
  | d :: r, n, k + 1, t, h, hk => by
    have h' : apartB r n = true := by
      cases d with
      | none => simpa [apartB] using h
      | some u => simp only [apartB, Bool.and_eq_true] at h; exact h.2
    exact apart_lt r n k t h' (by simpa using hk)

variable {P : Program} {ops : List Oper}
structure Inv (n : Nat) (ds : List (Option Tmp)) (need : List (List Nat)) (a0 : Act) (w0 : World) (R : World → World → Prop) (Gs : List (Value → World → Prop)) (listed : Array Bool) (a : Act) (w : World) : Prop where
  defers : a.defers = a0.defers
  size : a.tmps.size = a0.tmps.size
  lsize : listed.size = ds.length
  out : ∀ k, n ≤ k → listed.getD k false = false
  grow : R w0 w
  rest : ∀ t, (∀ k, k < n → listed.getD k false = true → ds[k]? ≠ some (some t)) → a.tmps.getD t undef = a0.tmps.getD t undef
  facts : ∀ k, k < n → listed.getD k false = true → (Gs.getD k (fun _ _ => True)) (slotAt ds a k) w
  clos : ∀ k, k < n → listed.getD k false = true → ∀ j ∈ need.getD k [], j < n ∧ listed.getD j false = true
/-- What is to be shown of one operation. -/
def StepOk (P : Program) (ops : List Oper) (ds : List (Option Tmp)) (need : List (List Nat)) (a0 : Act) (w0 : World) (R : World → World → Prop) (Gs : List (Value → World → Prop)) (Q : Exit → Act → World → Prop) (i : Nat) (o : Oper) : Prop :=
  ∀ a w, a.tmps.size = a0.tmps.size → R w0 w → (∀ t, (∀ d ∈ ds, d ≠ some t) → a.tmps.getD t undef = a0.tmps.getD t undef) → (∀ j ∈ need.getD i [], (Gs.getD j (fun _ _ => True)) (slotAt ds a j) w) →
    (Region.wanted o (yielded ops.toArray a.tmps) = true ∧ o.wp P a w (fun a' w' => ∃ v, a' = a.put o.dst v ∧ R w w' ∧ (Gs.getD i (fun _ _ => True)) (if o.dst.isSome then v else undef) w') Q) ∨
    (Region.wanted o (yielded ops.toArray a.tmps) = false ∧ (Gs.getD i (fun _ _ => True)) undef w)
/-- What holds goes on to hold. -/
def Keeps (R : World → World → Prop) (g : Value → World → Prop) : Prop := ∀ v w w', R w w' → g v w → g v w'
def Each (P : Program) (ops : List Oper) (ds : List (Option Tmp)) (need : List (List Nat)) (a0 : Act) (w0 : World) (R : World → World → Prop) (Gs : List (Value → World → Prop)) (Q : Exit → Act → World → Prop) (n i : Nat) : Prop :=
  ∀ k, i ≤ k → k < n → Keeps R (Gs.getD k (fun _ _ => True)) ∧ ∀ o, ops[k]? = some o → StepOk P ops ds need a0 w0 R Gs Q k o
theorem Each.nil {ds need a0 w0 R Gs Q n} : Each P ops ds need a0 w0 R Gs Q n n := fun k h1 h2 => by omega
theorem Each.cons {ds need a0 w0 R Gs Q n} {i : Nat} {o : Oper} (ho : ops[i]? = some o) (hk : Keeps R (Gs.getD i (fun _ _ => True))) (hs : StepOk P ops ds need a0 w0 R Gs Q i o) (hr : Each P ops ds need a0 w0 R Gs Q n (i + 1)) : Each P ops ds need a0 w0 R Gs Q n i := by
  intro k h1 h2
  rcases Nat.lt_or_eq_of_le h1 with h | rfl
  · exact hr k h h2
  · refine ⟨hk, fun o' ho' => ?_⟩
    rw [ho] at ho'
    cases ho'
    exact hs
theorem getD_set_ne (l : Array Bool) {i k : Nat} (h : k ≠ i) : (l.setIfInBounds i true).getD k false = l.getD k false := by simp [Array.getD_eq_getD_getElem?, Ne.symm h]
theorem getD_set_eq (l : Array Bool) {i : Nat} (h : i < l.size) : (l.setIfInBounds i true).getD i false = true := by simp [Array.getD_eq_getD_getElem?, h]

/-- One more has come up. -/
theorem Inv.step {n : Nat} {ds : List (Option Tmp)} {need : List (List Nat)} {a0 : Act} {w0 : World} {R : World → World → Prop} {Gs : List (Value → World → Prop)} {listed : Array Bool} {a : Act} {w w' : World} {i : Nat} {d : Option Tmp} {v : Value}
    (h : Inv n ds need a0 w0 R Gs listed a w) (hn : n ≤ ds.length) (hap : apartB (ds.take n) a0.tmps.size = true) (hT : ∀ x y z, R x y → R y z → R x z) (hK : ∀ k, k < n → Keeps R (Gs.getD k (fun _ _ => True)))
    (hin : i < n) (hdi : ds[i]? = some d) (hneedi : ∀ j ∈ need.getD i [], j < n ∧ listed.getD j false = true) (hR : R w w') (hG : (Gs.getD i (fun _ _ => True)) (if d.isSome then v else undef) w') :
    Inv n ds need a0 w0 R Gs (listed.setIfInBounds i true) (a.put d v) w' := by
  have hls : i < listed.size := by rw [h.lsize]; omega
  have hdt : ∀ k, k < n → (ds.take n)[k]? = ds[k]? := fun k hk => by rw [List.getElem?_take, if_pos hk]
  refine ⟨by rw [put_defers]; exact h.defers, by rw [put_size]; exact h.size, by rw [Array.size_setIfInBounds]; exact h.lsize, fun k hk => ?_, hT _ _ _ h.grow hR, fun t ht => ?_, fun k hk hkl => ?_, fun k hk hkl j hj => ?_⟩
  · rw [getD_set_ne _ (by omega)]; exact h.out k hk
  · have hne : d ≠ some t := fun e => ht i hin (getD_set_eq _ hls) (by rw [hdi, e])
    rw [put_get _ _ _ _ hne]
    refine h.rest t fun k hk hkl => ht k hk ?_
    by_cases hki : k = i
    · subst hki; exact getD_set_eq _ hls
    · rw [getD_set_ne _ hki]; exact hkl
  · by_cases hki : k = i
    · subst hki
      have : slotAt ds (a.put d v) k = if d.isSome then v else undef := by
        unfold slotAt
        rw [hdi]
        simp only [Option.getD_some]
        cases hd : d with
        | none => rfl
        | some t =>
          simp only [Option.isSome_some, if_true]
          refine put_at _ _ _ ?_
          rw [h.size]
          exact apart_lt _ _ k t hap (by rw [hdt k hin, hdi, hd])
      rw [this]
      exact hG
    · rw [getD_set_ne _ hki] at hkl
      have : slotAt ds (a.put d v) k = slotAt ds a k := by
        unfold slotAt
        cases hd : (ds[k]?).getD none with
        | none => rfl
        | some t =>
          refine put_get _ _ _ _ fun e => hki ?_
          have hk2 : ds[k]? = some (some t) := by
            cases hq : ds[k]? with
            | none => rw [hq] at hd; cases hd
            | some x => rw [hq] at hd; simp at hd; rw [hd]
          exact apart_ne _ _ k i t hap (by rw [hdt k hk]; exact hk2) (by rw [hdt i hin, hdi, e])
      rw [this]
      exact hK k hk _ _ _ hR (h.facts k hk hkl)
  · have hj2 : j < n ∧ listed.getD j false = true := by
      by_cases hki : k = i
      · subst hki; exact hneedi j hj
      · rw [getD_set_ne _ hki] at hkl; exact h.clos k hk hkl j hj
    refine ⟨hj2.1, ?_⟩
    by_cases hji : j = i
    · rw [hji]; exact getD_set_eq _ hls
    · rw [getD_set_ne _ hji]; exact hj2.2
end
section
open Go.RowKit

abbrev Bel : World → World → Prop := fun x y => Below x.heap.size x y
variable {P : Program} {ops : List Oper} {ds : List (Option Tmp)} {need : List (List Nat)} {a0 : Act} {w0 : World} {R : World → World → Prop} {Gs : List (Value → World → Prop)} {Q : Exit → Act → World → Prop}
theorem StepOk.plain {i : Nat} {o : Oper} {g : Value → World → Prop} (hg : Gs.getD i (fun _ _ => True) = g) (hgd : o.guard = none) (hd : o.dst.isSome = true)
    (h : ∀ a w, a.tmps.size = a0.tmps.size → R w0 w → (∀ t, (∀ d ∈ ds, d ≠ some t) → a.tmps.getD t undef = a0.tmps.getD t undef) → (∀ j ∈ need.getD i [], (Gs.getD j (fun _ _ => True)) (slotAt ds a j) w) →
      o.wp P a w (fun a' w' => ∃ v, a' = a.put o.dst v ∧ R w w' ∧ g v w') Q) : StepOk P ops ds need a0 w0 R Gs Q i o := by
  intro a w h1 h2 h3 h4
  refine .inl ⟨by unfold Region.wanted; rw [hgd], Oper.wp_mono (fun a' w' ⟨v, e, r, hv⟩ => ⟨v, e, r, ?_⟩) (h a w h1 h2 h3 h4)⟩
  rw [hg, if_pos hd]
  exact hv
theorem Keeps.const (c : Value) : Keeps Bel (fun v _ => v = c) := fun _ _ _ _ h => h
section
variable {o : Oper} {a : Act} {w : World}
end
end
end Go.Proofs.YtfjimoccliejdaaGreatDoor
end
section
namespace Go.Proofs.YtfjimoccliejdaaGreatDoor
section
open Go.RowKit Go.Shelf
attribute [local go_sem] Oper.semAt_some

theorem columns_any (h : Hd) (lk : List Ex) (A : Option Addr) (cap : Nat) (w : World) (hX : XsAt w.heap.size w lk A) (hcap : lk.length ≤ cap) (hsm : AllSm (.mk h lk)) (hc : cnt (.mk h lk) ≤ 999999) (hT : Tabs w) :
    Calls Tryz.prog 152 #[XV h A lk.length cap] w (ListBack w (if okX (.mk h lk) = true then kndX 2 (.mk h lk) else [])) := by
  have hb0 := ba w (xbox h A lk.length cap)
  have HC := Lib.hid (pick2_any h lk A cap _ (XsAt.next hX hb0) hcap hsm hc (hT.kept hb0))
  have HX1 := Lib.hid (MapKept.heap_alloc w (xbox h A lk.length cap)).1
  obtain ⟨⟨y0, y1, y2, y3, y4, y5, y6, y7⟩, _⟩ := cell8 HX1.out
  have HB0 := Lib.hid hb0
  obtain ⟨L, hL⟩ : ∃ L, (if okX (.mk h lk) = true then kndX 2 (.mk h lk) else []) = L := ⟨_, rfl⟩
  rw [hL] at HC ⊢
  clear hX hT hb0 hsm hL
  go_enter Tryz.func152, Tryz.ntmps152
  go_wp2_with fail
  refine HC.out.mono ?_
  rintro e w1 ⟨A1, c1, rfl, hl, hx, hb⟩
  have HX := Lib.hid hx
  have HB := Lib.hid (bt HB0.out hb)
  clear hb hx
  go_wp2_with fail
  go_ret
  exact ⟨A1, c1, rfl, hl, HX.out, HB.out⟩
theorem aggs_any (h : Hd) (lk : List Ex) (A : Option Addr) (cap : Nat) (w : World) (hX : XsAt w.heap.size w lk A) (hcap : lk.length ≤ cap) (hsm : AllSm (.mk h lk)) (hc : cnt (.mk h lk) ≤ 999999) (hT : Tabs w) :
    Calls Tryz.prog 137 #[XV h A lk.length cap] w (ListBack w (if okX (.mk h lk) = true then kndX 4 (.mk h lk) else [])) := by
  have hb0 := ba w (xbox h A lk.length cap)
  have HC := Lib.hid (pick4_any h lk A cap _ (XsAt.next hX hb0) hcap hsm hc (hT.kept hb0))
  have HX1 := Lib.hid (MapKept.heap_alloc w (xbox h A lk.length cap)).1
  obtain ⟨⟨y0, y1, y2, y3, y4, y5, y6, y7⟩, _⟩ := cell8 HX1.out
  have HB0 := Lib.hid hb0
  obtain ⟨L, hL⟩ : ∃ L, (if okX (.mk h lk) = true then kndX 4 (.mk h lk) else []) = L := ⟨_, rfl⟩
  rw [hL] at HC ⊢
  clear hX hT hb0 hsm hL
  go_enter Tryz.func137, Tryz.ntmps137
  go_wp2_with fail
  refine HC.out.mono ?_
  rintro e w1 ⟨A1, c1, rfl, hl, hx, hb⟩
  have HX := Lib.hid hx
  have HB := Lib.hid (bt HB0.out hb)
  clear hb hx
  go_wp2_with fail
  go_ret
  exact ⟨A1, c1, rfl, hl, HX.out, HB.out⟩
end
section
open Go.RowKit Go.Shelf
attribute [local go_sem] Oper.semAt_some

def EV (x : Ex) (v : Value) (w : World) : Prop := ∃ A cap, v = XV x.hd A x.kids.length cap ∧ x.kids.length ≤ cap ∧ XsAt w.heap.size w x.kids A
def LV (l : List Ex) (v : Value) (w : World) : Prop := ∃ A cap, v = .slice A l.length cap ∧ l.length ≤ cap ∧ XsAt w.heap.size w l A
theorem EV.next {x : Ex} {v : Value} {w w' : World} (hb : Bel w w') (h : EV x v w) : EV x v w' := by
  obtain ⟨A, cap, e, hl, hx⟩ := h
  exact ⟨A, cap, e, hl, XsAt.next hx hb⟩
theorem LV.next {l : List Ex} {v : Value} {w w' : World} (hb : Bel w w') (h : LV l v w) : LV l v w' := by
  obtain ⟨A, cap, e, hl, hx⟩ := h
  exact ⟨A, cap, e, hl, XsAt.next hx hb⟩
theorem EV.leaf (h : Hd) (w : World) : EV (.mk h []) (XV h none 0 0) w := ⟨none, 0, rfl, Nat.le_refl _, by show XsB _ _ [] _; rw [XsB]; trivial⟩
theorem LV.nil (w : World) : LV [] (.slice none 0 0) w := ⟨none, 0, rfl, Nat.le_refl _, by rw [XsAt, XsB]; trivial⟩
theorem LV.ofBack {w w' : World} {l : List Ex} {e : Ending} (h : ListBack w l e w') : ∃ v, e = .returned v ∧ Bel w w' ∧ LV l v w' := by
  obtain ⟨A, cap, rfl, hl, hx, hb⟩ := h
  exact ⟨_, rfl, hb, A, cap, rfl, hl, hx⟩
theorem EV.ofCopy {w w' : World} {x : Ex} {e : Ending} (h : CopyE w x e w') : ∃ v, e = .returned v ∧ Bel w w' ∧ EV x v w' := by
  obtain ⟨A, cap, rfl, hl, hx, hb⟩ := h
  exact ⟨_, rfl, hb, A, cap, rfl, hl, XsB.go (fun _ _ => rfl) (fun k hk => hk.2) _ _ hx⟩

/-! The program's own. -/
theorem ev_check {x : Ex} {v : Value} {w : World} (h : EV x v w) (hsm : AllSm x) (hc : cnt x ≤ 999999) (hT : Tabs w) {c : Int} (e : chkI x = c) :
    Calls Tryz.prog 30 #[v] w fun e w' => ∃ u, e = .returned u ∧ Bel w w' ∧ u = .int .i64 c := by
  obtain ⟨hd, l⟩ := x
  obtain ⟨A, cap, rfl, hl, hx⟩ := h
  refine (xcheck_any hd l A cap w hx hl hsm hc hT).mono ?_
  rintro _ w' ⟨rfl, hb⟩
  exact ⟨_, rfl, hb, by rw [e]⟩
theorem ev_columns {x : Ex} {v : Value} {w : World} (h : EV x v w) (hsm : AllSm x) (hc : cnt x ≤ 999999) (hT : Tabs w) :
    Calls Tryz.prog 152 #[v] w fun e w' => ∃ u, e = .returned u ∧ Bel w w' ∧ LV (if okX x = true then kndX 2 x else []) u w' := by
  obtain ⟨hd, l⟩ := x
  obtain ⟨A, cap, rfl, hl, hx⟩ := h
  exact (columns_any hd l A cap w hx hl hsm hc hT).mono fun _ _ h => LV.ofBack h
theorem ev_aggs {x : Ex} {v : Value} {w : World} (h : EV x v w) (hsm : AllSm x) (hc : cnt x ≤ 999999) (hT : Tabs w) :
    Calls Tryz.prog 137 #[v] w fun e w' => ∃ u, e = .returned u ∧ Bel w w' ∧ LV (if okX x = true then kndX 4 x else []) u w' := by
  obtain ⟨hd, l⟩ := x
  obtain ⟨A, cap, rfl, hl, hx⟩ := h
  exact (aggs_any hd l A cap w hx hl hsm hc hT).mono fun _ _ h => LV.ofBack h
theorem ev_same {x y : Ex} {v u : Value} {w : World} (h : EV x v w) (h' : EV y u w) (hc : cnt x ≤ 1000000) (hc' : cnt y ≤ 1000000) {c : Bool} (e : sameX x y = c) :
    Calls Tryz.prog 72 #[v, u] w fun e w' => ∃ u, e = .returned u ∧ Bel w w' ∧ u = .bool c := by
  obtain ⟨hd, l⟩ := x
  obtain ⟨hd', l'⟩ := y
  obtain ⟨A, cap, rfl, hl, hx⟩ := h
  obtain ⟨A', cap', rfl, hl', hx'⟩ := h'
  refine (xsame_any hd hd' l l' w A cap A' cap' hx hl hx' hl' hc hc').mono ?_
  rintro _ w' ⟨rfl, hb⟩
  exact ⟨_, rfl, hb, by rw [e]⟩
theorem ev_agg {n : Int} {l : List Ex} {v : Value} {w : World} (h : LV l v w) (hc : cntL l ≤ 1000000) :
    Calls Tryz.prog 182 #[.int .i64 n, v] w fun e w' => ∃ u, e = .returned u ∧ Bel w w' ∧ EV (.mk (hdA n) l) u w' := by
  obtain ⟨A, cap, rfl, hl, hx⟩ := h
  exact (agg_any n l w A cap hc hx).mono fun _ _ h => EV.ofCopy h
theorem ev_lit {k n : Int} {s : ByteArray} {w : World} :
    Calls Tryz.prog 169 #[VV k n s] w fun e w' => ∃ u, e = .returned u ∧ Bel w w' ∧ u = XV (hdL k n s) none 0 0 :=
  (lit_any k n s w).mono fun _ _ ⟨h1, h2⟩ => ⟨_, h1, h2, rfl⟩
theorem ev_column {t c : ByteArray} {w : World} :
    Calls Tryz.prog 130 #[.string t, .string c] w fun e w' => ∃ u, e = .returned u ∧ Bel w w' ∧ u = XV (hdC t c) none 0 0 :=
  (column_any t c w).mono fun _ _ ⟨h1, h2⟩ => ⟨_, h1, h2, rfl⟩
theorem ev_arity {n : Int} {w : World} {c : Int} (e : arI n = c) :
    Calls Tryz.prog 111 #[.int .i64 n] w fun e w' => ∃ u, e = .returned u ∧ Bel w w' ∧ u = .int .i64 c :=
  (arity_any n w).mono fun _ w' ⟨h1, h2⟩ => ⟨_, h1, by rw [h2]; exact Below.refl _ _, by rw [e]⟩

/-! Operations. -/
section
variable {o : Oper} {a : Act} {w : World}
theorem XC.range {g p : Nat} {h : Hd} {A : Option Addr} {len cap : Nat} (c : XC w g p h A len cap) : w.rangeAt g p [.int .i64 h.k, .int .i64 h.n, .int .i64 h.vk, .int .i64 h.vn, .string h.vs, .string h.tab, .string h.col, .slice A len cap] := by
  intro j v hj
  obtain ⟨c0, c1, c2, c3, c4, c5, c6, c7⟩ := c
  have hl : j < 8 := by have := (List.getElem?_eq_some_iff.1 hj).1; simpa using this
  rcases (show j = 0 ∨ j = 1 ∨ j = 2 ∨ j = 3 ∨ j = 4 ∨ j = 5 ∨ j = 6 ∨ j = 7 by omega) with rfl | rfl | rfl | rfl | rfl | rfl | rfl | rfl
  all_goals
    simp only [List.getElem?_cons_zero, List.getElem?_cons_succ, Option.some.injEq] at hj
    subst hj
    assumption
end
theorem LV.made {w : World} {l : List Ex} {q : List XQ} (hq : XRs (fun k => k < w.heap.size) w l q) : LV l (.slice (some ⟨w.heap.size, 0, none⟩) l.length l.length) (w.alloc (.cells (xcells q).toArray 37)) := by
  refine ⟨_, _, rfl, Nat.le_refl _, ?_⟩
  refine XRs.xsB (B := fun k => k < (w.alloc (.cells (xcells q).toArray 37)).heap.size) (by simp) (hq.go (fun k hk => (ba w _).block k hk) (fun k hk => by rw [World.size_alloc]; omega)) fun j u hj => ?_
  have hn := (MapKept.heap_alloc w (.cells (xcells q).toArray 37)).1
  rw [Nat.zero_add]
  unfold World.cell?
  rw [hn]
  simp [hj]
theorem EV.row {x : Ex} {v : Value} {w : World} (h : EV x v w) : ∃ A cap, v = XV x.hd A x.kids.length cap ∧ XR (fun k => k < w.heap.size) w x (x.hd, A, x.kids.length, cap) := by
  obtain ⟨A, cap, e, hl, hx⟩ := h
  exact ⟨A, cap, e, rfl, rfl, hl, hx⟩
end
end Go.Proofs.YtfjimoccliejdaaGreatDoor
end
section
namespace Go.Proofs.YtfjimoccliejdaaGreatDoor
open Go.RowKit Go.Shelf

/-- Nothing but block m has changed, among the blocks that were there. -/
structure ButM (m : Nat) (w w' : World) : Prop where
  os : w'.os = w.os
  tape : w'.tape = w.tape
  output : w'.output = w.output
  size : w.heap.size ≤ w'.heap.size
  block : ∀ k, k < w.heap.size → k ≠ m → w'.heap[k]? = w.heap[k]?
theorem ButM.refl (m : Nat) (w : World) : ButM m w w := ⟨rfl, rfl, rfl, Nat.le_refl _, fun _ _ _ => rfl⟩
theorem ButM.trans {m : Nat} {a b c : World} (h : ButM m a b) (k : ButM m b c) : ButM m a c :=
  ⟨k.os.trans h.os, k.tape.trans h.tape, k.output.trans h.output, Nat.le_trans h.size k.size, fun q hq hm => (k.block q (Nat.lt_of_lt_of_le hq h.size) hm).trans (h.block q hq hm)⟩
theorem ButM.of {m : Nat} {w w' : World} (h : Below w.heap.size w w') : ButM m w w' := ⟨h.os, h.tape, h.output, h.size, fun k hk _ => h.block k hk⟩
theorem ButM.below {m B : Nat} {w w' : World} (h : ButM m w w') (hB : B ≤ m) (hw : B ≤ w.heap.size) : Below B w w' := ⟨h.os, h.tape, h.output, h.size, fun k hk => h.block k (Nat.lt_of_lt_of_le hk hw) (by omega)⟩
abbrev rbox (A : Option Addr) (n c : Nat) (b : Bool) : Obj := .cells #[.slice A n c, .bool b] 86
/-- The reader at m: its tokens, and whether it is stuck. -/
def RdM (w : World) (m : Nat) (s : Pa.Ps) : Prop := ∃ A c, w.heap[m]? = some (rbox A s.ts.length c s.bad) ∧ TkAt w A s.ts ∧ s.ts.length ≤ c ∧ ∀ a, A = some a → a.block < m
theorem RdM.lt {w : World} {m : Nat} {s : Pa.Ps} (h : RdM w m s) : m < w.heap.size := by
  obtain ⟨A, c, h, _⟩ := h
  exact (Array.getElem?_eq_some_iff.1 h).1
theorem rcell {w : World} {m : Nat} {A : Option Addr} {n c : Nat} {b : Bool} (h : w.heap[m]? = some (rbox A n c b)) : w.cell? ⟨m, 0, none⟩ = some (.slice A n c) ∧ w.cell? ⟨m, 1, none⟩ = some (.bool b) := by
  refine ⟨?_, ?_⟩ <;> simp [World.cell?, h]
theorem RdM.next {w w' : World} {m : Nat} {s : Pa.Ps} (h : RdM w m s) (hb : Below w.heap.size w w') : RdM w' m s := by
  obtain ⟨A, c, h1, h2, h3⟩ := h
  exact ⟨A, c, (hb.block m (Array.getElem?_eq_some_iff.1 h1).1).trans h1, h2.kept hb, h3⟩
theorem RdM.low {w w' : World} {m : Nat} {s : Pa.Ps} (h : RdM w m s) (hb : ∀ k, k ≤ m → w'.heap[k]? = w.heap[k]?) : RdM w' m s := by
  obtain ⟨A, c, h1, h2, h3, h4⟩ := h
  refine ⟨A, c, (hb m (Nat.le_refl _)).trans h1, ?_, h3, h4⟩
  rcases h2 with h2 | ⟨g, off, rfl, h2⟩
  · exact .inl h2
  · have hg : g < m := h4 _ rfl
    exact .inr ⟨g, off, rfl, fun j u hj => (World.cell?_of_block (hb g (by omega))).trans (h2 j u hj)⟩
/-- A token as a value. -/
abbrev tkv (x : TkA) : Value := .agg #[.int .i64 x.1.k, .string ⟨x.1.s.toArray⟩, .int .i64 x.1.n, .int .i64 x.2]
theorem RdM.head {w : World} {m : Nat} {s : Pa.Ps} (h : RdM w m s) (hf : Pa.Fin s.ts) : ∃ x g off c, w.heap[m]? = some (rbox (some ⟨g, off, none⟩) s.ts.length c s.bad) ∧ s.ts.head? = some x ∧ s.tk = x.1 ∧ s.at = x.2 ∧ TC w g off x ∧ s.ts.length ≤ c ∧ 0 < s.ts.length := by
  obtain ⟨A, c, h1, h2, h3⟩ := h
  obtain ⟨ts, b⟩ := s
  have hn := hf.ne
  cases ts with
  | nil => simp at hn
  | cons x l =>
    obtain ⟨g, off, rfl, hc⟩ := h2.at (i := 0) (x := x) rfl
    exact ⟨x, g, off, c, h1, rfl, rfl, rfl, by simpa using hc, h3.1, hn⟩
end Go.Proofs.YtfjimoccliejdaaGreatDoor
end
section
namespace Go.Proofs.YtfjimoccliejdaaGreatDoor
open Go.RowKit Go.Shelf

set_option maxRecDepth 100000 in
theorem next_any (m : Nat) (s : Pa.Ps) (w : World) (h : RdM w m s) (hf : Pa.Fin s.ts) :
    Calls Tryz.prog 40 #[.pointer (some ⟨m, 0, none⟩)] w fun e w' => (∃ x, s.ts.head? = some x ∧ s.tk = x.1 ∧ s.at = x.2 ∧ e = .returned (tkv x)) ∧ Below w.heap.size w w' := by
  have hb := ba w (.cells #[.int .i64 0, .string ⟨#[]⟩, .int .i64 0, .int .i64 0] 66)
  have h' := h.next hb
  obtain ⟨x, g, off, c, h1, h2, h3, h4, ⟨c0, c1, c2, c3⟩, h5, h6⟩ := h'.head hf
  obtain ⟨r0, r1⟩ := rcell h1
  have hlen : (0 : Int) < (s.ts.length : Int) := by omega
  have HB := Lib.hid hb
  have HE := Lib.hid (show ∃ y, s.ts.head? = some y ∧ s.tk = y.1 ∧ s.at = y.2 ∧ tkv x = tkv y from ⟨x, h2, h3, h4, rfl⟩)
  clear h h' h1 h2 h3 h4 hb
  go_enter Tryz.func40, Tryz.ntmps40
  go_wp2_with fail
  refine bodyPost_ret (v := tkv x) (by simp [results, Tryz.results40, go_sem]) rfl ⟨?_, ba w _⟩
  obtain ⟨y, h1, h2, h3, h4⟩ := HE.out
  exact ⟨y, h1, h2, h3, by rw [h4]⟩
end Go.Proofs.YtfjimoccliejdaaGreatDoor
end
section
namespace Go.Proofs.YtfjimoccliejdaaGreatDoor
open Go.RowKit Go.Shelf

theorem isW_eq (x : TkA) (b : ByteArray) : Pa.isW (bs b) x.1 = ((x.1.s == b.toList) && (x.1.k == 2 || x.1.k == 5)) := by
  rw [ByteArray.toList_eq]; rfl
theorem int_k (n : Nat) (m : Nat) : ((n : Int) == (m : Int)) = (n == m) := by
  by_cases h : n = m
  · subst h; simp
  · rw [beq_eq_false_iff_ne.2 h, beq_eq_false_iff_ne]; omega
theorem takeF_any (x : TkA) (g : Nat) (b : ByteArray) (w : World) (hg : w.cell? ⟨g, 0, none⟩ = some (.string b)) :
    Calls Tryz.prog 84 #[tkv x, .pointer (some ⟨g, 0, none⟩)] w fun e w' => e = .returned (.bool (Pa.isW (bs b) x.1)) ∧ Below w.heap.size w w' := by
  have HB := Lib.hid (ba w (.cells #[.int .i64 x.1.k, .string ⟨x.1.s.toArray⟩, .int .i64 x.1.n, .int .i64 x.2] 66))
  have hg' := cell_kept HB.out hg
  rw [isW_eq]
  clear hg
  go_enter Tryz.func84, Tryz.ntmps84
  go_wp2_with fail
  · rename_i h1 h2
    refine bodyPost_ret (v := .bool true) (by simp [results, Tryz.results84, go_sem]) rfl ⟨?_, ba w _⟩
    rw [h1, show x.1.k = 2 by omega]; simp
  · rename_i h1 h2
    refine bodyPost_ret (v := .bool ((x.1.k : Int) == 2 || (x.1.k : Int) == 5)) (by simp [results, Tryz.results84, go_sem]) rfl ⟨?_, ba w _⟩
    rw [h1, show (2 : Int) = ((2 : Nat) : Int) from rfl, show (5 : Int) = ((5 : Nat) : Int) from rfl, int_k, int_k]; simp
  · rename_i h1
    refine bodyPost_ret (v := .bool false) (by simp [results, Tryz.results84, go_sem]) rfl ⟨?_, ba w _⟩
    rw [beq_eq_false_iff_ne.2 h1]; simp
theorem kindF_any (x : TkA) (g : Nat) (k : Nat) (w : World) (hg : w.cell? ⟨g, 0, none⟩ = some (.int .i64 k)) :
    Calls Tryz.prog 131 #[tkv x, .pointer (some ⟨g, 0, none⟩)] w fun e w' => e = .returned (.bool (x.1.k == k)) ∧ Below w.heap.size w w' := by
  have HB := Lib.hid (ba w (.cells #[.int .i64 x.1.k, .string ⟨x.1.s.toArray⟩, .int .i64 x.1.n, .int .i64 x.2] 66))
  have hg' := cell_kept HB.out hg
  clear hg
  go_enter Tryz.func131, Tryz.ntmps131
  go_wp2_with fail
  refine bodyPost_ret (v := .bool ((x.1.k : Int) == (k : Int))) (by simp [results, Tryz.results131, go_sem]) rfl ⟨?_, ba w _⟩
  rw [int_k]
end Go.Proofs.YtfjimoccliejdaaGreatDoor
end
section
namespace Go.Proofs.YtfjimoccliejdaaGreatDoor
section
open Go.RowKit Go.Shelf

end
section
open Go.RowKit Go.Shelf

end
section
open Go.RowKit Go.Shelf

end
section
open Go.RowKit Go.Shelf

end
section
open Go.RowKit Go.Shelf

end
section
open Go.RowKit Go.Shelf

end
end Go.Proofs.YtfjimoccliejdaaGreatDoor
end
section
namespace Go.Proofs.YtfjimoccliejdaaGreatDoor
open Go.RowKit Go.Shelf

end Go.Proofs.YtfjimoccliejdaaGreatDoor
end
section
namespace Go.Proofs.YtfjimoccliejdaaGreatDoor
open Go.RowKit Go.Shelf

/-- What it tells of a text's token: some answer, true alone where there is one. -/
def TextE (p n : Nat) (T : Option (Lx.B × Lx.B)) (e : Ending) : Prop := match T with
  | some (o, r) => e = .returned (.tuple #[.agg #[.int .i64 4, .string ⟨o.toArray⟩, .int .i64 0, .int .i64 p], .int .i64 ((n - r.length : Nat) : Int), .bool true])
  | none => ∃ (k : Int) (b : ByteArray) (m a z : Int), e = .returned (.tuple #[.agg #[.int .i64 k, .string b, .int .i64 m, .int .i64 a], .int .i64 z, .bool false])
theorem TextE.no {p n : Nat} {T : Option (Lx.B × Lx.B)} (h : T = none) (k : Int) (b : ByteArray) (m a z : Int) : TextE p n T (.returned (.tuple #[.agg #[.int .i64 k, .string b, .int .i64 m, .int .i64 a], .int .i64 z, .bool false])) := by
  subst h; exact ⟨k, b, m, a, z, rfl⟩
end Go.Proofs.YtfjimoccliejdaaGreatDoor
end
section
namespace Go.Proofs.YtfjimoccliejdaaGreatDoor
open Go.RowKit Go.Shelf

end Go.Proofs.YtfjimoccliejdaaGreatDoor
end
section
namespace Go.Proofs.YtfjimoccliejdaaGreatDoor
open Go.RowKit Go.Shelf

/-- The signs of one byte, in the order in which they are looked through. -/
def ones : Lx.B := [40, 41, 44, 46, 42, 43, 45, 47, 37, 61, 60, 62]
/-- What is told of a token that begins at a place. -/
def OneE (p : Nat) (o : Option (Lx.Tok × Nat)) (e : Ending) : Prop := match o with
  | some (t, z) => e = .returned (.tuple #[tokV (t.k : Int) ⟨t.s.toArray⟩ (t.n : Int) (p : Int), .int .i64 ((p + z : Nat) : Int), .bool true])
  | none => ∃ (k : Int) (b : ByteArray) (m a z : Int), e = .returned (.tuple #[tokV k b m a, .int .i64 z, .bool false])
theorem OneE.no {p : Nat} {o : Option (Lx.Tok × Nat)} (h : o = none) (k : Int) (b : ByteArray) (m a z : Int) : OneE p o (.returned (.tuple #[tokV k b m a, .int .i64 z, .bool false])) := by
  subst h; exact ⟨k, b, m, a, z, rfl⟩
/-- The result's cells, and what may be stored there. -/
structure TokF (w : World) (U : Nat) (w2 : World) : Prop where
  x0 : w2.cell? ⟨U, 0, none⟩ = some (.int .i64 0)
  x1 : w2.cell? ⟨U, 1, none⟩ = some (.string ⟨#[]⟩)
  x2 : w2.cell? ⟨U, 2, none⟩ = some (.int .i64 0)
  x3 : w2.cell? ⟨U, 3, none⟩ = some (.int .i64 0)
  f0 : w2.frozen? ⟨U, 0, none⟩ = false
  f1 : w2.frozen? ⟨U, 1, none⟩ = false
  f2 : w2.frozen? ⟨U, 2, none⟩ = false
  f3 : w2.frozen? ⟨U, 3, none⟩ = false
  b : ∀ b0 b1 b2 b3 : Value, Below w.heap.size w ((((w2.setCell ⟨U, 0, none⟩ b0).setCell ⟨U, 1, none⟩ b1).setCell ⟨U, 2, none⟩ b2).setCell ⟨U, 3, none⟩ b3)
theorem tokF_of {w wr w2 : World} {U : Nat} (hb : Below w.heap.size w wr) (hu : wr.heap[U]? = some (.cells #[.int .i64 0, .string ⟨#[]⟩, .int .i64 0, .int .i64 0] 66)) (hU : w.heap.size = U) (h : Below wr.heap.size wr w2) : TokF w U w2 := by
  have hu2 : w2.heap[U]? = some (.cells #[.int .i64 0, .string ⟨#[]⟩, .int .i64 0, .int .i64 0] 66) := (h.block U (Array.getElem?_eq_some_iff.1 hu).1).trans hu
  refine ⟨?_, ?_, ?_, ?_, ?_, ?_, ?_, ?_, fun b0 b1 b2 b3 => below_tok (bt hb h) (Nat.le_of_eq hU) b0 b1 b2 b3⟩
  all_goals first | (simp [World.cell?, hu2]; done) | (unfold World.frozen?; rw [hu2]; rfl)
end Go.Proofs.YtfjimoccliejdaaGreatDoor
end
section
namespace Go.Proofs.YtfjimoccliejdaaGreatDoor
open Go.RowKit Go.Shelf

/-- What taking leaves: what was asked for, or nothing; the reader behind it. -/
def TakE (m : Nat) (w : World) (t : Bool) (tk : Lx.Tok) (s' : Pa.Ps) (e : Ending) (w' : World) : Prop :=
  ∃ y : TkA, e = .returned (.tuple #[tkv y, .bool t]) ∧ (t = true → y.1 = tk) ∧ (t = false → y = (Pa.noTok, 0)) ∧ RdM w' m s' ∧ ButM m w w'
theorem ButM.cell {m : Nat} {w w' : World} (h : ButM m w w') {g o : Nat} {v : Value} (hg : g ≠ m) (hc : w.cell? ⟨g, o, none⟩ = some v) : w'.cell? ⟨g, o, none⟩ = some v := by
  have hlt : g < w.heap.size := by
    rcases Nat.lt_or_ge g w.heap.size with hh | hh
    · exact hh
    · simp [World.cell?, Array.getElem?_eq_none hh] at hc
  have e := h.block g hlt hg
  simp only [World.cell?] at hc ⊢
  rw [e]
  exact hc
theorem RdM.adv {m : Nat} {w w' : World} {s : Pa.Ps} {g off c : Nat} (h : RdM w m s) (hf : Pa.Fin s.ts) (e1 : w.heap[m]? = some (rbox (some ⟨g, off, none⟩) s.ts.length c s.bad)) (hb : ButM m w w')
    (he : w'.heap[m]? = some (rbox (some ⟨g, off + 4, none⟩) (s.ts.length - 1) (c - 1) false)) : RdM w' m ⟨s.ts.tail, false⟩ := by
  obtain ⟨A, c', q1, q2, q3⟩ := h
  rw [e1] at q1
  obtain ⟨rfl, rfl⟩ : A = some ⟨g, off, none⟩ ∧ c' = c := by
    have := Option.some.inj q1
    simp only [rbox, Obj.cells.injEq, Array.mk.injEq, List.cons.injEq, Value.slice.injEq] at this
    exact ⟨this.1.1.1.symm, this.1.1.2.2.symm⟩
  obtain ⟨ts, bad⟩ := s
  have hn := hf.ne
  cases ts with
  | nil => simp at hn
  | cons x l =>
    refine ⟨some ⟨g, off + 4, none⟩, c' - 1, by simpa using he, ?_, by have q4 := q3.1; simp only [List.length_cons, List.tail_cons] at q4 ⊢; omega, fun a ha => by cases ha; exact q3.2 ⟨g, off, none⟩ rfl⟩
    rcases q2 with q2 | ⟨g', off', eA, q2⟩
    · cases q2
    · cases eA
      have hgm : g ≠ m := by
        rintro rfl
        have := q2 3 (.int .i64 x.2) rfl
        simp [World.cell?, e1] at this
      refine .inr ⟨g, off + 4, rfl, fun j u hj => ?_⟩
      have := q2 (4 + j) u (by
        show (tkc x ++ tks l)[4 + j]? = some u
        rw [List.getElem?_append_right (by show 4 ≤ 4 + j; omega), show 4 + j - (tkc x).length = j by show 4 + j - 4 = j; omega]
        exact hj)
      rw [← Nat.add_assoc] at this
      exact hb.cell hgm this
set_option maxRecDepth 100000 in
set_option maxHeartbeats 4000000 in
theorem takeIfW_any (m : Nat) (s : Pa.Ps) (g : Nat) (b : ByteArray) (w : World) (h : RdM w m s) (hf : Pa.Fin s.ts) (hg : w.cell? ⟨g, 0, none⟩ = some (.string b)) :
    Calls Tryz.prog 83 #[.pointer (some ⟨m, 0, none⟩), .func (.func 84) #[] #[.pointer (some ⟨g, 0, none⟩)]] w fun e w' => TakE m w (Pa.takeW (bs b) s).1 s.tk (Pa.takeW (bs b) s).2 e w' := by
  have HB := Lib.hid (ba w (.cells #[.int .i64 0, .string ⟨#[]⟩, .int .i64 0, .int .i64 0] 66))
  have HU := Lib.hid (MapKept.heap_alloc w (.cells #[.int .i64 0, .string ⟨#[]⟩, .int .i64 0, .int .i64 0] 66)).1
  have H1 := Lib.hid (h.next HB.out)
  have HG1 := Lib.hid (cell_kept HB.out hg)
  clear hg
  go_enter Tryz.func83, Tryz.ntmps83
  go_wp2_with fail
  generalize w.alloc (.cells #[.int .i64 0, .string ⟨#[]⟩, .int .i64 0, .int .i64 0] 66) = W1 at HB HU H1 HG1 ⊢
  obtain ⟨U, hU⟩ : ∃ U, w.heap.size = U := ⟨_, rfl⟩
  rw [hU] at HU ⊢
  have HUl := Lib.hid hU
  clear hU
  refine (next_any m s _ H1.out hf).mono ?_
  rintro e W2 ⟨⟨x, hx, htk, hat, rfl⟩, hb2⟩
  have hb3 := ba W2 (.cells #[.int .i64 x.1.k, .string ⟨x.1.s.toArray⟩, .int .i64 x.1.n, .int .i64 x.2] 66)
  have h3 := (H1.out.next hb2).next hb3
  have hg3 := cell_kept hb3 (cell_kept hb2 HG1.out)
  have HFc := Lib.hid (show ∀ w2, Below (W2.alloc (.cells #[.int .i64 x.1.k, .string ⟨x.1.s.toArray⟩, .int .i64 x.1.n, .int .i64 x.2] 66)).heap.size (W2.alloc (.cells #[.int .i64 x.1.k, .string ⟨x.1.s.toArray⟩, .int .i64 x.1.n, .int .i64 x.2] 66)) w2 → TokF w U w2 from fun w2 hb => tokF_of HB.out HU.out HUl.out (bt hb2 (bt hb3 hb)))
  obtain ⟨x', g', off, c, q1, q2, q3, q4, q0, q5, q6⟩ := h3.head hf
  obtain rfl : x = x' := by rw [hx] at q2; exact Option.some.inj q2
  obtain ⟨r0, r1⟩ := rcell q1
  have HQ1 := Lib.hid q1
  have H3 := Lib.hid h3
  have HX := Lib.hid htk
  have Hb2 := Lib.hid hb2
  have HG3 := Lib.hid hg3
  obtain ⟨x0, x1, x2, x3, f0, f1, f2, f3, hF⟩ := HFc.out _ (Below.refl _ _)
  have HF := Lib.hid hF
  clear hb2 hb3 h3 hg3 q1 q2 q3 q4 q0 hx htk hat hF
  cases hbad : s.bad with
  | true =>
    rw [hbad] at r1
    have HT : Pa.takeW (bs b) s = (false, s) := by simp [Pa.takeW, hbad]
    go_wp2_with fail
    refine bodyPost_ret (v := .tuple #[tkv (Pa.noTok, 0), .bool false]) (by simp [results, Tryz.results83, go_sem, x0, x1, x2, x3, Pa.noTok]) rfl ⟨(Pa.noTok, 0), ?_, ?_, fun _ => rfl, ?_, ?_⟩
    · rw [HT]
    · intro e; rw [HT] at e; cases e
    · rw [HT]; exact h.next (HF.out _ _ _ _)
    · exact ButM.of (HF.out _ _ _ _)
  | false =>
    rw [hbad] at r1
    go_wp2_with fail
    · refine (takeF_any x g b _ HG3.out).mono ?_
      rintro e W3 ⟨rfl, hb4⟩
      obtain ⟨x0, x1, x2, x3, f0, f1, f2, f3, hF⟩ := HFc.out _ hb4
      have HF := Lib.hid hF
      clear hF
      cases hw : Pa.isW (bs b) x.1 with
      | false =>
        have HT : Pa.takeW (bs b) s = (false, s) := by simp [Pa.takeW, hbad, HX.out, hw]
        clear hb4
        go_wp2_with fail
        refine bodyPost_ret (v := .tuple #[tkv (Pa.noTok, 0), .bool false]) (by simp [results, Tryz.results83, go_sem, x0, x1, x2, x3, Pa.noTok]) rfl ⟨(Pa.noTok, 0), ?_, ?_, fun _ => rfl, ?_, ?_⟩
        · rw [HT]
        · intro e; rw [HT] at e; cases e
        · rw [HT]; exact h.next (HF.out _ _ _ _)
        · exact ButM.of (HF.out _ _ _ _)
      | true =>
        have HT : Pa.takeW (bs b) s = (true, ⟨s.ts.tail, false⟩) := by simp [Pa.takeW, hbad, HX.out, hw]
        have hk6 : s.tk.k ≠ 6 := by
          rw [HX.out]
          intro e
          unfold Pa.isW at hw
          rw [e] at hw
          simp at hw
        obtain ⟨hft, hlt⟩ := hf.tail hk6
        have hl1 : 1 < s.ts.length := by have := hft.ne; omega
        have r0' := cell_kept hb4 r0
        have HQ3 := Lib.hid ((hb4.block m (Array.getElem?_eq_some_iff.1 HQ1.out).1).trans HQ1.out)
        have hfz : W3.frozen? ⟨m, 0, none⟩ = false := by unfold World.frozen?; rw [HQ3.out]; rfl
        have hb5 : W3.heap[W2.heap.size]? = some (.cells #[.int .i64 x.1.k, .string ⟨x.1.s.toArray⟩, .int .i64 x.1.n, .int .i64 x.2] 66) := (hb4.block _ (Array.getElem?_eq_some_iff.1 (MapKept.heap_alloc W2 _).1).1).trans (MapKept.heap_alloc W2 _).1
        have y0 : W3.cell? ⟨W2.heap.size, 0, none⟩ = some (.int .i64 x.1.k) := by simp [World.cell?, hb5]
        have y1 : W3.cell? ⟨W2.heap.size, 1, none⟩ = some (.string ⟨x.1.s.toArray⟩) := by simp [World.cell?, hb5]
        have y2 : W3.cell? ⟨W2.heap.size, 2, none⟩ = some (.int .i64 x.1.n) := by simp [World.cell?, hb5]
        have y3 : W3.cell? ⟨W2.heap.size, 3, none⟩ = some (.int .i64 x.2) := by simp [World.cell?, hb5]
        have hmw : m < w.heap.size := h.lt
        have hmU : m ≠ U := by have := HUl.out; omega
        have hUm : U ≠ m := fun e => hmU e.symm
        have hm2 : m ≠ W2.heap.size := by have := HB.out.size; have := Hb2.out.size; omega
        have h2m : W2.heap.size ≠ m := fun e => hm2 e.symm
        have HBw := Lib.hid (bt HB.out (bt Hb2.out (bt (ba W2 _) hb4)))
        clear hb4 hb5 r0 r1
        go_wp2_with fail
        have hB5 : ButM m w (((((W3.setCell ⟨m, 0, none⟩ (.slice (some ⟨g', off + 4, none⟩) (s.ts.length - 1) (c - 1))).setCell ⟨U, 0, none⟩ (.int .i64 x.1.k)).setCell ⟨U, 1, none⟩ (.string ⟨x.1.s.toArray⟩)).setCell ⟨U, 2, none⟩ (.int .i64 x.1.n)).setCell ⟨U, 3, none⟩ (.int .i64 x.2)) := by
          refine ⟨HBw.out.os, HBw.out.tape, HBw.out.output, by simp only [setc_size]; exact HBw.out.size, fun k hk hkm => ?_⟩
          have hkU : k ≠ U := by have := HUl.out; omega
          rw [setc_other hkU, setc_other hkU, setc_other hkU, setc_other hkU, setc_other hkm]
          exact HBw.out.block k hk
        have e1 : w.heap[m]? = some (rbox (some ⟨g', off, none⟩) s.ts.length c s.bad) := by rw [← HBw.out.block m hmw]; exact HQ3.out
        have he : (((((W3.setCell ⟨m, 0, none⟩ (.slice (some ⟨g', off + 4, none⟩) (s.ts.length - 1) (c - 1))).setCell ⟨U, 0, none⟩ (.int .i64 x.1.k)).setCell ⟨U, 1, none⟩ (.string ⟨x.1.s.toArray⟩)).setCell ⟨U, 2, none⟩ (.int .i64 x.1.n)).setCell ⟨U, 3, none⟩ (.int .i64 x.2)).heap[m]? = some (rbox (some ⟨g', off + 4, none⟩) (s.ts.length - 1) (c - 1) false) := by
          rw [setc_other hmU, setc_other hmU, setc_other hmU, setc_other hmU]
          have := HQ3.out
          rw [hbad] at this
          obtain ⟨hlt, hge⟩ := Array.getElem?_eq_some_iff.1 this
          simp [World.setCell, Array.getElem?_modify, this, rbox]
        refine bodyPost_ret (v := .tuple #[tkv x, .bool true]) (by simp [results, Tryz.results83, go_sem, x0, x1, x2, x3]) rfl ⟨x, ?_, fun _ => HX.out.symm, ?_, ?_, hB5⟩
        · rw [HT]
        · intro e; rw [HT] at e; cases e
        · rw [HT]; exact h.adv hf e1 hB5 he
end Go.Proofs.YtfjimoccliejdaaGreatDoor
end
section
namespace Go.Proofs.YtfjimoccliejdaaGreatDoor
open Go.RowKit Go.Shelf

set_option maxRecDepth 100000 in
set_option maxHeartbeats 4000000 in
theorem takeIfK_any (m : Nat) (s : Pa.Ps) (g : Nat) (k : Nat) (hk6 : k ≠ 6) (w : World) (h : RdM w m s) (hf : Pa.Fin s.ts) (hg : w.cell? ⟨g, 0, none⟩ = some (.int .i64 k)) :
    Calls Tryz.prog 83 #[.pointer (some ⟨m, 0, none⟩), .func (.func 131) #[] #[.pointer (some ⟨g, 0, none⟩)]] w fun e w' => TakE m w (Pa.takeK k s).1.isSome s.tk (Pa.takeK k s).2 e w' := by
  have HB := Lib.hid (ba w (.cells #[.int .i64 0, .string ⟨#[]⟩, .int .i64 0, .int .i64 0] 66))
  have HU := Lib.hid (MapKept.heap_alloc w (.cells #[.int .i64 0, .string ⟨#[]⟩, .int .i64 0, .int .i64 0] 66)).1
  have H1 := Lib.hid (h.next HB.out)
  have HG1 := Lib.hid (cell_kept HB.out hg)
  clear hg
  go_enter Tryz.func83, Tryz.ntmps83
  go_wp2_with fail
  generalize w.alloc (.cells #[.int .i64 0, .string ⟨#[]⟩, .int .i64 0, .int .i64 0] 66) = W1 at HB HU H1 HG1 ⊢
  obtain ⟨U, hU⟩ : ∃ U, w.heap.size = U := ⟨_, rfl⟩
  rw [hU] at HU ⊢
  have HUl := Lib.hid hU
  clear hU
  refine (next_any m s _ H1.out hf).mono ?_
  rintro e W2 ⟨⟨x, hx, htk, hat, rfl⟩, hb2⟩
  have hb3 := ba W2 (.cells #[.int .i64 x.1.k, .string ⟨x.1.s.toArray⟩, .int .i64 x.1.n, .int .i64 x.2] 66)
  have h3 := (H1.out.next hb2).next hb3
  have hg3 := cell_kept hb3 (cell_kept hb2 HG1.out)
  have HFc := Lib.hid (show ∀ w2, Below (W2.alloc (.cells #[.int .i64 x.1.k, .string ⟨x.1.s.toArray⟩, .int .i64 x.1.n, .int .i64 x.2] 66)).heap.size (W2.alloc (.cells #[.int .i64 x.1.k, .string ⟨x.1.s.toArray⟩, .int .i64 x.1.n, .int .i64 x.2] 66)) w2 → TokF w U w2 from fun w2 hb => tokF_of HB.out HU.out HUl.out (bt hb2 (bt hb3 hb)))
  obtain ⟨x', g', off, c, q1, q2, q3, q4, q0, q5, q6⟩ := h3.head hf
  obtain rfl : x = x' := by rw [hx] at q2; exact Option.some.inj q2
  obtain ⟨r0, r1⟩ := rcell q1
  have HQ1 := Lib.hid q1
  have H3 := Lib.hid h3
  have HX := Lib.hid htk
  have Hb2 := Lib.hid hb2
  have HG3 := Lib.hid hg3
  obtain ⟨x0, x1, x2, x3, f0, f1, f2, f3, hF⟩ := HFc.out _ (Below.refl _ _)
  have HF := Lib.hid hF
  clear hb2 hb3 h3 hg3 q1 q2 q3 q4 q0 hx htk hat hF
  cases hbad : s.bad with
  | true =>
    rw [hbad] at r1
    have HT : Pa.takeK k s = (none, s) := by simp [Pa.takeK, hbad]
    go_wp2_with fail
    refine bodyPost_ret (v := .tuple #[tkv (Pa.noTok, 0), .bool false]) (by simp [results, Tryz.results83, go_sem, x0, x1, x2, x3, Pa.noTok]) rfl ⟨(Pa.noTok, 0), ?_, ?_, fun _ => rfl, ?_, ?_⟩
    · rw [HT]; rfl
    · intro e; rw [HT] at e; cases e
    · rw [HT]; exact h.next (HF.out _ _ _ _)
    · exact ButM.of (HF.out _ _ _ _)
  | false =>
    rw [hbad] at r1
    go_wp2_with fail
    · refine (kindF_any x g k _ HG3.out).mono ?_
      rintro e W3 ⟨rfl, hb4⟩
      obtain ⟨x0, x1, x2, x3, f0, f1, f2, f3, hF⟩ := HFc.out _ hb4
      have HF := Lib.hid hF
      clear hF
      cases hw : (x.1.k == k) with
      | false =>
        have HT : Pa.takeK k s = (none, s) := by simp [Pa.takeK, hbad, HX.out, hw]
        clear hb4
        go_wp2_with fail
        refine bodyPost_ret (v := .tuple #[tkv (Pa.noTok, 0), .bool false]) (by simp [results, Tryz.results83, go_sem, x0, x1, x2, x3, Pa.noTok]) rfl ⟨(Pa.noTok, 0), ?_, ?_, fun _ => rfl, ?_, ?_⟩
        · rw [HT]; rfl
        · intro e; rw [HT] at e; cases e
        · rw [HT]; exact h.next (HF.out _ _ _ _)
        · exact ButM.of (HF.out _ _ _ _)
      | true =>
        have HT : Pa.takeK k s = (some s.tk, ⟨s.ts.tail, false⟩) := by simp [Pa.takeK, hbad, HX.out, hw]
        have hk7 : s.tk.k ≠ 6 := by
          rw [HX.out]
          intro e
          rw [e] at hw
          exact hk6 (eq_of_beq hw).symm
        obtain ⟨hft, hlt⟩ := hf.tail hk7
        have hl1 : 1 < s.ts.length := by have := hft.ne; omega
        have r0' := cell_kept hb4 r0
        have HQ3 := Lib.hid ((hb4.block m (Array.getElem?_eq_some_iff.1 HQ1.out).1).trans HQ1.out)
        have hfz : W3.frozen? ⟨m, 0, none⟩ = false := by unfold World.frozen?; rw [HQ3.out]; rfl
        have hb5 : W3.heap[W2.heap.size]? = some (.cells #[.int .i64 x.1.k, .string ⟨x.1.s.toArray⟩, .int .i64 x.1.n, .int .i64 x.2] 66) := (hb4.block _ (Array.getElem?_eq_some_iff.1 (MapKept.heap_alloc W2 _).1).1).trans (MapKept.heap_alloc W2 _).1
        have y0 : W3.cell? ⟨W2.heap.size, 0, none⟩ = some (.int .i64 x.1.k) := by simp [World.cell?, hb5]
        have y1 : W3.cell? ⟨W2.heap.size, 1, none⟩ = some (.string ⟨x.1.s.toArray⟩) := by simp [World.cell?, hb5]
        have y2 : W3.cell? ⟨W2.heap.size, 2, none⟩ = some (.int .i64 x.1.n) := by simp [World.cell?, hb5]
        have y3 : W3.cell? ⟨W2.heap.size, 3, none⟩ = some (.int .i64 x.2) := by simp [World.cell?, hb5]
        have hmw : m < w.heap.size := h.lt
        have hmU : m ≠ U := by have := HUl.out; omega
        have hUm : U ≠ m := fun e => hmU e.symm
        have hm2 : m ≠ W2.heap.size := by have := HB.out.size; have := Hb2.out.size; omega
        have h2m : W2.heap.size ≠ m := fun e => hm2 e.symm
        have HBw := Lib.hid (bt HB.out (bt Hb2.out (bt (ba W2 _) hb4)))
        clear hb4 hb5 r0 r1
        go_wp2_with fail
        have hB5 : ButM m w (((((W3.setCell ⟨m, 0, none⟩ (.slice (some ⟨g', off + 4, none⟩) (s.ts.length - 1) (c - 1))).setCell ⟨U, 0, none⟩ (.int .i64 x.1.k)).setCell ⟨U, 1, none⟩ (.string ⟨x.1.s.toArray⟩)).setCell ⟨U, 2, none⟩ (.int .i64 x.1.n)).setCell ⟨U, 3, none⟩ (.int .i64 x.2)) := by
          refine ⟨HBw.out.os, HBw.out.tape, HBw.out.output, by simp only [setc_size]; exact HBw.out.size, fun k hk hkm => ?_⟩
          have hkU : k ≠ U := by have := HUl.out; omega
          rw [setc_other hkU, setc_other hkU, setc_other hkU, setc_other hkU, setc_other hkm]
          exact HBw.out.block k hk
        have e1 : w.heap[m]? = some (rbox (some ⟨g', off, none⟩) s.ts.length c s.bad) := by rw [← HBw.out.block m hmw]; exact HQ3.out
        have he : (((((W3.setCell ⟨m, 0, none⟩ (.slice (some ⟨g', off + 4, none⟩) (s.ts.length - 1) (c - 1))).setCell ⟨U, 0, none⟩ (.int .i64 x.1.k)).setCell ⟨U, 1, none⟩ (.string ⟨x.1.s.toArray⟩)).setCell ⟨U, 2, none⟩ (.int .i64 x.1.n)).setCell ⟨U, 3, none⟩ (.int .i64 x.2)).heap[m]? = some (rbox (some ⟨g', off + 4, none⟩) (s.ts.length - 1) (c - 1) false) := by
          rw [setc_other hmU, setc_other hmU, setc_other hmU, setc_other hmU]
          have := HQ3.out
          rw [hbad] at this
          obtain ⟨hlt, hge⟩ := Array.getElem?_eq_some_iff.1 this
          simp [World.setCell, Array.getElem?_modify, this, rbox]
        refine bodyPost_ret (v := .tuple #[tkv x, .bool true]) (by simp [results, Tryz.results83, go_sem, x0, x1, x2, x3]) rfl ⟨x, ?_, fun _ => HX.out.symm, ?_, ?_, hB5⟩
        · rw [HT]; rfl
        · intro e; rw [HT] at e; cases e
        · rw [HT]; exact h.adv hf e1 hB5 he
end Go.Proofs.YtfjimoccliejdaaGreatDoor
end
section
namespace Go.Proofs.YtfjimoccliejdaaGreatDoor
open Go.RowKit Go.Shelf

/-- The table of the words that operators begin with. -/
def TabO (w : World) : Prop := ∀ j, j < 17 → w.cell? ⟨0, j, none⟩ = some (.string ⟨(Pa.begins j).toArray⟩)
theorem TabO.low {m : Nat} {w w' : World} (h : TabO w) (hg : 0 < m) (hb : ∀ k, k < m → w'.heap[k]? = w.heap[k]?) : TabO w' := fun j hj => (World.cell?_of_block (hb _ hg)).trans (h j hj)
/-- The reader, and all that it leans on: in its own block, and in older ones. -/
structure RS (m : Nat) (w : World) (s : Pa.Ps) : Prop where
  rd : RdM w m s
  fin : Pa.Fin s.ts
  tab : TabO w
  gm : 0 < m
theorem RS.low {m : Nat} {w w' : World} {s : Pa.Ps} (h : RS m w s) (hb : ∀ k, k ≤ m → w'.heap[k]? = w.heap[k]?) : RS m w' s := ⟨h.rd.low hb, h.fin, h.tab.low h.gm (fun k hk => hb k (Nat.le_of_lt hk)), h.gm⟩
theorem RS.lt {m : Nat} {w : World} {s : Pa.Ps} (h : RS m w s) : m < w.heap.size := h.rd.lt
theorem RS.next {m : Nat} {w w' : World} {s : Pa.Ps} (h : RS m w s) (hb : Below w.heap.size w w') : RS m w' s := h.low fun k hk => hb.block k (Nat.lt_of_le_of_lt hk h.lt)
theorem RS.tabs {m : Nat} {w w' : World} {s : Pa.Ps} (h : RS m w s) (hb : ButM m w w') : TabO w' := h.tab.low h.gm fun k hk => hb.block k (Nat.lt_trans hk h.lt) (Nat.ne_of_lt hk)
theorem bs_arr (l : Lx.B) : bs ⟨l.toArray⟩ = l := by simp [bs]
/-- It is stuck. -/
theorem RS.stuck {m : Nat} {w : World} {s : Pa.Ps} (h : RS m w s) : RS m (w.setCell ⟨m, 1, none⟩ (.bool true)) ⟨s.ts, true⟩ ∧ ButM m w (w.setCell ⟨m, 1, none⟩ (.bool true)) := by
  obtain ⟨A, c, h1, h2, h3, h4⟩ := h.rd
  have hM : ButM m w (w.setCell ⟨m, 1, none⟩ (.bool true)) := ⟨rfl, rfl, rfl, by rw [setc_size]; exact Nat.le_refl _, fun k _ hk => setc_other hk _⟩
  refine ⟨⟨⟨A, c, ?_, ?_, h3, h4⟩, h.fin, h.tabs hM, h.gm⟩, hM⟩
  · simp [World.setCell, Array.getElem?_modify, h1, rbox]
  · rcases h2 with h2 | ⟨g, off, rfl, h2⟩
    · exact .inl h2
    · have hg : g < m := h4 _ rfl
      exact .inr ⟨g, off, rfl, fun j u hj => (World.cell?_of_block (setc_other (by show g ≠ m; omega) _)).trans (h2 j u hj)⟩
theorem RS.frozen {m : Nat} {w : World} {s : Pa.Ps} (h : RS m w s) (j : Nat) : w.frozen? ⟨m, j, none⟩ = false := by
  obtain ⟨A, c, h1, _⟩ := h.rd
  simp [World.frozen?, h1, rbox]
theorem RS.c1 {m : Nat} {w : World} {s : Pa.Ps} (h : RS m w s) : w.cell? ⟨m, 1, none⟩ = some (.bool s.bad) := by
  obtain ⟨A, c, h1, _⟩ := h.rd
  exact (rcell h1).2
/-- Nothing but block U has changed, and nothing is new. -/
structure OnU (U : Nat) (w w' : World) : Prop where
  os : w'.os = w.os
  tape : w'.tape = w.tape
  output : w'.output = w.output
  size : w'.heap.size = w.heap.size
  block : ∀ k, k ≠ U → w'.heap[k]? = w.heap[k]?
theorem OnU.refl (U : Nat) (w : World) : OnU U w w := ⟨rfl, rfl, rfl, rfl, fun _ _ => rfl⟩
theorem OnU.set {U j : Nat} {w w' : World} {v : Value} (h : OnU U w w') : OnU U w (w'.setCell ⟨U, j, none⟩ v) :=
  ⟨h.os, h.tape, h.output, (setc_size _ _ _).trans h.size, fun k hk => (setc_other hk _).trans (h.block k hk)⟩
theorem OnU.trans {U : Nat} {a b c : World} (h : OnU U a b) (k : OnU U b c) : OnU U a c := ⟨k.os.trans h.os, k.tape.trans h.tape, k.output.trans h.output, k.size.trans h.size, fun q hq => (k.block q hq).trans (h.block q hq)⟩
theorem OnU.rs {m U : Nat} {w w' : World} {s : Pa.Ps} (h : OnU U w w') (hm : m < U) (hs : RS m w s) : RS m w' s := hs.low fun k hk => h.block k (by omega)
theorem OnU.but {m U : Nat} {w0 w w' : World} (h : OnU U w w') (hU : w0.heap.size ≤ U) (hs : ButM m w0 w) : ButM m w0 w' :=
  ⟨h.os.trans hs.os, h.tape.trans hs.tape, h.output.trans hs.output, by rw [h.size]; exact hs.size, fun k hk hkm => (h.block k (by omega)).trans (hs.block k hk hkm)⟩
/-- A box of one's own, in a world. -/
def BxU (w : World) (U : Nat) (cs : Array Value) (T : TypeId) : Prop := w.heap[U]? = some (.cells cs T (0, 0))
theorem BxU.cell {w : World} {U : Nat} {cs : Array Value} {T : TypeId} (h : BxU w U cs T) (j : Nat) : w.cell? ⟨U, j, none⟩ = cs[j]? := by
  unfold BxU at h
  simp [World.cell?, h]
theorem BxU.frozen {w : World} {U : Nat} {cs : Array Value} {T : TypeId} (h : BxU w U cs T) (j : Nat) : w.frozen? ⟨U, j, none⟩ = false := by
  unfold BxU at h
  simp [World.frozen?, h]
theorem BxU.next {w w' : World} {U : Nat} {cs : Array Value} {T : TypeId} (h : BxU w U cs T) (hb : Below w.heap.size w w') : BxU w' U cs T := by
  unfold BxU at h ⊢
  exact (hb.block U (Array.getElem?_eq_some_iff.1 h).1).trans h
theorem BxU.but {m : Nat} {w w' : World} {U : Nat} {cs : Array Value} {T : TypeId} (h : BxU w U cs T) (hm : m < U) (hb : ButM m w w') : BxU w' U cs T := by
  unfold BxU at h ⊢
  exact (hb.block U (Array.getElem?_eq_some_iff.1 h).1 (by omega)).trans h
theorem BxU.lt {w : World} {U : Nat} {cs : Array Value} {T : TypeId} (h : BxU w U cs T) : U < w.heap.size := (Array.getElem?_eq_some_iff.1 (show w.heap[U]? = _ from h)).1
/-- The end of a call that writes into a box of its own. -/
theorem fin_on {m U : Nat} {w Wn W' : World} {s : Pa.Ps} (hO : OnU U Wn W') (hU : w.heap.size ≤ U) (hm : m < U) (hR : RS m Wn s) (hM : ButM m w Wn) : RS m W' s ∧ ButM m w W' := ⟨hO.rs hm hR, hO.but hU hM⟩
abbrev cs4 : Array Value := #[.int .i64 0, .string ⟨#[]⟩, .int .i64 0, .int .i64 0]
theorem field_tokS (k : Int) (b : ByteArray) (n a : Int) (w : World) : (Instr.field 66 (.agg #[.int .i64 k, .string b, .int .i64 n, .int .i64 a]) 1).run Tryz.prog w = .ok (.string b) w := by kernel_rfl
theorem field_tokN (k : Int) (b : ByteArray) (n a : Int) (w : World) : (Instr.field 66 (.agg #[.int .i64 k, .string b, .int .i64 n, .int .i64 a]) 2).run Tryz.prog w = .ok (.int .i64 n) w := by kernel_rfl
/-- A word was taken, or not. -/
def TkE (m : Nat) (w : World) (t : Bool) (s' : Pa.Ps) (e : Ending) (w' : World) : Prop := e = .returned (.bool t) ∧ RS m w' s' ∧ ButM m w w'
set_option maxRecDepth 100000 in
theorem take_any (m : Nat) (s : Pa.Ps) (b : Lx.B) (w : World) (h : RS m w s) :
    Calls Tryz.prog 46 #[.pointer (some ⟨m, 0, none⟩), .string ⟨b.toArray⟩] w (TkE m w (Pa.takeW b s).1 (Pa.takeW b s).2) := by
  have HB := Lib.hid (ba w (.cells #[.string ⟨b.toArray⟩] 9))
  have hg : (w.alloc (.cells #[.string ⟨b.toArray⟩] 9)).cell? ⟨w.heap.size, 0, none⟩ = some (.string ⟨b.toArray⟩) := by rw [World.cell?, (MapKept.heap_alloc w _).1]; rfl
  have HT := Lib.hid (takeIfW_any m s w.heap.size ⟨b.toArray⟩ _ (h.rd.next HB.out) h.fin hg)
  rw [bs_arr] at HT
  have hf := (Pa.takeW_le b h.fin).1.fin
  obtain ⟨t, ht⟩ : ∃ t, (Pa.takeW b s).1 = t := ⟨_, rfl⟩
  obtain ⟨s', hs'⟩ : ∃ s', (Pa.takeW b s).2 = s' := ⟨_, rfl⟩
  rw [ht, hs'] at HT ⊢
  rw [hs'] at hf
  have HH := Lib.hid h
  have HF := Lib.hid hf
  clear h hf ht hs' hg
  go_enter Tryz.func46, Tryz.ntmps46
  go_wp2_with fail
  refine HT.out.mono ?_
  rintro e w' ⟨y, rfl, _, _, hR, hM⟩
  have HE := Lib.hid (show RS m w' s' ∧ ButM m w w' from ⟨⟨hR, HF.out, HH.out.tabs ((ButM.of HB.out).trans hM), HH.out.gm⟩, (ButM.of HB.out).trans hM⟩)
  clear hR hM
  go_wp2_with fail
  exact bodyPost_ret (v := .bool t) (by simp [results, Tryz.results46, go_sem]) rfl ⟨rfl, HE.out.1.next (ba w' _), HE.out.2.trans (ButM.of (ba w' _))⟩
/-- A token was taken, or not. -/
def TkK (m : Nat) (w : World) (t : Bool) (tk : Lx.Tok) (s' : Pa.Ps) (e : Ending) (w' : World) : Prop :=
  ∃ y : TkA, e = .returned (.tuple #[tkv y, .bool t]) ∧ (t = true → y.1 = tk) ∧ (t = false → y = (Pa.noTok, 0)) ∧ RS m w' s' ∧ ButM m w w'
set_option maxRecDepth 100000 in
theorem kind_any (m : Nat) (s : Pa.Ps) (k : Nat) (hk : k ≠ 6) (w : World) (h : RS m w s) :
    Calls Tryz.prog 85 #[.pointer (some ⟨m, 0, none⟩), .int .i64 k] w (TkK m w (Pa.takeK k s).1.isSome s.tk (Pa.takeK k s).2) := by
  have hb0 := ba w (.cells #[.int .i64 k] 3)
  have hb1 := ba (w.alloc (.cells #[.int .i64 k] 3)) (.cells cs4 66)
  have HB := Lib.hid (bt hb0 hb1)
  have hg : (w.alloc (.cells #[.int .i64 k] 3)).cell? ⟨w.heap.size, 0, none⟩ = some (.int .i64 k) := by rw [World.cell?, (MapKept.heap_alloc w _).1]; rfl
  have hU : BxU ((w.alloc (.cells #[.int .i64 k] 3)).alloc (.cells cs4 66)) (w.heap.size + 1) cs4 66 := by
    have := (MapKept.heap_alloc (w.alloc (.cells #[.int .i64 k] 3)) (.cells cs4 66)).1
    rw [World.size_alloc] at this
    exact this
  have HU := Lib.hid hU
  have HT := Lib.hid (takeIfK_any m s w.heap.size k hk _ (h.rd.next HB.out) h.fin (cell_kept hb1 hg))
  have hf := (Pa.takeK_le hk h.fin).1.fin
  have hmU : m < w.heap.size + 1 := Nat.lt_succ_of_lt h.lt
  obtain ⟨t, ht⟩ : ∃ t, (Pa.takeK k s).1.isSome = t := ⟨_, rfl⟩
  obtain ⟨s', hs'⟩ : ∃ s', (Pa.takeK k s).2 = s' := ⟨_, rfl⟩
  obtain ⟨tk, htk⟩ : ∃ tk, s.tk = tk := ⟨_, rfl⟩
  rw [ht, hs', htk] at HT ⊢
  rw [hs'] at hf
  have HH := Lib.hid h
  have HF := Lib.hid hf
  have HmU := Lib.hid hmU
  clear h hf ht hs' hg htk hb0 hb1 hU hmU
  go_enter Tryz.func85, Tryz.ntmps85
  go_wp2_with fail
  refine HT.out.mono ?_
  rintro e w' ⟨y, rfl, h1, h2, hR, hM⟩
  have hU' := HU.out.but HmU.out hM
  have c0 : w'.cell? ⟨w.heap.size + 1, 0, none⟩ = some (.int .i64 0) := hU'.cell 0
  have c1 : w'.cell? ⟨w.heap.size + 1, 1, none⟩ = some (.string ⟨#[]⟩) := hU'.cell 1
  have c2 : w'.cell? ⟨w.heap.size + 1, 2, none⟩ = some (.int .i64 0) := hU'.cell 2
  have c3 : w'.cell? ⟨w.heap.size + 1, 3, none⟩ = some (.int .i64 0) := hU'.cell 3
  have f0 := hU'.frozen 0
  have f1 := hU'.frozen 1
  have f2 := hU'.frozen 2
  have f3 := hU'.frozen 3
  have HM := Lib.hid ((ButM.of HB.out).trans hM)
  have HR := Lib.hid (show RS m w' s' from ⟨hR, HF.out, HH.out.tabs HM.out, HH.out.gm⟩)
  have HE := Lib.hid (And.intro h1 h2)
  clear hR hM h1 h2 hU'
  go_wp2_with fail
  exact bodyPost_ret (v := .tuple #[tkv y, .bool t]) (by simp [results, Tryz.results85, go_sem, c0, c1, c2, c3]) rfl ⟨y, rfl, HE.out.1, HE.out.2, fin_on (OnU.refl _ _).set.set.set.set (Nat.le_succ _) HmU.out HR.out HM.out⟩
/-- Nothing is told but that it was done. -/
def MuE (m : Nat) (w : World) (s' : Pa.Ps) (e : Ending) (w' : World) : Prop := e = .returned (.tuple #[]) ∧ RS m w' s' ∧ ButM m w w'
set_option maxRecDepth 100000 in
theorem must_any (m : Nat) (s : Pa.Ps) (b : Lx.B) (w : World) (h : RS m w s) :
    Calls Tryz.prog 76 #[.pointer (some ⟨m, 0, none⟩), .string ⟨b.toArray⟩] w (MuE m w (Pa.mustW b s)) := by
  have HT := Lib.hid (take_any m s b w h)
  have hno := (Pa.takeW_le b h.fin).2.2
  have hE : Pa.mustW b s = if (Pa.takeW b s).1 then (Pa.takeW b s).2 else ⟨s.ts, true⟩ := rfl
  rw [hE]
  obtain ⟨t, ht⟩ : ∃ t, (Pa.takeW b s).1 = t := ⟨_, rfl⟩
  obtain ⟨s', hs'⟩ : ∃ s', (Pa.takeW b s).2 = s' := ⟨_, rfl⟩
  rw [ht, hs'] at HT hno ⊢
  clear hE ht hs' h
  cases t with
  | true =>
    rw [if_pos rfl]
    clear hno
    go_enter Tryz.func76, Tryz.ntmps76
    go_wp2_with fail
    refine HT.out.mono ?_
    rintro e w' ⟨rfl, hR, hM⟩
    have HE := Lib.hid (And.intro hR hM)
    clear hR hM
    go_wp2_with fail
    exact bodyPost_ret (v := .tuple #[]) (by simp [results, Tryz.results76, go_sem]) rfl ⟨rfl, HE.out.1, HE.out.2⟩
  | false =>
    rw [if_neg (by simp)]
    obtain rfl := hno rfl
    clear hno
    go_enter Tryz.func76, Tryz.ntmps76
    go_wp2_with fail
    refine HT.out.mono ?_
    rintro e w' ⟨rfl, hR, hM⟩
    have HE := Lib.hid (show RS m (w'.setCell ⟨m, 1, none⟩ (.bool true)) ⟨s'.ts, true⟩ ∧ ButM m w (w'.setCell ⟨m, 1, none⟩ (.bool true)) from ⟨hR.stuck.1, hM.trans hR.stuck.2⟩)
    have c1 := hR.c1
    have f1 := hR.frozen 1
    clear hR hM
    go_wp2_with fail
    exact bodyPost_ret (v := .tuple #[]) (by simp [results, Tryz.results76, go_sem]) rfl ⟨rfl, HE.out.1, HE.out.2⟩
set_option maxRecDepth 100000 in
theorem mustK_any (m : Nat) (s : Pa.Ps) (k : Nat) (hk : k ≠ 6) (w : World) (h : RS m w s) :
    Calls Tryz.prog 47 #[.pointer (some ⟨m, 0, none⟩), .int .i64 k] w fun e w' => (∃ y : TkA, e = .returned (tkv y) ∧ y.1 = (Pa.mustK k s).1) ∧ RS m w' (Pa.mustK k s).2 ∧ ButM m w w' := by
  have HB := Lib.hid (ba w (.cells cs4 66))
  have HU := Lib.hid (show BxU _ _ cs4 66 from (MapKept.heap_alloc w (.cells cs4 66)).1)
  have HT := Lib.hid (kind_any m s k hk _ (h.next HB.out))
  have HmU := Lib.hid h.lt
  obtain ⟨_, hyes, hno⟩ := Pa.takeK_le hk h.fin
  have hE : (∃ t0, (Pa.takeK k s).1 = some t0 ∧ s.tk = t0 ∧ Pa.mustK k s = (t0, (Pa.takeK k s).2)) ∨ ((Pa.takeK k s).1 = none ∧ (Pa.takeK k s).2 = s ∧ Pa.mustK k s = (Pa.noTok, ⟨s.ts, true⟩)) := by
    unfold Pa.mustK
    generalize Pa.takeK k s = q at hyes hno
    obtain ⟨q1, q2⟩ := q
    cases q1 with
    | some t0 => exact .inl ⟨t0, rfl, (hyes t0 rfl).2.1.symm, rfl⟩
    | none => obtain rfl := hno rfl; exact .inr ⟨rfl, rfl, rfl⟩
  clear hyes hno h
  rcases hE with ⟨t0, hE1, hE2, hE3⟩ | ⟨hE1, hE2, hE3⟩
  · rw [hE3]
    rw [hE1, hE2] at HT
    simp only [Option.isSome_some] at HT
    obtain ⟨s', hs'⟩ : ∃ s', (Pa.takeK k s).2 = s' := ⟨_, rfl⟩
    rw [hs'] at HT ⊢
    clear hE1 hE2 hE3 hs'
    go_enter Tryz.func47, Tryz.ntmps47
    go_wp2_with fail
    refine HT.out.mono ?_
    rintro e w' ⟨y, rfl, h1, _, hR, hM⟩
    have HE := Lib.hid (h1 rfl)
    have hU' := HU.out.but HmU.out hM
    have HM := Lib.hid ((ButM.of HB.out).trans hM)
    have HR := Lib.hid hR
    have hbv := ba w' (.cells #[.int .i64 y.1.k, .string ⟨y.1.s.toArray⟩, .int .i64 y.1.n, .int .i64 y.2] 66)
    have hU2 := hU'.next hbv
    have c0 : (w'.alloc (.cells #[.int .i64 y.1.k, .string ⟨y.1.s.toArray⟩, .int .i64 y.1.n, .int .i64 y.2] 66)).cell? ⟨w.heap.size, 0, none⟩ = some (.int .i64 0) := hU2.cell 0
    have c1 : (w'.alloc (.cells #[.int .i64 y.1.k, .string ⟨y.1.s.toArray⟩, .int .i64 y.1.n, .int .i64 y.2] 66)).cell? ⟨w.heap.size, 1, none⟩ = some (.string ⟨#[]⟩) := hU2.cell 1
    have c2 : (w'.alloc (.cells #[.int .i64 y.1.k, .string ⟨y.1.s.toArray⟩, .int .i64 y.1.n, .int .i64 y.2] 66)).cell? ⟨w.heap.size, 2, none⟩ = some (.int .i64 0) := hU2.cell 2
    have c3 : (w'.alloc (.cells #[.int .i64 y.1.k, .string ⟨y.1.s.toArray⟩, .int .i64 y.1.n, .int .i64 y.2] 66)).cell? ⟨w.heap.size, 3, none⟩ = some (.int .i64 0) := hU2.cell 3
    have f0 := hU2.frozen 0
    have f1 := hU2.frozen 1
    have f2 := hU2.frozen 2
    have f3 := hU2.frozen 3
    have HR2 := Lib.hid (hR.next hbv)
    have HM2 := Lib.hid (HM.out.trans (ButM.of hbv))
    clear hR hM h1 hU' hU2 hbv
    go_wp2_with fail
    exact bodyPost_ret (v := tkv y) (by simp [results, Tryz.results47, go_sem, c0, c1, c2, c3]) rfl ⟨⟨y, rfl, HE.out⟩, fin_on (OnU.refl _ _).set.set.set.set (Nat.le_refl _) HmU.out HR2.out HM2.out⟩
  · rw [hE3]
    rw [hE1, hE2] at HT
    simp only [Option.isSome_none] at HT
    obtain ⟨tk, htk⟩ : ∃ tk, s.tk = tk := ⟨_, rfl⟩
    rw [htk] at HT
    clear hE1 hE2 hE3 htk
    go_enter Tryz.func47, Tryz.ntmps47
    go_wp2_with fail
    refine HT.out.mono ?_
    rintro e w' ⟨y, rfl, _, h2, hR, hM⟩
    have HY := Lib.hid (h2 rfl)
    have hU' := HU.out.but HmU.out hM
    have HM := Lib.hid ((ButM.of HB.out).trans hM)
    have HR := Lib.hid hR
    have hbv := ba w' (.cells #[.int .i64 y.1.k, .string ⟨y.1.s.toArray⟩, .int .i64 y.1.n, .int .i64 y.2] 66)
    have hU2 := hU'.next hbv
    have c0 : (w'.alloc (.cells #[.int .i64 y.1.k, .string ⟨y.1.s.toArray⟩, .int .i64 y.1.n, .int .i64 y.2] 66)).cell? ⟨w.heap.size, 0, none⟩ = some (.int .i64 0) := hU2.cell 0
    have c1 : (w'.alloc (.cells #[.int .i64 y.1.k, .string ⟨y.1.s.toArray⟩, .int .i64 y.1.n, .int .i64 y.2] 66)).cell? ⟨w.heap.size, 1, none⟩ = some (.string ⟨#[]⟩) := hU2.cell 1
    have c2 : (w'.alloc (.cells #[.int .i64 y.1.k, .string ⟨y.1.s.toArray⟩, .int .i64 y.1.n, .int .i64 y.2] 66)).cell? ⟨w.heap.size, 2, none⟩ = some (.int .i64 0) := hU2.cell 2
    have c3 : (w'.alloc (.cells #[.int .i64 y.1.k, .string ⟨y.1.s.toArray⟩, .int .i64 y.1.n, .int .i64 y.2] 66)).cell? ⟨w.heap.size, 3, none⟩ = some (.int .i64 0) := hU2.cell 3
    have f0 := hU2.frozen 0
    have f1 := hU2.frozen 1
    have f2 := hU2.frozen 2
    have f3 := hU2.frozen 3
    have HR2 := Lib.hid (hR.next hbv)
    have HM2 := Lib.hid (HM.out.trans (ButM.of hbv))
    have b1 := HR2.out.c1
    have g1 := HR2.out.frozen 1
    have hmne : m ≠ w.heap.size := Nat.ne_of_lt HmU.out
    have hmne2 : m ≠ w'.heap.size := Nat.ne_of_lt HR.out.lt
    have hmne3 := hmne.symm
    have hmne4 := hmne2.symm
    have HS := Lib.hid (And.intro HR2.out.stuck.1 (HM2.out.trans HR2.out.stuck.2))
    clear hR hM h2 hU' hU2 hbv
    go_wp2_with fail
    exact bodyPost_ret (v := tkv y) (by simp [results, Tryz.results47, go_sem, c0, c1, c2, c3]) rfl ⟨⟨y, rfl, by rw [HY.out]⟩, fin_on (OnU.refl _ _).set.set.set.set (Nat.le_refl _) HmU.out HS.out.1 HS.out.2⟩
set_option maxRecDepth 100000 in
theorem pname_any (m : Nat) (s : Pa.Ps) (w : World) (h : RS m w s) :
    Calls Tryz.prog 82 #[.pointer (some ⟨m, 0, none⟩)] w fun e w' => e = .returned (.string ⟨(Pa.nameP s).1.toArray⟩) ∧ RS m w' (Pa.nameP s).2 ∧ ButM m w w' := by
  have HT := Lib.hid (mustK_any m s 1 (by decide) w h)
  have hE : Pa.nameP s = ((Pa.mustK 1 s).1.s, (Pa.mustK 1 s).2) := rfl
  rw [hE]
  obtain ⟨t, ht⟩ : ∃ t, (Pa.mustK 1 s).1 = t := ⟨_, rfl⟩
  obtain ⟨s', hs'⟩ : ∃ s', (Pa.mustK 1 s).2 = s' := ⟨_, rfl⟩
  rw [ht, hs'] at HT ⊢
  clear hE ht hs' h
  go_enter Tryz.func82, Tryz.ntmps82
  go_wp2_with fail
  refine HT.out.mono ?_
  rintro e w' ⟨⟨y, rfl, rfl⟩, hR, hM⟩
  have HE := Lib.hid (And.intro hR hM)
  have hfd := field_tokS y.1.k ⟨y.1.s.toArray⟩ y.1.n y.2 w'
  clear hR hM
  go_wp2_with fail
  exact bodyPost_ret (v := .string ⟨y.1.s.toArray⟩) (by simp [results, Tryz.results82, go_sem]) rfl ⟨rfl, HE.out.1, HE.out.2⟩
end Go.Proofs.YtfjimoccliejdaaGreatDoor
end
section
namespace Go.Proofs.YtfjimoccliejdaaGreatDoor
open Go.RowKit Go.Shelf

def exC : Lay Ex := fun B w e c => ∃ x : XQ, c = xcell x ∧ XR B w e x
theorem exC_ok : LayOk exC 8 :=
  ⟨fun hb hB ⟨x, hc, hx⟩ => ⟨x, hc, hx.go hb hB⟩, fun ⟨x, hc, _⟩ => by rw [hc]; rfl, fun ⟨x, hc, _⟩ => by rw [hc]; exact xcell_one x⟩
abbrev st (b : Lx.B) : Value := .string ⟨b.toArray⟩
def itC : Lay Pa.Itm := fun B w i c => ∃ x : XQ, c = .bool i.star :: (xcell x ++ [st i.nm]) ∧ XR B w i.e x
theorem itC_ok : LayOk itC 10 :=
  ⟨fun hb hB ⟨x, hc, hx⟩ => ⟨x, hc, hx.go hb hB⟩, fun ⟨x, hc, _⟩ => by rw [hc]; rfl, fun ⟨x, hc, _⟩ => by
    rw [hc]
    intro u hu
    rcases List.mem_cons.1 hu with rfl | hu
    · rfl
    · rcases List.mem_append.1 hu with hu | hu
      · exact xcell_one x u hu
      · obtain rfl := List.mem_singleton.1 hu; rfl⟩
def srC : Lay Pa.Src := fun B w s c => ∃ x : XQ, c = st s.tb :: st s.nm :: .int .i64 s.join :: xcell x ∧ XR B w s.on x
theorem srC_ok : LayOk srC 11 :=
  ⟨fun hb hB ⟨x, hc, hx⟩ => ⟨x, hc, hx.go hb hB⟩, fun ⟨x, hc, _⟩ => by rw [hc]; rfl, fun ⟨x, hc, _⟩ => by
    rw [hc]
    intro u hu
    rcases List.mem_cons.1 hu with rfl | hu
    · rfl
    rcases List.mem_cons.1 hu with rfl | hu
    · rfl
    rcases List.mem_cons.1 hu with rfl | hu
    · rfl
    exact xcell_one x u hu⟩
def kyC : Lay Pa.Ky := fun _ _ k c => c = [st k.nm, .bool k.down]
theorem kyC_ok : LayOk kyC 2 :=
  ⟨fun _ _ hc => hc, fun hc => by rw [hc]; rfl, fun hc => by
    rw [hc]
    intro u hu
    simp at hu
    rcases hu with rfl | rfl <;> rfl⟩
/-- A list of expressions, as it is read. -/
theorem Ls.xsB {B : Nat → Prop} {w : World} : ∀ {l : List Ex} {A : Option Addr}, Ls exC B w l A → XsB B w l A
  | [], _, _ => by rw [XsB]; trivial
  | .mk h l :: r, A, H => by
    obtain ⟨g, o, c, rfl, hg, ⟨x, rfl, e1, e2, e3, e4⟩, hc⟩ := H.at exC_ok (i := 0) (x := .mk h l) rfl
    rw [XsB]
    refine ⟨g, o, rfl, hg, ⟨x.2.1, x.2.2.2, ?_, e3, e4⟩, Ls.xsB (H.tail exC_ok)⟩
    simp only [Nat.zero_mul, Nat.add_zero] at hc
    simp only [Ex.hd, Ex.kids] at e1 e2
    rw [← e2, ← e1]
    exact ⟨hc 0 _ rfl, hc 1 _ rfl, hc 2 _ rfl, hc 3 _ rfl, hc 4 _ rfl, hc 5 _ rfl, hc 6 _ rfl, hc 7 _ rfl⟩
def slC : Lay Pa.Sel := fun B w s c => ∃ (iA fA gA : Option Addr) (ic fc gc : Nat) (x : XQ),
  c = .bool s.dist :: .slice iA s.its.length ic :: .slice fA s.frs.length fc :: (xcell x ++ [.slice gA s.grp.length gc]) ∧
  (s.its.length ≤ ic ∧ s.frs.length ≤ fc ∧ s.grp.length ≤ gc) ∧ Ls itC B w s.its iA ∧ Ls srC B w s.frs fA ∧ XR B w s.wh x ∧ XsB B w s.grp gA
theorem slC_ok : LayOk slC 12 :=
  ⟨fun hb hB ⟨iA, fA, gA, ic, fc, gc, x, hc, hl, h1, h2, h3, h4⟩ => ⟨iA, fA, gA, ic, fc, gc, x, hc, hl, h1.go itC_ok hb hB, h2.go srC_ok hb hB, h3.go hb hB, XsB.go hb hB _ _ h4⟩,
   fun ⟨iA, fA, gA, ic, fc, gc, x, hc, _⟩ => by rw [hc]; rfl, fun ⟨iA, fA, gA, ic, fc, gc, x, hc, _⟩ => by
    rw [hc]
    intro u hu
    rcases List.mem_cons.1 hu with rfl | hu
    · rfl
    rcases List.mem_cons.1 hu with rfl | hu
    · rfl
    rcases List.mem_cons.1 hu with rfl | hu
    · rfl
    rcases List.mem_append.1 hu with hu | hu
    · exact xcell_one x u hu
    · obtain rfl := List.mem_singleton.1 hu; rfl⟩
/-- A query as a value. -/
def quC : Lay Pa.Qu := fun B w q c => ∃ (pA oA : Option Addr) (pc oc : Nat), c = [.slice pA q.parts.length pc, .slice oA q.order.length oc, .int .i64 q.lim] ∧
  (q.parts.length ≤ pc ∧ q.order.length ≤ oc) ∧ Ls slC B w q.parts pA ∧ Ls kyC B w q.order oA
theorem quC_go {B B' : Nat → Prop} {w w' : World} {x : Pa.Qu} {c : List Value} (hb : ∀ k, B k → w'.heap[k]? = w.heap[k]?) (hB : ∀ k, B k → B' k) (h : quC B w x c) : quC B' w' x c := by
  obtain ⟨pA, oA, pc, oc, hc, hl, h1, h2⟩ := h
  exact ⟨pA, oA, pc, oc, hc, hl, h1.go slC_ok hb hB, h2.go kyC_ok hb hB⟩
/-- What a rule of the grammar answers: a thing in blocks of its own, and the reader behind it. -/
def RuE {α : Type} (P : Lay α) (m : Nat) (w : World) (x : α) (s' : Pa.Ps) (e : Ending) (w' : World) : Prop :=
  ∃ c, e = .returned (.agg c.toArray) ∧ P (Bn w.heap.size w') w' x c ∧ RS m w' s' ∧ ButM m w w'
/-- A thing stays, whatever the reader does. -/
theorem LayOk.but {α : Type} {P : Lay α} {sz : Nat} (ok : LayOk P sz) {m b : Nat} {w w' : World} {x : α} {c : List Value} (hm : m < b) (hb : ButM m w w') (h : P (Bn b w) w x c) : P (Bn b w') w' x c :=
  ok.go (fun k hk => hb.block k hk.2 (by have := hk.1; omega)) (fun _ hk => ⟨hk.1, Nat.lt_of_lt_of_le hk.2 hb.size⟩) h
theorem LayOk.low {α : Type} {P : Lay α} {sz : Nat} (ok : LayOk P sz) {b b' : Nat} {w : World} {x : α} {c : List Value} (hm : b' ≤ b) (h : P (Bn b w) w x c) : P (Bn b' w) w x c :=
  ok.go (fun _ _ => rfl) (fun _ hk => ⟨Nat.le_trans hm hk.1, hk.2⟩) h
theorem LayOk.nxt {α : Type} {P : Lay α} {sz : Nat} (ok : LayOk P sz) {b : Nat} {w w' : World} {x : α} {c : List Value} (hb : Below w.heap.size w w') (h : P (Bn b w) w x c) : P (Bn b w') w' x c :=
  ok.go (fun _ hk => hb.block _ hk.2) (fun _ hk => ⟨hk.1, Nat.lt_of_lt_of_le hk.2 hb.size⟩) h
theorem exC_leaf (B : Nat → Prop) (w : World) (h : Hd) : exC B w (.mk h []) (xcell (h, none, 0, 0)) := ⟨_, rfl, rfl, rfl, Nat.le_refl _, by show XsB B w [] none; rw [XsB]; trivial⟩
end Go.Proofs.YtfjimoccliejdaaGreatDoor
end
section
namespace Go.Proofs.YtfjimoccliejdaaGreatDoor
open Go.RowKit Go.Shelf

abbrev Bt (a b : Nat) (k : Nat) : Prop := a ≤ k ∧ k < b
theorem OnU.lay {α : Type} {P : Lay α} {sz : Nat} (ok : LayOk P sz) {U a b : Nat} {w w' : World} {x : α} {c : List Value} (h : OnU U w w') (hU : U < a ∨ b ≤ U) (hx : P (Bt a b) w x c) : P (Bt a b) w' x c :=
  ok.go (fun k hk => h.block k (by have := hk.1; have := hk.2; omega)) (fun _ hk => hk) hx
theorem LayOk.wide {α : Type} {P : Lay α} {sz : Nat} (ok : LayOk P sz) {a b a' b' : Nat} {w : World} {x : α} {c : List Value} (ha : a' ≤ a) (hb : b ≤ b') (h : P (Bt a b) w x c) : P (Bt a' b') w x c :=
  ok.go (fun _ _ => rfl) (fun _ hk => ⟨Nat.le_trans ha hk.1, Nat.lt_of_lt_of_le hk.2 hb⟩) h
theorem LayOk.keep {α : Type} {P : Lay α} {sz : Nat} (ok : LayOk P sz) {a b : Nat} {w w' : World} {x : α} {c : List Value} (hb : Below w.heap.size w w') (hs : b ≤ w.heap.size) (h : P (Bt a b) w x c) : P (Bt a b) w' x c :=
  ok.go (fun k hk => hb.block k (Nat.lt_of_lt_of_le hk.2 hs)) (fun _ hk => hk) h
theorem LayOk.keepM {α : Type} {P : Lay α} {sz : Nat} (ok : LayOk P sz) {m a b : Nat} {w w' : World} {x : α} {c : List Value} (hb : ButM m w w') (hm : m < a) (hs : b ≤ w.heap.size) (h : P (Bt a b) w x c) : P (Bt a b) w' x c :=
  ok.go (fun k hk => hb.block k (Nat.lt_of_lt_of_le hk.2 hs) (by have := hk.1; omega)) (fun _ hk => hk) h
/-- The rule's end: its answer was written into its own box. -/
theorem RuE.fin {α : Type} {P : Lay α} {sz : Nat} (ok : LayOk P sz) {m U : Nat} {w Wn W' : World} {x : α} {s' : Pa.Ps} {c : List Value} (hU : w.heap.size = U) (hm : m < U) (hM : ButM m w Wn) (hS : RS m Wn s') (hX : P (Bt (U + 1) Wn.heap.size) Wn x c) (hO : OnU U Wn W') :
    RuE P m w x s' (.returned (.agg c.toArray)) W' :=
  ⟨c, rfl, ok.wide (by omega) (by rw [hO.size]; exact Nat.le_refl _) (hO.lay ok (.inl (Nat.lt_succ_self _)) hX), hO.rs hm hS, hO.but (by omega) hM⟩
abbrev cs8 : Array Value := #[.int .i64 0, .int .i64 0, .int .i64 0, .int .i64 0, .string ⟨#[]⟩, .string ⟨#[]⟩, .string ⟨#[]⟩, .slice none 0 0]
set_option maxRecDepth 100000 in
theorem pmade_any (k n : Int) (A : Option Addr) (len cap : Nat) (w : World) :
    Calls Tryz.prog 112 #[.int .i64 k, .int .i64 n, .slice A len cap] w fun e w' => e = .returned (XV ⟨k, n, 0, 0, ⟨#[]⟩, ⟨#[]⟩, ⟨#[]⟩⟩ A len cap) ∧ Below w.heap.size w w' := by
  go_enter Tryz.func112, Tryz.ntmps112
  go_wp2_with fail
  exact bodyPost_ret (v := XV ⟨k, n, 0, 0, ⟨#[]⟩, ⟨#[]⟩, ⟨#[]⟩⟩ A len cap) (by simp [results, Tryz.results112, go_sem]) rfl ⟨rfl, ba w _⟩
set_option maxRecDepth 100000 in
theorem pnull_any (m : Nat) (s : Pa.Ps) (w : World) (h : RS m w s) :
    Calls Tryz.prog 138 #[.pointer (some ⟨m, 0, none⟩)] w fun e w' => e = .returned (.int .i64 ((Pa.nullP s).1 : Nat)) ∧ RS m w' (Pa.nullP s).2 ∧ ButM m w w' := by
  have HT := Lib.hid (take_any m s Pa.wNOT w h)
  have hE : Pa.nullP s = (if (Pa.takeW Pa.wNOT s).1 then 17 else 16, Pa.mustW Pa.wNULL (Pa.takeW Pa.wNOT s).2) := rfl
  rw [hE]
  obtain ⟨t, ht⟩ : ∃ t, (Pa.takeW Pa.wNOT s).1 = t := ⟨_, rfl⟩
  obtain ⟨s', hs'⟩ : ∃ s', (Pa.takeW Pa.wNOT s).2 = s' := ⟨_, rfl⟩
  rw [ht, hs'] at HT ⊢
  clear hE ht hs' h
  cases t with
  | true =>
    go_enter Tryz.func138, Tryz.ntmps138
    go_wp2_with fail
    refine HT.out.mono ?_
    rintro e w1 ⟨rfl, hR, hM⟩
    have HM := Lib.hid hM
    have HN := Lib.hid (must_any m s' Pa.wNULL w1 hR)
    clear hR hM
    go_wp2_with fail
    refine HN.out.mono ?_
    rintro e w2 ⟨rfl, hR, hM⟩
    have HE := Lib.hid (And.intro hR (HM.out.trans hM))
    clear hR hM
    go_wp2_with fail
    exact bodyPost_ret (v := .int .i64 17) (by simp [results, Tryz.results138, go_sem]) rfl ⟨rfl, HE.out⟩
  | false =>
    go_enter Tryz.func138, Tryz.ntmps138
    go_wp2_with fail
    refine HT.out.mono ?_
    rintro e w1 ⟨rfl, hR, hM⟩
    have HM := Lib.hid hM
    have HN := Lib.hid (must_any m s' Pa.wNULL w1 hR)
    clear hR hM
    go_wp2_with fail
    refine HN.out.mono ?_
    rintro e w2 ⟨rfl, hR, hM⟩
    have HE := Lib.hid (And.intro hR (HM.out.trans hM))
    clear hR hM
    go_wp2_with fail
    exact bodyPost_ret (v := .int .i64 16) (by simp [results, Tryz.results138, go_sem]) rfl ⟨rfl, HE.out⟩
theorem colP_eq (s : Pa.Ps) : Pa.colP s = if (Pa.takeW [46] (Pa.nameP s).2).1 then (Pa.exCol (Pa.nameP s).1 (Pa.nameP (Pa.takeW [46] (Pa.nameP s).2).2).1, (Pa.nameP (Pa.takeW [46] (Pa.nameP s).2).2).2) else (Pa.exCol [] (Pa.nameP s).1, (Pa.nameP s).2) := rfl
set_option maxRecDepth 100000 in
theorem pcol_any (m : Nat) (s : Pa.Ps) (w : World) (h : RS m w s) :
    Calls Tryz.prog 81 #[.pointer (some ⟨m, 0, none⟩)] w (RuE exC m w (Pa.colP s).1 (Pa.colP s).2) := by
  have HB := Lib.hid (ba w (.cells #[.int .i64 0, .int .i64 0, .int .i64 0, .int .i64 0, .string ⟨#[]⟩, .string ⟨#[]⟩, .string ⟨#[]⟩, .slice none 0 0] 37))
  have HU := Lib.hid (show BxU _ _ #[.int .i64 0, .int .i64 0, .int .i64 0, .int .i64 0, .string ⟨#[]⟩, .string ⟨#[]⟩, .string ⟨#[]⟩, .slice none 0 0] 37 from (MapKept.heap_alloc w (.cells #[.int .i64 0, .int .i64 0, .int .i64 0, .int .i64 0, .string ⟨#[]⟩, .string ⟨#[]⟩, .string ⟨#[]⟩, .slice none 0 0] 37)).1)
  have H1 := Lib.hid (h.next HB.out)
  have hmU := h.lt
  have HFin := Lib.hid h.fin
  obtain ⟨U, hU⟩ : ∃ U, w.heap.size = U := ⟨_, rfl⟩
  have HUl := Lib.hid hU
  rw [hU] at HU hmU
  have HmU := Lib.hid hmU
  obtain ⟨X, hX⟩ : ∃ X, Pa.colP s = X := ⟨_, rfl⟩
  rw [hX]
  have HX := Lib.hid hX
  clear h hX hmU
  go_enter Tryz.func81, Tryz.ntmps81
  go_wp2_with fail
  generalize w.alloc (.cells #[.int .i64 0, .int .i64 0, .int .i64 0, .int .i64 0, .string ⟨#[]⟩, .string ⟨#[]⟩, .string ⟨#[]⟩, .slice none 0 0] 37) = W1 at HB HU H1 ⊢
  clear hU
  have HM1 := Lib.hid (show ButM m w W1 from ButM.of HB.out)
  have HT1 := Lib.hid (pname_any m s W1 H1.out)
  obtain ⟨⟨b1, s1⟩, hs1⟩ : ∃ q, Pa.nameP s = q := ⟨_, rfl⟩
  rw [hs1] at HT1
  have HK1 := Lib.hid hs1
  clear hs1
  simp only at HT1
  go_wp2_with fail
  refine HT1.out.mono ?_
  rintro e v1 ⟨rfl, hR, hM⟩
  have HMn1 := Lib.hid (HM1.out.trans hM)
  have HUn1 := Lib.hid (HU.out.but HmU.out hM)
  have HRn1 := Lib.hid hR
  clear hR hM
  have HT2 := Lib.hid (take_any m s1 [46] v1 HRn1.out)
  obtain ⟨t2, ht⟩ : ∃ t, (Pa.takeW [46] s1).1 = t := ⟨_, rfl⟩
  obtain ⟨s2, hs⟩ : ∃ s, (Pa.takeW [46] s1).2 = s := ⟨_, rfl⟩
  have hno2 := (Pa.takeW_le [46] HRn1.out.fin).2.2
  rw [ht, hs] at HT2 hno2
  have HK2 := Lib.hid (show Pa.takeW [46] s1 = (t2, s2) by rw [← ht, ← hs])
  clear ht hs
  cases t2 with
  | true =>
    clear hno2
    go_wp2_with fail
    refine HT2.out.mono ?_
    rintro e v2 ⟨rfl, hR, hM⟩
    have HMn2 := Lib.hid (HMn1.out.trans hM)
    have HUn2 := Lib.hid (HUn1.out.but HmU.out hM)
    have HRn2 := Lib.hid hR
    clear hR hM
    have HT3 := Lib.hid (pname_any m s2 v2 HRn2.out)
    obtain ⟨⟨b3, s3⟩, hs3⟩ : ∃ q, Pa.nameP s2 = q := ⟨_, rfl⟩
    rw [hs3] at HT3
    have HK3 := Lib.hid hs3
    clear hs3
    simp only at HT3
    go_wp2_with fail
    refine HT3.out.mono ?_
    rintro e v3 ⟨rfl, hR, hM⟩
    have HMn3 := Lib.hid (HMn2.out.trans hM)
    have HUn3 := Lib.hid (HUn2.out.but HmU.out hM)
    have HRn3 := Lib.hid hR
    clear hR hM
    go_wp2_with fail
    refine (ev_column (t := ⟨b1.toArray⟩) (c := ⟨b3.toArray⟩) (w := v3)).mono ?_
    rintro e w4 ⟨u, rfl, hb, rfl⟩
    have HM4 := Lib.hid (HMn3.out.trans (ButM.of hb))
    have hU4 := HUn3.out.next hb
    have HR4 := Lib.hid (HRn3.out.next hb)
    have c0 : (w4).cell? ⟨U, 0, none⟩ = some (.int .i64 0) := (hU4).cell 0
    have c1 : (w4).cell? ⟨U, 1, none⟩ = some (.int .i64 0) := (hU4).cell 1
    have c2 : (w4).cell? ⟨U, 2, none⟩ = some (.int .i64 0) := (hU4).cell 2
    have c3 : (w4).cell? ⟨U, 3, none⟩ = some (.int .i64 0) := (hU4).cell 3
    have c4 : (w4).cell? ⟨U, 4, none⟩ = some (.string ⟨#[]⟩) := (hU4).cell 4
    have c5 : (w4).cell? ⟨U, 5, none⟩ = some (.string ⟨#[]⟩) := (hU4).cell 5
    have c6 : (w4).cell? ⟨U, 6, none⟩ = some (.string ⟨#[]⟩) := (hU4).cell 6
    have c7 : (w4).cell? ⟨U, 7, none⟩ = some (.slice none 0 0) := (hU4).cell 7
    have fc0 := (hU4).frozen 0
    have fc1 := (hU4).frozen 1
    have fc2 := (hU4).frozen 2
    have fc3 := (hU4).frozen 3
    have fc4 := (hU4).frozen 4
    have fc5 := (hU4).frozen 5
    have fc6 := (hU4).frozen 6
    have fc7 := (hU4).frozen 7
    have HXe := Lib.hid (show X = (Pa.exCol b1 b3, s3) by rw [← HX.out]; simp only [colP_eq, HK1.out, HK2.out, HK3.out, if_true])
    clear hb hU4
    go_wp2_with fail
    exact bodyPost_ret (v := XV (hdC ⟨b1.toArray⟩ ⟨b3.toArray⟩) none 0 0) (by simp [results, Tryz.results81, go_sem, c0, c1, c2, c3, c4, c5, c6, c7]) rfl (by rw [HXe.out]; exact RuE.fin (c := xcell (hdC ⟨b1.toArray⟩ ⟨b3.toArray⟩, none, 0, 0)) exC_ok HUl.out HmU.out HM4.out HR4.out (exC_leaf _ _ _) (OnU.refl _ _).set.set.set.set.set.set.set.set)
  | false =>
    obtain rfl := hno2 rfl
    clear hno2
    go_wp2_with fail
    refine HT2.out.mono ?_
    rintro e v2 ⟨rfl, hR, hM⟩
    have HMn2 := Lib.hid (HMn1.out.trans hM)
    have HUn2 := Lib.hid (HUn1.out.but HmU.out hM)
    have HRn2 := Lib.hid hR
    clear hR hM
    go_wp2_with fail
    refine (ev_column (t := ⟨#[]⟩) (c := ⟨b1.toArray⟩) (w := v2)).mono ?_
    rintro e w4 ⟨u, rfl, hb, rfl⟩
    have HM4 := Lib.hid (HMn2.out.trans (ButM.of hb))
    have hU4 := HUn2.out.next hb
    have HR4 := Lib.hid (HRn2.out.next hb)
    have c0 : (w4).cell? ⟨U, 0, none⟩ = some (.int .i64 0) := (hU4).cell 0
    have c1 : (w4).cell? ⟨U, 1, none⟩ = some (.int .i64 0) := (hU4).cell 1
    have c2 : (w4).cell? ⟨U, 2, none⟩ = some (.int .i64 0) := (hU4).cell 2
    have c3 : (w4).cell? ⟨U, 3, none⟩ = some (.int .i64 0) := (hU4).cell 3
    have c4 : (w4).cell? ⟨U, 4, none⟩ = some (.string ⟨#[]⟩) := (hU4).cell 4
    have c5 : (w4).cell? ⟨U, 5, none⟩ = some (.string ⟨#[]⟩) := (hU4).cell 5
    have c6 : (w4).cell? ⟨U, 6, none⟩ = some (.string ⟨#[]⟩) := (hU4).cell 6
    have c7 : (w4).cell? ⟨U, 7, none⟩ = some (.slice none 0 0) := (hU4).cell 7
    have fc0 := (hU4).frozen 0
    have fc1 := (hU4).frozen 1
    have fc2 := (hU4).frozen 2
    have fc3 := (hU4).frozen 3
    have fc4 := (hU4).frozen 4
    have fc5 := (hU4).frozen 5
    have fc6 := (hU4).frozen 6
    have fc7 := (hU4).frozen 7
    have HXe := Lib.hid (show X = (Pa.exCol [] b1, s2) by rw [← HX.out]; simp only [colP_eq, HK1.out, HK2.out, Bool.false_eq_true, if_false])
    clear hb hU4
    go_wp2_with fail
    exact bodyPost_ret (v := XV (hdC ⟨#[]⟩ ⟨b1.toArray⟩) none 0 0) (by simp [results, Tryz.results81, go_sem, c0, c1, c2, c3, c4, c5, c6, c7]) rfl (by rw [HXe.out]; exact RuE.fin (c := xcell (hdC ⟨#[]⟩ ⟨b1.toArray⟩, none, 0, 0)) exC_ok HUl.out HmU.out HM4.out HR4.out (exC_leaf _ _ _) (OnU.refl _ _).set.set.set.set.set.set.set.set)
end Go.Proofs.YtfjimoccliejdaaGreatDoor
end
section
namespace Go.Proofs.YtfjimoccliejdaaGreatDoor
open Go.RowKit Go.Shelf

theorem operP_at {ops : List Nat} {k op : Nat} (h : ops[k]? = some op) (s : Pa.Ps) : Pa.operP (ops.drop k) s = if (Pa.takeW (Pa.begins op) s).1 then (if op = 16 then Pa.nullP (Pa.takeW (Pa.begins op) s).2 else (op, (Pa.takeW (Pa.begins op) s).2)) else Pa.operP (ops.drop (k + 1)) s := by
  obtain ⟨hk, rfl⟩ := List.getElem?_eq_some_iff.1 h
  rw [List.drop_eq_getElem_cons hk, Pa.operP]
set_option maxRecDepth 100000 in
set_option maxHeartbeats 1000000 in
theorem oper_any (m : Nat) (s : Pa.Ps) (ops : List Nat) (g c : Nat) (w : World) (h : RS m w s) (hops : ∀ op ∈ ops, op < 17) (hO : ∀ (j op : Nat), ops[j]? = some op → w.cell? ⟨g, j, none⟩ = some (.int .i64 op)) (hgm : m < g) (hl : ops.length ≤ 100) :
    Calls Tryz.prog 110 #[.pointer (some ⟨m, 0, none⟩), .slice (some ⟨g, 0, none⟩) ops.length c] w fun e w' => e = .returned (.int .i64 ((Pa.operP ops s).1 : Nat)) ∧ RS m w' (Pa.operP ops s).2 ∧ ButM m w w' := by
  obtain ⟨X, hX⟩ : ∃ X, Pa.operP ops s = X := ⟨_, rfl⟩
  rw [hX]
  have HX := Lib.hid hX
  have H1 := Lib.hid h
  have HOps := Lib.hid hops
  have HO := Lib.hid hO
  clear h hX hops hO
  go_enter Tryz.func110, Tryz.ntmps110
  go_wp2_with fail
  go_loopw [9] (fun i W => ∃ k : Nat, k ≤ ops.length ∧ i = .int .i64 k ∧ Hid (RS m W s) ∧ Hid (ButM m w W) ∧ Hid (Pa.operP (ops.drop k) s = X)) (fun i _ => ops.length - (intOf i).toNat)
  case atStart => exact ⟨0, Nat.zero_le _, rfl, H1, Lib.hid (ButM.refl _ _), Lib.hid (by rw [List.drop_zero]; exact HX.out)⟩
  case round =>
    obtain ⟨k, hk, rfl, HR, HM, HA⟩ := hrel
    by_cases hlt : k < ops.length
    · obtain ⟨op, hop⟩ : ∃ op, ops[k]? = some op := ⟨ops[k], List.getElem?_eq_getElem hlt⟩
      have ho17 := HOps.out op (List.mem_of_getElem? hop)
      have hc := HM.out.cell (Nat.ne_of_gt hgm) (HO.out k op hop)
      have ht := HR.out.tab op ho17
      have HT := Lib.hid (take_any m s (Pa.begins op) wr HR.out)
      have hA := HA.out
      rw [operP_at hop] at hA
      have hno := (Pa.takeW_le (Pa.begins op) HR.out.fin).2.2
      obtain ⟨t, hte⟩ : ∃ t, (Pa.takeW (Pa.begins op) s).1 = t := ⟨_, rfl⟩
      obtain ⟨s1, hs1⟩ : ∃ s1, (Pa.takeW (Pa.begins op) s).2 = s1 := ⟨_, rfl⟩
      rw [hte, hs1] at HT hA hno
      have hoI : (op : Int) < 17 := by omega
      have ho0 : (0 : Int) ≤ (op : Int) := by omega
      have hA' := Lib.hid hA
      clear hop hte hs1 hA HA
      cases t with
      | true =>
        have hA2 := hA'.out
        rw [if_pos rfl] at hA2
        by_cases h16 : op = 16
        · subst h16
          rw [if_pos rfl] at hA2
          have HA3 := Lib.hid hA2
          clear hno hA2 hA'
          go_wp2_with fail
          refine HT.out.mono ?_
          rintro e w1 ⟨rfl, hR, hM⟩
          have HM1 := Lib.hid (HM.out.trans hM)
          have HN := Lib.hid (pnull_any m s1 w1 hR)
          rw [HA3.out] at HN
          clear hR hM
          go_wp2_with fail
          refine HN.out.mono ?_
          rintro e w2 ⟨rfl, hR, hM⟩
          have HE := Lib.hid (And.intro hR (HM1.out.trans hM))
          clear hR hM
          go_wp2_with fail
          exact bodyPost_ret (v := .int .i64 (X.1 : Nat)) (by simp [results, Tryz.results110, go_sem]) rfl ⟨rfl, HE.out⟩
        · rw [if_neg h16] at hA2
          have HA3 := Lib.hid hA2
          have h16I : ¬ ((op : Int) = 16) := by omega
          clear hno hA2 hA' h16
          go_wp2_with fail
          refine HT.out.mono ?_
          rintro e w1 ⟨rfl, hR, hM⟩
          have HE := Lib.hid (And.intro hR (HM.out.trans hM))
          clear hR hM
          go_wp2_with fail
          exact bodyPost_ret (v := .int .i64 (op : Nat)) (by simp [results, Tryz.results110, go_sem]) rfl ⟨by rw [← HA3.out], by rw [← HA3.out]; exact HE.out⟩
      | false =>
        have hA2 := hA'.out
        rw [if_neg (by simp)] at hA2
        obtain rfl := hno rfl
        have HA3 := Lib.hid hA2
        clear hno hA2 hA'
        go_wp2_with fail
        refine HT.out.mono ?_
        rintro e w1 ⟨rfl, hR, hM⟩
        have HM1 := Lib.hid (HM.out.trans hM)
        have HR1 := Lib.hid hR
        clear hR hM
        go_wp2_with fail
        go_roundw
        case rel => exact ⟨k + 1, by omega, by go_num, HR1, HM1, HA3⟩
        case measure => simp [intOf]; omega
    · obtain rfl : k = ops.length := by omega
      have HA3 := Lib.hid (show X = (0, s) by rw [← HA.out, List.drop_length, Pa.operP])
      go_wp2_with fail
      exact bodyPost_ret (v := .int .i64 0) (by simp [results, Tryz.results110, go_sem]) rfl ⟨by rw [HA3.out]; rfl, by rw [HA3.out]; exact ⟨HR.out, HM.out⟩⟩
end Go.Proofs.YtfjimoccliejdaaGreatDoor
end
