/-
  A region that draws its order, walked by what each operation leaves: no order is told apart. Of each operation is shown, once, what it leaves where those hold that it waits for.
  Single operations, whatever else the slots hold: for regions walked by what each operation leaves.
DERIVED: THE SHELF's CONTRACTS AT THIS DUMP, IN PLAIN WORDS (tools/lay-plain.mjs out of 'TryzShelf.lean', which tools/lay-shelf.mjs wrote): THE SAME DECLARATIONS UNDER THE SAME NAMES: 'import', 'namespace', 'open', 'def', 'theorem' AND NOTHING ELSE: no command of the shelf's: FOR A HAND-IN. Each laying: the table of numbers ('.._ren') and one theorem, a field a fact of the dump's own or the kernel's comparison; each contract: ONE APPLICATION.
Package catalog: showType, Show, and the document's own.
Package catalog: Show.
Contracts of value.Compare and row.Compare that tell the world behind them: new blocks, and nothing else.
Plain: the order of rows is one.
Plain: rows in order; lists of rows in memory; the world behind a sort.
-/
import Derived.Test.YtmjckdgomlppeaaGreatDoorZ1
import Derived.Orders
import Derived.Deep.RegionHeld3
import Derived.Conc.Own4
import Derived.Tactics2
import Derived.Laws.Tables
import Derived.Shelf.Strings.Builder1
import Derived.Shelf.Strings.Builder2
import Derived.Shelf.Strings.OnBuilder
import Derived.Shelf.Small.Bits
import Derived.Shelf.Strings.BuilderF
import Derived.Shelf.Strings.BuilderK
import Derived.Shelf.Strings.Builder2Cap
import Derived.Shelf.Strconv.Itoa0
import Derived.Shelf.Strings.Prefix
import Derived.Shelf.Strings.BuilderCap
import Derived.Test.YtmjckdgomlppeaaGreatDoorProg
import Derived.Deep.OwnRows
import Derived.Lib.Strings
import Derived.Laws.OwnMore
import Derived.Laws.Concat
import Derived.Deep.Cut
import Derived.Maps.AppendAt
import Derived.Sort.Grow
import Derived.Shelf.SlSortCmp.Whole1
section
namespace Go.Proofs.YtmjckdgomlppeaaGreatDoor
section

def slotAt (ds : List (Option Tmp)) (a : Act) (k : Nat) : Value := match (ds[k]?).getD none with | some t => a.tmps.getD t undef | none => undef
def puts : List (Option Tmp) → (Nat → Value) → Nat → Act → Act
  | [], _, _, a => a
  | d :: r, v, i, a => puts r v (i + 1) (a.put d (v i))
theorem put_size (a : Act) (d : Option Tmp) (v : Value) : (a.put d v).tmps.size = a.tmps.size := by cases d <;> simp [Act.put]
theorem put_defers (a : Act) (d : Option Tmp) (v : Value) : (a.put d v).defers = a.defers := by cases d <;> rfl
theorem put_get (a : Act) (d : Option Tmp) (v : Value) (t : Nat) (h : d ≠ some t) : (a.put d v).tmps.getD t undef = a.tmps.getD t undef := by
  cases d with
  | none => rfl
  | some u =>
    have hu : u ≠ t := fun e => h (by rw [e])
    simp [Act.put, Array.getD_eq_getD_getElem?, hu]
theorem put_at (a : Act) (v : Value) (t : Nat) (h : t < a.tmps.size) : (a.put (some t) v).tmps.getD t undef = v := by
  simp [Act.put, Array.getD_eq_getD_getElem?, h]
theorem puts_size : ∀ (ds : List (Option Tmp)) (v : Nat → Value) (i : Nat) (a : Act), (puts ds v i a).tmps.size = a.tmps.size
  | [], _, _, _ => rfl
  | d :: r, v, i, a => by rw [puts, puts_size r, put_size]
theorem puts_defers : ∀ (ds : List (Option Tmp)) (v : Nat → Value) (i : Nat) (a : Act), (puts ds v i a).defers = a.defers
  | [], _, _, _ => rfl
  | d :: r, v, i, a => by rw [puts, puts_defers r, put_defers]
theorem puts_other : ∀ (ds : List (Option Tmp)) (v : Nat → Value) (i : Nat) (a : Act) (t : Nat), (∀ d ∈ ds, d ≠ some t) → (puts ds v i a).tmps.getD t undef = a.tmps.getD t undef
  | [], _, _, _, _, _ => rfl
  | d :: r, v, i, a, t, h => by rw [puts, puts_other r _ _ _ _ (fun x hx => h x (List.mem_cons_of_mem _ hx)), put_get _ _ _ _ (h d (List.mem_cons_self ..))]
/-- The slots are apart, and there. -/
def apartB : List (Option Tmp) → Nat → Bool
  | [], _ => true
  | none :: r, n => apartB r n
  | some t :: r, n => decide (t < n) && r.all (fun d => d != some t) && apartB r n
theorem puts_at : ∀ (ds : List (Option Tmp)) (v : Nat → Value) (i : Nat) (a : Act) (k t : Nat), apartB ds a.tmps.size = true → ds[k]? = some (some t) → (puts ds v i a).tmps.getD t undef = v (i + k)
  | [], _, _, _, k, t, _, hk => by simp at hk
  | d :: r, v, i, a, 0, t, hap, hk => by
    simp only [List.getElem?_cons_zero, Option.some.injEq] at hk
    subst hk
    simp only [apartB, Bool.and_eq_true, decide_eq_true_eq, List.all_eq_true] at hap
    rw [puts, puts_other r _ _ _ _ (fun x hx => by simpa using hap.1.2 x hx), put_at _ _ _ hap.1.1, Nat.add_zero]
  | d :: r, v, i, a, k + 1, t, hap, hk => by
    have hap' : apartB r (a.put d (v i)).tmps.size = true := by
      rw [put_size]
      cases d with
      | none => simpa [apartB] using hap
      | some u => simp only [apartB, Bool.and_eq_true] at hap; exact hap.2
    rw [puts, puts_at r v (i + 1) _ k t hap' (by simpa using hk)]
    congr 1; omega
theorem apart_ne : ∀ (ds : List (Option Tmp)) (n i j t : Nat), apartB ds n = true → ds[i]? = some (some t) → ds[j]? = some (some t) → i = j
  | [], _, i, j, t, _, hi, _ => by simp at hi
  | d :: r, n, 0, 0, t, _, _, _ => rfl
  | d :: r, n, i + 1, j + 1, t, h, hi, hj => by
    have h' : apartB r n = true := by
      cases d with
      | none => simpa [apartB] using h
      | some u => simp only [apartB, Bool.and_eq_true] at h; exact h.2
    rw [apart_ne r n i j t h' (by simpa using hi) (by simpa using hj)]
  | d :: r, n, 0, j + 1, t, h, hi, hj => by
    simp only [List.getElem?_cons_zero, Option.some.injEq] at hi
    subst hi
    simp only [apartB, Bool.and_eq_true, List.all_eq_true] at h
    have := h.1.2 (some t) (List.mem_of_getElem? (by simpa using hj))
    simp at this
  | d :: r, n, i + 1, 0, t, h, hi, hj => by
    simp only [List.getElem?_cons_zero, Option.some.injEq] at hj
    subst hj
    simp only [apartB, Bool.and_eq_true, List.all_eq_true] at h
    have := h.1.2 (some t) (List.mem_of_getElem? (by simpa using hi))
    simp at this
theorem apart_lt : ∀ (ds : List (Option Tmp)) (n k t : Nat), apartB ds n = true → ds[k]? = some (some t) → t < n
  | [], _, k, t, _, hk => by simp at hk
  | d :: r, n, 0, t, h, hk => by
    simp only [List.getElem?_cons_zero, Option.some.injEq] at hk
    subst hk
    simp only [apartB, Bool.and_eq_true, decide_eq_true_eq] at h
    exact h.1.1
  | d :: r, n, k + 1, t, h, hk => by
    have h' : apartB r n = true := by
      cases d with
      | none => simpa [apartB] using h
      | some u => simp only [apartB, Bool.and_eq_true] at h; exact h.2
    exact apart_lt r n k t h' (by simpa using hk)
/-- What each operation waits for. -/
def afterL (ops : List Oper) : List (List Nat) := ops.map fun o => (o.after.toList.filter (Region.binds .any)).map (·.on)
/-- need: what has come up, whenever an operation has; closed under waiting. Each waits for earlier ones alone. -/
def needB (afs need : List (List Nat)) : Bool :=
  (List.range afs.length).all fun i => (afs.getD i []).all (fun j => decide (j < i)) && (need.getD i []).all (fun j => (afs.getD i []).contains j || (afs.getD i []).any (fun m => (need.getD m []).contains j))
/-- The tail waits for all ahead of it. -/
def tailB (afs need : List (List Nat)) (n : Nat) : Bool := (List.range afs.length).all fun i => decide (i < n) || (List.range n).all (fun k => (afs.getD i []).contains k || (need.getD i []).contains k)

variable {P : Program} {ops : List Oper}
structure Inv (n : Nat) (ds : List (Option Tmp)) (need : List (List Nat)) (a0 : Act) (w0 : World) (R : World → World → Prop) (Gs : List (Value → World → Prop)) (listed : Array Bool) (a : Act) (w : World) : Prop where
  defers : a.defers = a0.defers
  size : a.tmps.size = a0.tmps.size
  lsize : listed.size = ds.length
  out : ∀ k, n ≤ k → listed.getD k false = false
  grow : R w0 w
  rest : ∀ t, (∀ k, k < n → listed.getD k false = true → ds[k]? ≠ some (some t)) → a.tmps.getD t undef = a0.tmps.getD t undef
  facts : ∀ k, k < n → listed.getD k false = true → (Gs.getD k (fun _ _ => True)) (slotAt ds a k) w
  clos : ∀ k, k < n → listed.getD k false = true → ∀ j ∈ need.getD k [], j < n ∧ listed.getD j false = true
/-- What is to be shown of one operation. -/
def StepOk (P : Program) (ops : List Oper) (ds : List (Option Tmp)) (need : List (List Nat)) (a0 : Act) (w0 : World) (R : World → World → Prop) (Gs : List (Value → World → Prop)) (Q : Exit → Act → World → Prop) (i : Nat) (o : Oper) : Prop :=
  ∀ a w, a.tmps.size = a0.tmps.size → R w0 w → (∀ t, (∀ d ∈ ds, d ≠ some t) → a.tmps.getD t undef = a0.tmps.getD t undef) → (∀ j ∈ need.getD i [], (Gs.getD j (fun _ _ => True)) (slotAt ds a j) w) →
    (Region.wanted o (yielded ops.toArray a.tmps) = true ∧ o.wp P a w (fun a' w' => ∃ v, a' = a.put o.dst v ∧ R w w' ∧ (Gs.getD i (fun _ _ => True)) (if o.dst.isSome then v else undef) w') Q) ∨
    (Region.wanted o (yielded ops.toArray a.tmps) = false ∧ (Gs.getD i (fun _ _ => True)) undef w)
/-- What holds goes on to hold. -/
def Keeps (R : World → World → Prop) (g : Value → World → Prop) : Prop := ∀ v w w', R w w' → g v w → g v w'
def Each (P : Program) (ops : List Oper) (ds : List (Option Tmp)) (need : List (List Nat)) (a0 : Act) (w0 : World) (R : World → World → Prop) (Gs : List (Value → World → Prop)) (Q : Exit → Act → World → Prop) (n i : Nat) : Prop :=
  ∀ k, i ≤ k → k < n → Keeps R (Gs.getD k (fun _ _ => True)) ∧ ∀ o, ops[k]? = some o → StepOk P ops ds need a0 w0 R Gs Q k o
theorem Each.nil {ds need a0 w0 R Gs Q n} : Each P ops ds need a0 w0 R Gs Q n n := fun k h1 h2 => by omega
theorem Each.cons {ds need a0 w0 R Gs Q n} {i : Nat} {o : Oper} (ho : ops[i]? = some o) (hk : Keeps R (Gs.getD i (fun _ _ => True))) (hs : StepOk P ops ds need a0 w0 R Gs Q i o) (hr : Each P ops ds need a0 w0 R Gs Q n (i + 1)) : Each P ops ds need a0 w0 R Gs Q n i := by
  intro k h1 h2
  rcases Nat.lt_or_eq_of_le h1 with h | rfl
  · exact hr k h h2
  · refine ⟨hk, fun o' ho' => ?_⟩
    rw [ho] at ho'
    cases ho'
    exact hs
def cntT (l : Array Bool) (n : Nat) : Nat := (List.range n).countP (fun k => l.getD k false)
theorem cntT_set (l : Array Bool) (i : Nat) (hi : i < l.size) (hf : l.getD i false = false) : ∀ n, cntT (l.setIfInBounds i true) n = cntT l n + (if i < n then 1 else 0)
  | 0 => by simp [cntT]
  | n + 1 => by
    have ih := cntT_set l i hi hf n
    unfold cntT at ih ⊢
    rw [List.range_succ, List.countP_append, List.countP_append, ih]
    by_cases h : n = i
    · subst h
      have e1 : (l.setIfInBounds n true).getD n false = true := by simp [Array.getD_eq_getD_getElem?, hi]
      simp only [List.countP_cons, List.countP_nil, e1, hf]
      simp
    · have e1 : (l.setIfInBounds i true).getD n false = l.getD n false := by simp [Array.getD_eq_getD_getElem?, Ne.symm h]
      simp only [List.countP_cons, List.countP_nil, e1]
      by_cases h2 : i < n
      · rw [if_pos h2, if_pos (show i < n + 1 by omega)]; split <;> omega
      · rw [if_neg h2, if_neg (show ¬ i < n + 1 by omega)]; split <;> omega
theorem cntT_all {l : Array Bool} {n : Nat} (h : cntT l n = n) : ∀ k, k < n → l.getD k false = true := by
  unfold cntT at h
  have h2 : (List.range n).countP (fun k => l.getD k false) = (List.range n).length := by rw [h, List.length_range]
  intro k hk
  exact List.countP_eq_length.1 h2 k (List.mem_range.2 hk)
theorem cntT_le (l : Array Bool) (n : Nat) : cntT l n ≤ n := by
  unfold cntT
  exact Nat.le_trans List.countP_le_length (by simp)
theorem getD_set_ne (l : Array Bool) {i k : Nat} (h : k ≠ i) : (l.setIfInBounds i true).getD k false = l.getD k false := by simp [Array.getD_eq_getD_getElem?, Ne.symm h]
theorem getD_set_eq (l : Array Bool) {i : Nat} (h : i < l.size) : (l.setIfInBounds i true).getD i false = true := by simp [Array.getD_eq_getD_getElem?, h]
def tailL (n m : Nat) : Array Bool := (List.replicate n true ++ List.replicate (m - n) false).toArray
theorem act_ext {a b : Act} (h1 : a.tmps = b.tmps) (h2 : a.defers = b.defers) : a = b := by cases a; cases b; simp_all
theorem ready_mem {listed : Array Bool} {i : Nat} : i ∈ Region.ready .any ops.toArray listed ↔ i < ops.length ∧ listed.getD i true = false ∧ ∀ j ∈ (afterL ops).getD i [], listed.getD j false = true := by
  simp only [Region.ready, List.mem_filter, List.mem_range, List.size_toArray]
  refine and_congr_right fun hi => ?_
  have ho : ops[i]? = some ops[i] := List.getElem?_eq_getElem hi
  have ha : (afterL ops).getD i [] = (ops[i].after.toList.filter (Region.binds .any)).map (·.on) := by
    simp [afterL, List.getD_eq_getElem?_getD, List.getElem?_map, ho]
  rw [ha]
  simp only [List.getElem?_toArray, ho, Option.map_some, Option.getD_some, Bool.and_eq_true, Bool.not_eq_true', List.mem_map, List.mem_filter, ← Array.all_toList, List.all_eq_true, Bool.or_eq_true]
  refine and_congr_right fun _ => ⟨?_, ?_⟩
  · rintro h j ⟨e, ⟨he, hb⟩, rfl⟩
    rcases h e he with h | h
    · rw [h] at hb; cases hb
    · exact h
  · intro h e he
    cases hb : Region.binds .any e with
    | false => exact .inl rfl
    | true => exact .inr (h e.on ⟨e, ⟨he, hb⟩, rfl⟩)
theorem inv_end {n : Nat} {ds need a0 w0 R Gs} {listed : Array Bool} {a : Act} {w : World} (hap : apartB (ds.take n) a0.tmps.size = true) (hn : n ≤ ds.length) (h : Inv n ds need a0 w0 R Gs listed a w) (hall : ∀ k, k < n → listed.getD k false = true) :
    listed = tailL n ds.length ∧ ∃ v : Nat → Value, a = puts (ds.take n) v 0 a0 ∧ ∀ k, k < n → (Gs.getD k (fun _ _ => True)) (match (ds[k]?).getD none with | some _ => v k | none => undef) w := by
  refine ⟨?_, (fun k : Nat => slotAt ds a k), ?_, fun k hk => ?_⟩
  · refine Array.ext (by rw [h.lsize]; simp [tailL]; omega) fun i h1 h2 => ?_
    have e1 : listed[i] = listed.getD i false := by simp [Array.getD_eq_getD_getElem?, h1]
    rw [e1]
    by_cases hi : i < n
    · rw [hall i hi]; simp [tailL, hi]
    · rw [h.out i (by omega)]; simp [tailL, List.getElem_append, hi]
  · refine act_ext ?_ (by rw [puts_defers]; exact h.defers)
    have hsz : a.tmps.size = (puts (ds.take n) (fun k => slotAt ds a k) 0 a0).tmps.size := by rw [puts_size]; exact h.size
    refine Array.ext hsz fun t h1 h2 => ?_
    have e1 : a.tmps[t] = a.tmps.getD t undef := by simp [Array.getD_eq_getD_getElem?, h1]
    have e2 : (puts (ds.take n) (fun k => slotAt ds a k) 0 a0).tmps[t] = (puts (ds.take n) (fun k => slotAt ds a k) 0 a0).tmps.getD t undef := by simp [Array.getD_eq_getD_getElem?, h2]
    rw [e1, e2]
    by_cases hd : ∃ k : Nat, (ds.take n)[k]? = some (some t)
    · obtain ⟨k, hk⟩ := hd
      rw [puts_at _ _ _ _ k t hap hk, Nat.zero_add]
      have hk2 : ds[k]? = some (some t) := by
        rw [List.getElem?_take] at hk
        split at hk
        · exact hk
        · cases hk
      unfold slotAt
      rw [hk2]
      rfl
    · have hno : ∀ d ∈ ds.take n, d ≠ some t := fun d hd2 e => by
        subst e
        obtain ⟨k, hk⟩ := List.getElem?_of_mem hd2
        exact hd ⟨k, hk⟩
      rw [puts_other _ _ _ _ _ hno]
      refine h.rest t fun k hk _ e => hd ⟨k, ?_⟩
      rw [List.getElem?_take, if_pos hk]
      exact e
  · have := h.facts k hk (hall k hk)
    unfold slotAt at this ⊢
    cases hd : (ds[k]?).getD none with
    | none => rw [hd] at this; exact this
    | some t => rw [hd] at this; simp only [hd]; exact this

theorem wpAny_inv {n : Nat} {ds : List (Option Tmp)} {need : List (List Nat)} {a0 : Act} {w0 : World} {R : World → World → Prop} {Gs : List (Value → World → Prop)} {Q : Exit → Act → World → Prop}
    (hds : ops.map (·.dst) = ds) (hn : n ≤ ops.length) (hap : apartB (ds.take n) a0.tmps.size = true) (hneed : needB (afterL ops) need = true) (htail : tailB (afterL ops) need n = true)
    (hRr : ∀ x, R x x) (hT : ∀ x y z, R x y → R y z → R x z) (hE : Each P ops (ds.take n) need a0 w0 R Gs Q n 0)
    (hend : ∀ (v : Nat → Value) w, R w0 w → (∀ k, k < n → (Gs.getD k (fun _ _ => True)) (match (ds[k]?).getD none with | some _ => v k | none => undef) w) → wpAny P .any ops.toArray Q (ops.length - n) (tailL n ops.length) (puts (ds.take n) v 0 a0) w) :
    ∀ (m : Nat) (listed : Array Bool) (a : Act) (w : World), Inv n ds need a0 w0 R Gs listed a w → cntT listed n + m = n → wpAny P .any ops.toArray Q (m + (ops.length - n)) listed a w := by
  have hdl : ds.length = ops.length := by rw [← hds, List.length_map]
  have hal : (afterL ops).length = ops.length := by simp [afterL]
  have nd : ∀ i, i < ops.length → (∀ j ∈ (afterL ops).getD i [], j < i) ∧ (∀ j ∈ need.getD i [], j ∈ (afterL ops).getD i [] ∨ ∃ m ∈ (afterL ops).getD i [], j ∈ need.getD m []) := by
    intro i hi
    have h := List.all_eq_true.1 hneed i (List.mem_range.2 (by omega))
    simp only [Bool.and_eq_true, List.all_eq_true, decide_eq_true_eq, Bool.or_eq_true, List.any_eq_true, List.contains_iff_mem] at h
    exact ⟨h.1, fun j hj => (h.2 j hj).imp id (fun ⟨m, h1, h2⟩ => ⟨m, h1, h2⟩)⟩
  have tl : ∀ i, n ≤ i → i < ops.length → ∀ k, k < n → k ∈ (afterL ops).getD i [] ∨ k ∈ need.getD i [] := by
    intro i h1 h2 k hk
    have h := List.all_eq_true.1 htail i (List.mem_range.2 (by omega))
    simp only [Bool.or_eq_true, decide_eq_true_eq, List.all_eq_true, List.contains_iff_mem, List.mem_range] at h
    exact h.resolve_left (by omega) k hk
  intro m
  induction m with
  | zero =>
    intro listed a w h hc
    obtain ⟨rfl, v, rfl, hg⟩ := inv_end hap (by omega) h (cntT_all (by omega))
    rw [Nat.zero_add, hdl]
    exact hend v w h.grow hg
  | succ m ih =>
    intro listed a w h hc
    rw [show m + 1 + (ops.length - n) = (m + (ops.length - n)) + 1 by omega]
    -- one is left
    have hleft : ∃ i, i < n ∧ listed.getD i false = false ∧ ∀ j, j < i → listed.getD j false = true := by
      have hex : ∃ i, i < n ∧ listed.getD i false = false := by
        refine Classical.byContradiction fun hno => ?_
        have : cntT listed n = n := by
          unfold cntT
          have : (List.range n).countP (fun k => listed.getD k false) = (List.range n).length := List.countP_eq_length.2 fun k hk => by
            cases hv : listed.getD k false with
            | true => rfl
            | false => exact absurd ⟨k, List.mem_range.1 hk, hv⟩ hno
          rw [this, List.length_range]
        omega
      obtain ⟨i0, h0, h1⟩ := hex
      clear h
      induction i0 using Nat.strongRecOn with
      | _ i0 ih2 =>
        by_cases hl : ∃ j, j < i0 ∧ listed.getD j false = false
        · obtain ⟨j, hj, hf⟩ := hl
          exact ih2 j hj (by omega) hf
        · exact ⟨i0, h0, h1, fun j hj => by
            cases hv : listed.getD j false with
            | true => rfl
            | false => exact absurd ⟨j, hj, hv⟩ hl⟩
    have hgt : ∀ k, k < ops.length → listed.getD k true = listed.getD k false := fun k hk => by
      have := h.lsize
      simp [Array.getD_eq_getD_getElem?, show k < listed.size by omega]
    refine ⟨fun hr => ?_, fun i hi => ?_⟩
    · obtain ⟨i, hin, hf, hj⟩ := hleft
      have : i ∈ Region.ready .any ops.toArray listed := ready_mem.2 ⟨by omega, by rw [hgt i (by omega)]; exact hf, fun j hj' => hj j ((nd i (by omega)).1 j hj')⟩
      rw [hr] at this
      cases this
    · obtain ⟨hil, hif, hia⟩ := ready_mem.1 hi
      rw [hgt i hil] at hif
      have hin : i < n := by
        refine Classical.byContradiction fun hge => ?_
        obtain ⟨j, hjn, hjf, _⟩ := hleft
        have hjt : listed.getD j false = true := by
          rcases tl i (by omega) hil j hjn with h1 | h1
          · exact hia j h1
          · rcases (nd i hil).2 j h1 with h2 | ⟨m', h2, h3⟩
            · exact hia j h2
            · have hm' : m' < n := Classical.byContradiction fun hge2 => by
                have := hia m' h2
                rw [h.out m' (by omega)] at this
                cases this
              exact (h.clos m' hm' (hia m' h2) j h3).2
        rw [hjt] at hjf
        cases hjf
      have ho : ops[i]? = some ops[i] := List.getElem?_eq_getElem hil
      have hdi : ds[i]? = some ops[i].dst := by rw [← hds, List.getElem?_map, ho]; rfl
      have hdt : ∀ k, k < n → (ds.take n)[k]? = ds[k]? := fun k hk => by rw [List.getElem?_take, if_pos hk]
      have hsl : ∀ (b : Act) k, k < n → slotAt (ds.take n) b k = slotAt ds b k := fun b k hk => by unfold slotAt; rw [hdt k hk]
      have hneedi : ∀ j ∈ need.getD i [], j < n ∧ listed.getD j false = true := fun j hj => by
        rcases (nd i hil).2 j hj with h1 | ⟨m', h1, h2⟩
        · exact ⟨by have := (nd i hil).1 j h1; omega, hia j h1⟩
        · exact h.clos m' (by have := (nd i hil).1 m' h1; omega) (hia m' h1) j h2
      obtain ⟨hk, hs⟩ := hE i (Nat.zero_le _) hin
      have hstep := hs _ ho a w h.size h.grow (fun t ht => h.rest t fun k hk _ e => ht (some t) (List.mem_of_getElem? (by rw [hdt k hk]; exact e)) rfl) (fun j hj => by
        rw [hsl a j (hneedi j hj).1]
        exact h.facts j (hneedi j hj).1 (hneedi j hj).2)
      have next : ∀ v w', R w w' → (Gs.getD i (fun _ _ => True)) (if ops[i].dst.isSome then v else undef) w' → wpAny P .any ops.toArray Q (m + (ops.length - n)) (listed.setIfInBounds i true) (a.put ops[i].dst v) w' := by
        intro v w' hR hG
        have hls : i < listed.size := by rw [h.lsize]; omega
        refine ih _ _ _ ⟨by rw [put_defers]; exact h.defers, by rw [put_size]; exact h.size, by rw [Array.size_setIfInBounds]; exact h.lsize, fun k hk => ?_, hT _ _ _ h.grow hR, fun t ht => ?_, fun k hk hkl => ?_, fun k hk hkl j hj => ?_⟩ ?_
        · rw [getD_set_ne _ (by omega)]; exact h.out k hk
        · have hne : ops[i].dst ≠ some t := fun e => ht i hin (getD_set_eq _ hls) (by rw [hdi, e])
          rw [put_get _ _ _ _ hne]
          refine h.rest t fun k hk hkl => ht k hk ?_
          by_cases hki : k = i
          · subst hki; exact getD_set_eq _ hls
          · rw [getD_set_ne _ hki]; exact hkl
        · by_cases hki : k = i
          · subst hki
            have : slotAt ds (a.put ops[k].dst v) k = if ops[k].dst.isSome then v else undef := by
              unfold slotAt
              rw [hdi]
              simp only [Option.getD_some]
              cases hd : ops[k].dst with
              | none => rfl
              | some t =>
                simp only [Option.isSome_some, if_true]
                refine put_at _ _ _ ?_
                rw [h.size]
                exact apart_lt _ _ k t hap (by rw [hdt k hin, hdi, hd])
            rw [this]
            exact hG
          · rw [getD_set_ne _ hki] at hkl
            have : slotAt ds (a.put ops[i].dst v) k = slotAt ds a k := by
              unfold slotAt
              cases hd : (ds[k]?).getD none with
              | none => rfl
              | some t =>
                refine put_get _ _ _ _ fun e => hki ?_
                have hk2 : ds[k]? = some (some t) := by
                  cases hq : ds[k]? with
                  | none => rw [hq] at hd; cases hd
                  | some x => rw [hq] at hd; simp at hd; rw [hd]
                exact apart_ne _ _ k i t hap (by rw [hdt k hk]; exact hk2) (by rw [hdt i hin, hdi, e])
            rw [this]
            exact (hE k (Nat.zero_le _) hk).1 _ _ _ hR (h.facts k hk hkl)
        · have hj2 : j < n ∧ listed.getD j false = true := by
            by_cases hki : k = i
            · subst hki; exact hneedi j hj
            · rw [getD_set_ne _ hki] at hkl; exact h.clos k hk hkl j hj
          refine ⟨hj2.1, ?_⟩
          by_cases hji : j = i
          · rw [hji]; exact getD_set_eq _ hls
          · rw [getD_set_ne _ hji]; exact hj2.2
        · rw [cntT_set _ _ hls hif, if_pos hin]; omega
      unfold wpOp
      simp only [List.getElem?_toArray, ho]
      rcases hstep with ⟨hw, hwp⟩ | ⟨hw, hg⟩
      · rw [if_pos hw]
        refine .inl (Oper.wp_mono ?_ hwp)
        rintro a' w' ⟨v, rfl, hR, hG⟩
        exact next v w' hR hG
      · rw [if_neg (by rw [hw]; simp)]
        exact next undef w (hRr w) (by split <;> exact hg)
/-- One more has come up. -/
theorem Inv.step {n : Nat} {ds : List (Option Tmp)} {need : List (List Nat)} {a0 : Act} {w0 : World} {R : World → World → Prop} {Gs : List (Value → World → Prop)} {listed : Array Bool} {a : Act} {w w' : World} {i : Nat} {d : Option Tmp} {v : Value}
    (h : Inv n ds need a0 w0 R Gs listed a w) (hn : n ≤ ds.length) (hap : apartB (ds.take n) a0.tmps.size = true) (hT : ∀ x y z, R x y → R y z → R x z) (hK : ∀ k, k < n → Keeps R (Gs.getD k (fun _ _ => True)))
    (hin : i < n) (hdi : ds[i]? = some d) (hneedi : ∀ j ∈ need.getD i [], j < n ∧ listed.getD j false = true) (hR : R w w') (hG : (Gs.getD i (fun _ _ => True)) (if d.isSome then v else undef) w') :
    Inv n ds need a0 w0 R Gs (listed.setIfInBounds i true) (a.put d v) w' := by
  have hls : i < listed.size := by rw [h.lsize]; omega
  have hdt : ∀ k, k < n → (ds.take n)[k]? = ds[k]? := fun k hk => by rw [List.getElem?_take, if_pos hk]
  refine ⟨by rw [put_defers]; exact h.defers, by rw [put_size]; exact h.size, by rw [Array.size_setIfInBounds]; exact h.lsize, fun k hk => ?_, hT _ _ _ h.grow hR, fun t ht => ?_, fun k hk hkl => ?_, fun k hk hkl j hj => ?_⟩
  · rw [getD_set_ne _ (by omega)]; exact h.out k hk
  · have hne : d ≠ some t := fun e => ht i hin (getD_set_eq _ hls) (by rw [hdi, e])
    rw [put_get _ _ _ _ hne]
    refine h.rest t fun k hk hkl => ht k hk ?_
    by_cases hki : k = i
    · subst hki; exact getD_set_eq _ hls
    · rw [getD_set_ne _ hki]; exact hkl
  · by_cases hki : k = i
    · subst hki
      have : slotAt ds (a.put d v) k = if d.isSome then v else undef := by
        unfold slotAt
        rw [hdi]
        simp only [Option.getD_some]
        cases hd : d with
        | none => rfl
        | some t =>
          simp only [Option.isSome_some, if_true]
          refine put_at _ _ _ ?_
          rw [h.size]
          exact apart_lt _ _ k t hap (by rw [hdt k hin, hdi, hd])
      rw [this]
      exact hG
    · rw [getD_set_ne _ hki] at hkl
      have : slotAt ds (a.put d v) k = slotAt ds a k := by
        unfold slotAt
        cases hd : (ds[k]?).getD none with
        | none => rfl
        | some t =>
          refine put_get _ _ _ _ fun e => hki ?_
          have hk2 : ds[k]? = some (some t) := by
            cases hq : ds[k]? with
            | none => rw [hq] at hd; cases hd
            | some x => rw [hq] at hd; simp at hd; rw [hd]
          exact apart_ne _ _ k i t hap (by rw [hdt k hk]; exact hk2) (by rw [hdt i hin, hdi, e])
      rw [this]
      exact hK k hk _ _ _ hR (h.facts k hk hkl)
  · have hj2 : j < n ∧ listed.getD j false = true := by
      by_cases hki : k = i
      · subst hki; exact hneedi j hj
      · rw [getD_set_ne _ hki] at hkl; exact h.clos k hk hkl j hj
    refine ⟨hj2.1, ?_⟩
    by_cases hji : j = i
    · rw [hji]; exact getD_set_eq _ hls
    · rw [getD_set_ne _ hji]; exact hj2.2
theorem tailL_at (n m k : Nat) : (tailL n m).getD k false = decide (k < n) := by
  unfold tailL
  simp only [Array.getD_eq_getD_getElem?, List.getElem?_toArray, List.getElem?_append, List.length_replicate, List.getElem?_replicate]
  by_cases h : k < n
  · simp [h]
  · rw [if_neg h]
    split <;> simp [h]
theorem tailL_size (n m : Nat) (h : n ≤ m) : (tailL n m).size = m := by simp [tailL]; omega
theorem tailL_set (n m : Nat) (h : n < m) : (tailL n m).setIfInBounds n true = tailL (n + 1) m := by
  have hs := tailL_size n m (by omega)
  have hs' := tailL_size (n + 1) m (by omega)
  refine Array.ext (by rw [Array.size_setIfInBounds, hs, hs']) fun i h1 h2 => ?_
  have e1 : ((tailL n m).setIfInBounds n true)[i] = ((tailL n m).setIfInBounds n true).getD i false := by rw [Array.getD_eq_getD_getElem?, Array.getElem?_eq_getElem h1]; rfl
  have e2 : (tailL (n + 1) m)[i] = (tailL (n + 1) m).getD i false := by rw [Array.getD_eq_getD_getElem?, Array.getElem?_eq_getElem h2]; rfl
  rw [e1, e2, tailL_at]
  by_cases hi : i = n
  · subst hi
    rw [getD_set_eq _ (by omega)]; simp
  · rw [getD_set_ne _ hi, tailL_at]
    simp only [decide_eq_decide]
    omega
/-- Each waits for earlier ones alone: in a region that draws nothing they come up afs they stand. -/
def seqB (need : List (List Nat)) (n : Nat) : Bool := (List.range n).all fun i => (need.getD i []).all (fun j => decide (j < i))
theorem wpList_inv {ds : List (Option Tmp)} {need : List (List Nat)} {a0 : Act} {w0 : World} {R : World → World → Prop} {Gs : List (Value → World → Prop)} {Q : Exit → Act → World → Prop}
    (hds : ops.map (·.dst) = ds) (hap : apartB ds a0.tmps.size = true) (hneed : seqB need ops.length = true) (hRr : ∀ x, R x x) (hT : ∀ x y z, R x y → R y z → R x z) (hE : Each P ops ds need a0 w0 R Gs Q ops.length 0)
    (hend : ∀ (v : Nat → Value) w, R w0 w → (∀ k, k < ops.length → (Gs.getD k (fun _ _ => True)) (match (ds[k]?).getD none with | some _ => v k | none => undef) w) → Q .normal (puts ds v 0 a0) w) :
    ∀ (rest pre : List Oper) (a : Act) (w : World), ops = pre ++ rest → Inv ops.length ds need a0 w0 R Gs (tailL pre.length ops.length) a w → wpList P ops.toArray Q rest a w
  | [], pre, a, w, e, h => by
    have hdl : ds.length = ops.length := by rw [← hds, List.length_map]
    have ht : ds.take ops.length = ds := by rw [← hdl, List.take_length]
    have hpl : pre.length = ops.length := by rw [e]; simp
    obtain ⟨_, v, rfl, hg⟩ := inv_end (by rw [ht]; exact hap) (by omega) h (fun k hk => by rw [tailL_at]; simp; omega)
    rw [ht]
    exact hend v w h.grow hg
  | o :: rest, pre, a, w, e, h => by
    have hdl : ds.length = ops.length := by rw [← hds, List.length_map]
    have ht : ds.take ops.length = ds := by rw [← hdl, List.take_length]
    have hil : pre.length < ops.length := by rw [e]; simp
    have ho : ops[pre.length]? = some o := by rw [e]; simp
    have hdi : ds[pre.length]? = some o.dst := by rw [← hds, List.getElem?_map, ho]; rfl
    have hneedi : ∀ j ∈ need.getD pre.length [], j < ops.length ∧ (tailL pre.length ops.length).getD j false = true := fun j hj => by
      have h1 := List.all_eq_true.1 hneed pre.length (List.mem_range.2 hil)
      have h2 := List.all_eq_true.1 h1 j hj
      simp only [decide_eq_true_eq] at h2
      exact ⟨by omega, by rw [tailL_at]; simpa using h2⟩
    obtain ⟨hk, hs⟩ := hE pre.length (Nat.zero_le _) hil
    have hstep := hs o ho a w h.size h.grow (fun t htt => h.rest t fun k hk _ e => htt (some t) (List.mem_of_getElem? e) rfl) (fun j hj => h.facts j (hneedi j hj).1 (hneedi j hj).2)
    have next : ∀ v w', R w w' → (Gs.getD pre.length (fun _ _ => True)) (if o.dst.isSome then v else undef) w' → wpList P ops.toArray Q rest (a.put o.dst v) w' := fun v w' hR hG => by
      have hinv := h.step (by omega) (by rw [ht]; exact hap) hT (fun k hk => (hE k (Nat.zero_le _) hk).1) hil hdi hneedi hR hG
      rw [tailL_set _ _ hil] at hinv
      refine wpList_inv hds hap hneed hRr hT hE hend rest (pre ++ [o]) _ _ (by rw [e]; simp) ?_
      rw [List.length_append, List.length_singleton]
      exact hinv
    unfold wpList
    rcases hstep with ⟨hw, hwp⟩ | ⟨hw, hg⟩
    · rw [if_pos hw]
      exact .inl (Oper.wp_mono (fun a' w' ⟨v, e, hR, hG⟩ => by subst e; exact next v w' hR hG) hwp)
    · rw [if_neg (by rw [hw]; simp)]
      exact next undef w (hRr w) (by split <;> exact hg)
/-- THE LAW, of a region that draws nothing. -/
theorem wp_region_seq {id : Nat} {ds : List (Option Tmp)} {need : List (List Nat)} {a0 : Act} {w : World} {R : World → World → Prop} {Gs : List (Value → World → Prop)} {Q : Exit → Act → World → Prop}
    (hds : ops.map (·.dst) = ds) (hap : apartB ds a0.tmps.size = true) (hneed : seqB need ops.length = true) (hRr : ∀ x, R x x) (hT : ∀ x y z, R x y → R y z → R x z) (hE : Each P ops ds need a0 w R Gs Q ops.length 0)
    (hend : ∀ (v : Nat → Value) w', R w w' → (∀ k, k < ops.length → (Gs.getD k (fun _ _ => True)) (match (ds[k]?).getD none with | some _ => v k | none => undef) w') → Q .normal (puts ds v 0 a0) w') :
    (Code.region id ops.toArray false).wp P Q a0 w := by
  refine wp_region_lit (wpList_inv hds hap hneed hRr hT hE hend ops [] a0 w rfl ?_)
  have hdl : ds.length = ops.length := by rw [← hds, List.length_map]
  have hz : ∀ k, (tailL 0 ops.length).getD k false = false := fun k => by rw [tailL_at]; simp
  exact ⟨rfl, rfl, (tailL_size _ _ (Nat.zero_le _)).trans hdl.symm, fun k _ => hz k, hRr _, fun _ _ => rfl, fun k _ hk => (by have := (hz k).symm.trans hk; cases this), fun k _ hk => (by have := (hz k).symm.trans hk; cases this)⟩
/-- THE LAW. -/
theorem wp_region_inv {id : Nat} {n : Nat} {ds : List (Option Tmp)} {need : List (List Nat)} {a0 : Act} {w : World} {R : World → World → Prop} {Gs : List (Value → World → Prop)} {Q : Exit → Act → World → Prop}
    (hm : P.follows .mixedOrders = true) (hds : ops.map (·.dst) = ds) (hn : n ≤ ops.length) (hap : apartB (ds.take n) a0.tmps.size = true) (hneed : needB (afterL ops) need = true) (htail : tailB (afterL ops) need n = true)
    (hRr : ∀ x, R x x) (hT : ∀ x y z, R x y → R y z → R x z) (hE : Each P ops (ds.take n) need a0 w.drew R Gs Q n 0)
    (hend : ∀ (v : Nat → Value) w', R w.drew w' → (∀ k, k < n → (Gs.getD k (fun _ _ => True)) (match (ds[k]?).getD none with | some _ => v k | none => undef) w') → wpAny P .any ops.toArray Q (ops.length - n) (tailL n ops.length) (puts (ds.take n) v 0 a0) w') :
    (Code.region id ops.toArray true).wp P Q a0 w := by
  refine wp_region_any hm ?_
  have hdl : ds.length = ops.length := by rw [← hds, List.length_map]
  have hz : ∀ k, (Array.replicate ops.length false).getD k false = false := fun k => by
    simp only [Array.getD_eq_getD_getElem?, Array.getElem?_replicate]
    split <;> rfl
  have h := wpAny_inv (P := P) hds hn hap hneed htail hRr hT hE hend n (Array.replicate ops.length false) a0 w.drew
    ⟨rfl, rfl, by rw [Array.size_replicate, hdl], fun k _ => hz k, hRr _, fun _ _ => rfl, fun k _ hk => (by rw [hz] at hk; cases hk), fun k _ hk => (by rw [hz] at hk; cases hk)⟩
    (by
      have : cntT (Array.replicate ops.length false) n = 0 := by
        unfold cntT
        exact List.countP_eq_zero.2 fun k _ => by rw [hz]; simp
      omega)
  rw [show n + (ops.length - n) = ops.length by omega] at h
  exact h
end
section
open Go.RowKit

theorem eval_const (a : Act) (v : Value) : a.eval (.const v) = v := rfl
abbrev Bel : World → World → Prop := fun x y => Below x.heap.size x y
variable {P : Program} {ops : List Oper} {ds : List (Option Tmp)} {need : List (List Nat)} {a0 : Act} {w0 : World} {R : World → World → Prop} {Gs : List (Value → World → Prop)} {Q : Exit → Act → World → Prop}
theorem StepOk.plain {i : Nat} {o : Oper} {g : Value → World → Prop} (hg : Gs.getD i (fun _ _ => True) = g) (hgd : o.guard = none) (hd : o.dst.isSome = true)
    (h : ∀ a w, a.tmps.size = a0.tmps.size → R w0 w → (∀ t, (∀ d ∈ ds, d ≠ some t) → a.tmps.getD t undef = a0.tmps.getD t undef) → (∀ j ∈ need.getD i [], (Gs.getD j (fun _ _ => True)) (slotAt ds a j) w) →
      o.wp P a w (fun a' w' => ∃ v, a' = a.put o.dst v ∧ R w w' ∧ g v w') Q) : StepOk P ops ds need a0 w0 R Gs Q i o := by
  intro a w h1 h2 h3 h4
  refine .inl ⟨by unfold Region.wanted; rw [hgd], Oper.wp_mono (fun a' w' ⟨v, e, r, hv⟩ => ⟨v, e, r, ?_⟩) (h a w h1 h2 h3 h4)⟩
  rw [hg, if_pos hd]
  exact hv
theorem StepOk.guarded {i : Nat} {o : Oper} {g : Value → World → Prop} (j : Nat) (t : Tmp) (b : Bool) (hgd : o.guard = some (j, b)) (hdt : (ops.map (·.dst))[j]? = some (some t)) (hg : Gs.getD i (fun _ _ => True) = g) (hd : o.dst.isSome = true)
    (h : ∀ a w, a.tmps.size = a0.tmps.size → R w0 w → (∀ t, (∀ d ∈ ds, d ≠ some t) → a.tmps.getD t undef = a0.tmps.getD t undef) → (∀ j ∈ need.getD i [], (Gs.getD j (fun _ _ => True)) (slotAt ds a j) w) →
      a.tmps.getD t undef = .bool b ∧ o.wp P a w (fun a' w' => ∃ v, a' = a.put o.dst v ∧ R w w' ∧ g v w') Q) : StepOk P ops ds need a0 w0 R Gs Q i o := by
  intro a w h1 h2 h3 h4
  obtain ⟨hb, hw⟩ := h a w h1 h2 h3 h4
  refine .inl ⟨?_, Oper.wp_mono (fun a' w' ⟨v, e, r, hv⟩ => ⟨v, e, r, ?_⟩) hw⟩
  · have e1 : a.tmps[t]? = some (.bool b) := by
      rw [Array.getD_eq_getD_getElem?] at hb
      cases hx : a.tmps[t]? with
      | none => rw [hx] at hb; cases hb
      | some x => rw [hx] at hb; simp at hb; rw [hb]
    have e2 : ((ops.toArray[j]?).bind (·.dst)) = some t := by
      rw [List.getElem?_map] at hdt
      rw [List.getElem?_toArray]
      cases hx : ops[j]? with
      | none => rw [hx] at hdt; cases hdt
      | some x => rw [hx] at hdt; simp at hdt; simp [hdt]
    unfold Region.wanted
    rw [hgd]
    simp only [yielded, e2, Option.bind_some, e1, beq_self_eq_true]
  · rw [hg, if_pos hd]
    exact hv
theorem Keeps.const (c : Value) : Keeps Bel (fun v _ => v = c) := fun _ _ _ _ h => h
theorem wp_pure {o : Oper} {a : Act} {w : World} {v : Value} {g : Value → World → Prop} (hrun : (execOp a.eval o).run P w = .ok (.value v) w) (hv : g v w) :
    o.wp P a w (fun a' w' => ∃ v, a' = a.put o.dst v ∧ Bel w w' ∧ g v w') Q := by
  unfold Oper.wp; rw [hrun]; exact ⟨v, rfl, Below.refl _ _, hv⟩
theorem wp_made {o : Oper} {a : Act} {w : World} {v : Value} {ob : Obj} {g : Value → World → Prop} (hrun : (execOp a.eval o).run P w = .ok (.value v) (w.alloc ob)) (hv : g v (w.alloc ob)) :
    o.wp P a w (fun a' w' => ∃ v, a' = a.put o.dst v ∧ Bel w w' ∧ g v w') Q := by
  unfold Oper.wp; rw [hrun]; exact ⟨v, rfl, ba w ob, hv⟩
theorem wp_fn {o : Oper} {a : Act} {w : World} {f : FuncId} {fn : Func} {args : Array Operand} {ats : Array TypeId} {vs : Array Value} {g : Value → World → Prop} (hop : o.op = .call { callee := .value (.func f), args, argTypes := ats })
    (hf : P.funcs[f]? = some fn) (hname : (fn.name == "runtime.NumGoroutine") = false) (hb : fn.body.isNone = false) (he : args.map a.eval = vs) (hC : Calls P f vs w (fun e w' => ∃ v, e = .returned v ∧ Bel w w' ∧ g v w')) :
    o.wp P a w (fun a' w' => ∃ v, a' = a.put o.dst v ∧ Bel w w' ∧ g v w') Q := by
  unfold Oper.wp
  rw [Conc.run_call_body hop hf hname hb, he]
  refine Calls.mono hC ?_
  rintro e w' ⟨v, rfl, hB, hg⟩
  exact ⟨v, rfl, hB, hg⟩
theorem wpOp_go {opa : Array Oper} {i : Nat} {o : Oper} {a : Act} {w : World} {K : Act → World → Prop} (ho : opa[i]? = some o) (hgd : o.guard = none) (h : o.wp P a w K Q) : wpOp P opa Q i K a w := by
  unfold wpOp
  simp only [ho]
  rw [if_pos (by unfold Region.wanted; rw [hgd])]
  exact .inl h
/-- The next one, where one alone may come up. -/
theorem wpAny_next {i fuel : Nat} {o : Oper} {L : Array Bool} {a : Act} {w : World} (hr : Region.ready .any ops.toArray L = [i]) (ho : ops[i]? = some o) (hgd : o.guard = none)
    (h : o.wp P a w (fun a' w' => wpAny P .any ops.toArray Q fuel (L.setIfInBounds i true) a' w') Q) : wpAny P .any ops.toArray Q (fuel + 1) L a w := by
  refine wpAny_all hr (by simp) (fun j hj => ?_)
  obtain rfl : j = i := by simpa using hj
  exact wpOp_go (by simpa using ho) hgd h
/-- The last operation, behind all the others. -/
theorem wpAny_last {n : Nat} {o : Oper} {a : Act} {w : World} (hlen : ops.length - n = 1) (hr : Region.ready .any ops.toArray (tailL n ops.length) = [n]) (hr2 : Region.ready .any ops.toArray ((tailL n ops.length).setIfInBounds n true) = [])
    (ho : ops[n]? = some o) (hgd : o.guard = none) (h : o.wp P a w (fun a' w' => Q .normal a' w') Q) : wpAny P .any ops.toArray Q (ops.length - n) (tailL n ops.length) a w := by
  rw [hlen]
  refine wpAny_all (fuel := 0) hr (by simp) (fun i hi => ?_)
  obtain rfl : i = n := by simpa using hi
  refine wpOp_go (by simpa using ho) hgd (Oper.wp_mono (fun a' w' hq => ?_) h)
  exact wpAny_done hr2 hq _
section
variable {o : Oper} {a : Act} {w : World}
theorem run_move {x : Operand} (ho : o.op = .move x) : (execOp a.eval o).run P w = .ok (.value (a.eval x)) w := by unfold execOp; simp [ho]
theorem run_assign {x : Operand} (ho : o.op = .assign x) : (execOp a.eval o).run P w = .ok (.value (a.eval x)) w := by unfold execOp; simp [ho]
theorem run_pick {c x y : Operand} (ho : o.op = .pick c x y) (b : Bool) (hc : a.eval c = .bool b) : (execOp a.eval o).run P w = .ok (.value (if b then a.eval x else a.eval y)) w := by
  unfold execOp
  simp [ho, hc, asBool]
theorem run_len {x : Operand} {t e : TypeId} (ho : o.op = .call { callee := .builtin .len, args := #[x], argTypes := #[t] }) (hu : P.underlying t = some (.slice e)) {A : Option Addr} {n c : Nat} (hx : a.eval x = .slice A n c) : (execOp a.eval o).run P w = .ok (.value (.int .i64 n)) w := by
  unfold execOp
  simp [ho, hx, resolve, invoke, builtin, Builtin.len_, run_underlying hu, goInt]
theorem run_eqI {x y : Operand} {t t' : TypeId} (ho : o.op = .binOp .eql t x y t') {k : IntKind} {m n : Int} (hx : a.eval x = .int k m) (hy : a.eval y = .int k n) : (execOp a.eval o).run P w = .ok (.value (.bool (m == n))) w := by
  unfold execOp
  simp [ho, hx, hy, eqGuard, binOp, Op.intCmp]
theorem run_lss {x y : Operand} {t t' : TypeId} (ho : o.op = .binOp .lss t x y t') {k : IntKind} {m n : Int} (hx : a.eval x = .int k m) (hy : a.eval y = .int k n) : (execOp a.eval o).run P w = .ok (.value (.bool (decide (m < n)))) w := by
  unfold execOp
  simp [ho, hx, hy, eqGuard, binOp, Op.intCmp]
theorem run_eqS {x y : Operand} {t t' : TypeId} (ho : o.op = .binOp .eql t x y t') {m n : ByteArray} (hx : a.eval x = .string m) (hy : a.eval y = .string n) : (execOp a.eval o).run P w = .ok (.value (.bool (m.toList == n.toList))) w := by
  unfold execOp
  simp [ho, hx, hy, eqGuard, binOp, Op.stringOp]
theorem run_not {x : Operand} {t : TypeId} (ho : o.op = .unOp .not t x) {b : Bool} (hx : a.eval x = .bool b) : (execOp a.eval o).run P w = .ok (.value (.bool (!b))) w := by
  unfold execOp
  simp [ho, hx, Op.unary]
end
end
end Go.Proofs.YtmjckdgomlppeaaGreatDoor
end
section
namespace Go.Proofs
open Go.Shelf
def Tryz.lays156_ren : Go.Shelf.Ren := ⟨fun | 156 => 41 | 165 => 63 | 166 => 64 | 169 => 65 | 240 => 86 | 241 => 87 | 276 => 106 | 277 => 107 | n => n, fun | 31 => 65 | 9 => 9 | 3 => 3 | 4 => 4 | 0 => 0 | 20 => 20 | 72 => 92 | 76 => 96 | 70 => 90 | 37 => 49 | 75 => 95 | 127 => 123 | 164 => 133 | 5 => 5 | 80 => 98 | n => n, fun | n => n⟩
theorem Tryz.lays156 : Go.Proofs.Lays.n156 Tryz.prog Tryz.lays156_ren := {
  mixed := by kernel_rfl
  f156 := Tryz.func41.trans (congrArg some (by kernel_rfl))
  f165 := Tryz.func63.trans (congrArg some (by kernel_rfl))
  f166 := Tryz.func64.trans (congrArg some (by kernel_rfl))
  f169 := Tryz.func65.trans (congrArg some (by kernel_rfl))
  f240 := Tryz.func86.trans (congrArg some (by kernel_rfl))
  f241 := Tryz.func87.trans (congrArg some (by kernel_rfl))
  f276 := Tryz.func106.trans (congrArg some (by kernel_rfl))
  f277 := Tryz.func107.trans (congrArg some (by kernel_rfl))
  t0 := Tryz.underlying0
  a0 := Tryz.isAgg0
  z0 := Tryz.sizeOf0
  v0 := Tryz.zeroValue0
  t3 := Tryz.underlying3
  a3 := Tryz.isAgg3
  z3 := Tryz.sizeOf3
  v3 := Tryz.zeroValue3
  t4 := Tryz.underlying4
  a4 := Tryz.isAgg4
  z4 := Tryz.sizeOf4
  v4 := Tryz.zeroValue4
  t9 := Tryz.underlying9
  a9 := Tryz.isAgg9
  z9 := Tryz.sizeOf9
  v9 := Tryz.zeroValue9
  t20 := Tryz.underlying20
  a20 := Tryz.isAgg20
  z20 := Tryz.sizeOf20
  v20 := Tryz.zeroValue20
  t31 := Tryz.underlying65
  a31 := Tryz.isAgg65
  z31 := Tryz.sizeOf65
  v31 := Tryz.zeroValue65
  t37 := Tryz.underlying49
  a37 := Tryz.isAgg49
  z37 := Tryz.sizeOf49
  v37 := Tryz.zeroValue49
  t70 := Tryz.underlying90
  a70 := Tryz.isAgg90
  z70 := Tryz.sizeOf90
  v70 := Tryz.zeroValue90
  t72 := Tryz.underlying92
  a72 := Tryz.isAgg92
  z72 := Tryz.sizeOf92
  v72 := Tryz.zeroValue92
  t75 := Tryz.underlying95
  a75 := Tryz.isAgg95
  z75 := Tryz.sizeOf95
  v75 := Tryz.zeroValue95
  t76 := Tryz.underlying96
  a76 := Tryz.isAgg96
  z76 := Tryz.sizeOf96
  v76 := Tryz.zeroValue96
  t127 := Tryz.underlying123
  a127 := Tryz.isAgg123
  z127 := Tryz.sizeOf123
  v127 := Tryz.zeroValue123
  t164 := Tryz.underlying133
  a164 := Tryz.isAgg133
  z164 := Tryz.sizeOf133
  v164 := Tryz.zeroValue133 }
theorem Tryz.Builder_Extra_156 : Builder.Extra Tryz.prog Tryz.lays156_ren := {
  sizeBuilder := by kernel_rfl
  liesBuilder := by kernel_rfl
  t5 := Tryz.underlying5
  a5 := Tryz.isAgg5
  z5 := Tryz.sizeOf5
  v5 := Tryz.zeroValue5
  infoByte := by kernel_rfl
  cellsByte := by kernel_rfl
  sizeByte := by kernel_rfl
  neB5 := by decide }
open Go.RowKit in
/-- strings.Join: "Join concatenates the elements of its first argument to create a single string. The separator string sep is placed between elements in the resulting string.": HOWEVER MANY ELEMENTS. Below the heap's end the world is as it was. (LAID: no walk: one application.) -/
theorem Tryz.strings_Join (bk o c : Nat) (xs : List ByteArray) (sep : ByteArray) (w : World) (hcells : ∀ (j : Nat) x, xs[j]? = some x → w.cell? ⟨bk, o + j, none⟩ = some (.string x)) (hbk : bk < w.heap.size) (hN : xs.length ≤ 140737488355328) (hcap : xs.length ≤ c) (hlen : (Lib.join (xs.map (·.data.toList)) sep.data.toList).length ≤ 140737488355328) :
    Calls Tryz.prog 41 #[.slice (some ⟨bk, o, none⟩) xs.length c, .string sep] w fun e w' => e = .returned (.string ⟨(Lib.join (xs.map (·.data.toList)) sep.data.toList).toArray⟩) ∧ Below w.heap.size w w' := Any.strings_Join Tryz.lays156 Tryz.Builder_Extra_156 bk o c xs sep w hcells hbk hN hcap hlen
def Tryz.lays99_ren : Go.Shelf.Ren := ⟨fun | 99 => 114 | 206 => 119 | n => n, fun | 9 => 9 | 4 => 4 | 3 => 3 | n => n, fun | n => n⟩
theorem Tryz.lays99 : Go.Proofs.Lays.n99 Tryz.prog Tryz.lays99_ren := {
  mixed := by kernel_rfl
  f99 := Tryz.func114.trans (congrArg some (by kernel_rfl))
  f206 := Tryz.func119.trans (congrArg some (by kernel_rfl))
  t3 := Tryz.underlying3
  a3 := Tryz.isAgg3
  z3 := Tryz.sizeOf3
  v3 := Tryz.zeroValue3
  t4 := Tryz.underlying4
  a4 := Tryz.isAgg4
  z4 := Tryz.sizeOf4
  v4 := Tryz.zeroValue4
  t9 := Tryz.underlying9
  a9 := Tryz.isAgg9
  z9 := Tryz.sizeOf9
  v9 := Tryz.zeroValue9 }
open Go.RowKit Go.Lib in
/-- strings.HasPrefix: "HasPrefix reports whether the string s begins with prefix.": IT RETURNS 'Lib.hasPrefix s prefix'; the world is as it was. (LAID: no walk: one application.) -/
theorem Tryz.strings_HasPrefix (s p : ByteArray) (w : World) :
    Calls Tryz.prog 114 #[.string s, .string p] w fun e w' => e = .returned (.bool (Lib.hasPrefix s.data.toList p.data.toList)) ∧ w' = w := Any.strings_HasPrefix Tryz.lays99 s p w
end Go.Proofs
end
section
namespace Go.Proofs.YtmjckdgomlppeaaGreatDoor
open Go.RowKit Go.Shelf
attribute [local go_sem] Oper.semAt_some

def typW (n : Int) : List UInt8 := if n = 1 then [66, 79, 79, 76] else if n = 2 then [73, 78, 84] else if n = 3 then [84, 69, 88, 84] else [63]
abbrev strL (l : List UInt8) : Value := .string ⟨l.toArray⟩
theorem showType_any (n : Int) (w : World) {s : List UInt8} (hs : typW n = s) : Calls Tryz.prog 40 #[.int .i64 n] w fun e w' => e = .returned (strL s) ∧ w' = w := by
  subst hs
  by_cases h1 : n = 1
  · subst h1
    go_enter Tryz.func40, Tryz.ntmps40
    go_wp2_with fail
    go_ret
    exact ⟨rfl, rfl⟩
  · by_cases h2 : n = 2
    · subst h2
      go_enter Tryz.func40, Tryz.ntmps40
      go_wp2_with fail
      go_ret
      exact ⟨rfl, rfl⟩
    · by_cases h3 : n = 3
      · subst h3
        go_enter Tryz.func40, Tryz.ntmps40
        go_wp2_with fail
        go_ret
        exact ⟨rfl, rfl⟩
      · rw [typW, if_neg h1, if_neg h2, if_neg h3]
        go_enter Tryz.func40, Tryz.ntmps40
        go_wp2_with fail
        go_ret
        exact ⟨rfl, rfl⟩
theorem rtype13_any (n : Int) (w : World) {s : List UInt8} (hs : typW n = s) : Calls Tryz.prog 42 #[.int .i64 n] w fun e w' => e = .returned (strL s) ∧ w' = w := by
  subst hs
  by_cases h1 : n = 1
  · subst h1
    go_enter Tryz.func42, Tryz.ntmps42
    go_wp2_with fail
    go_ret
    exact ⟨rfl, rfl⟩
  · by_cases h2 : n = 2
    · subst h2
      go_enter Tryz.func42, Tryz.ntmps42
      go_wp2_with fail
      go_ret
      exact ⟨rfl, rfl⟩
    · by_cases h3 : n = 3
      · subst h3
        go_enter Tryz.func42, Tryz.ntmps42
        go_wp2_with fail
        go_ret
        exact ⟨rfl, rfl⟩
      · rw [typW, if_neg h1, if_neg h2, if_neg h3]
        go_enter Tryz.func42, Tryz.ntmps42
        go_wp2_with fail
        go_ret
        exact ⟨rfl, rfl⟩
end Go.Proofs.YtmjckdgomlppeaaGreatDoor
end
section
namespace Go.Proofs.YtmjckdgomlppeaaGreatDoor
open Go.RowKit Go.Shelf
attribute [local go_sem] Oper.semAt_some

section
variable {o : Oper} {a : Act} {w : World}
theorem run_cat {P : Program} {x y : Operand} {t t' : TypeId} (ho : o.op = .binOp .add t x y t') {m n : ByteArray} (hx : a.eval x = .string m) (hy : a.eval y = .string n) (hs : m.size + n.size ≤ 9223372036854775807) : (execOp a.eval o).run P w = .ok (.value (.string (m ++ n))) w := by
  unfold execOp
  simp [ho, hx, hy, eqGuard, binOp, run_string_add_sum w m n (by omega)]
theorem run_faC1 {x : Operand} (ho : o.op = .fieldAddr 57 x 1) {u : Nat} (hx : a.eval x = .pointer (some ⟨u, 0, none⟩)) : (execOp a.eval o).run Tryz.prog w = .ok (.value (.pointer (some ⟨u, 1, none⟩))) w := by
  have h : (Instr.fieldAt 57 (.pointer (some ⟨u, 0, none⟩)) 1).run Tryz.prog w = .ok (.pointer (some ⟨u, 1, none⟩)) w := by go_simp
  unfold execOp
  simp only [ho, hx]
  rw [Sem.run_bind, h]
  rfl
theorem run_faC2 {x : Operand} (ho : o.op = .fieldAddr 57 x 2) {u : Nat} (hx : a.eval x = .pointer (some ⟨u, 0, none⟩)) : (execOp a.eval o).run Tryz.prog w = .ok (.value (.pointer (some ⟨u, 2, none⟩))) w := by
  have h : (Instr.fieldAt 57 (.pointer (some ⟨u, 0, none⟩)) 2).run Tryz.prog w = .ok (.pointer (some ⟨u, 2, none⟩)) w := by go_simp
  unfold execOp
  simp only [ho, hx]
  rw [Sem.run_bind, h]
  rfl
theorem run_faTa0 {x : Operand} (ho : o.op = .fieldAddr 29 x 0) {u : Nat} (hx : a.eval x = .pointer (some ⟨u, 0, none⟩)) : (execOp a.eval o).run Tryz.prog w = .ok (.value (.pointer (some ⟨u, 0, none⟩))) w := by
  have h : (Instr.fieldAt 29 (.pointer (some ⟨u, 0, none⟩)) 0).run Tryz.prog w = .ok (.pointer (some ⟨u, 0, none⟩)) w := by go_simp
  unfold execOp
  simp only [ho, hx]
  rw [Sem.run_bind, h]
  rfl
theorem run_ldStr {x : Operand} (ho : o.op = .load 9 x) {u p : Nat} {s : ByteArray} (hx : a.eval x = .pointer (some ⟨u, p, none⟩)) (hc : w.cell? ⟨u, p, none⟩ = some (.string s)) : (execOp a.eval o).run Tryz.prog w = .ok (.value (.string s)) w := by
  have h : (Instr.loadAt 9 (.pointer (some ⟨u, p, none⟩))).run Tryz.prog w = .ok (.string s) w := by go_simp
  unfold execOp
  simp only [ho, hx]
  rw [Sem.run_bind, h]
  rfl
theorem run_ldInt {x : Operand} (ho : o.op = .load 3 x) {u p : Nat} {n : Int} (hx : a.eval x = .pointer (some ⟨u, p, none⟩)) (hc : w.cell? ⟨u, p, none⟩ = some (.int .i64 n)) : (execOp a.eval o).run Tryz.prog w = .ok (.value (.int .i64 n)) w := by
  have h : (Instr.loadAt 3 (.pointer (some ⟨u, p, none⟩))).run Tryz.prog w = .ok (.int .i64 n) w := by go_simp
  unfold execOp
  simp only [ho, hx]
  rw [Sem.run_bind, h]
  rfl
theorem run_ixS {x y : Operand} (ho : o.op = .indexAddr 65 x y) {b n c j : Nat} (hj : j < n) (hx : a.eval x = .slice (some ⟨b, 0, none⟩) n c) (hy : a.eval y = .int .i64 (j : Nat)) : (execOp a.eval o).run Tryz.prog w = .ok (.value (.pointer (some ⟨b, j, none⟩))) w := by
  have hjI : (j : Int) < (n : Int) := by omega
  have h : (Instr.indexAt 65 (.slice (some ⟨b, 0, none⟩) n c) (.int .i64 (j : Nat))).run Tryz.prog w = .ok (.pointer (some ⟨b, j, none⟩)) w := by go_simp
  unfold execOp
  simp only [ho, hx, hy]
  rw [Sem.run_bind, h]
  rfl
theorem wp_putS {K : Act → World → Prop} {Q : Exit → Act → World → Prop} (x y : Operand) (ho : o.op = .store 9 x y) {u k : Nat} {s s0 : ByteArray}
    (hx : a.eval x = .pointer (some ⟨u, k, none⟩)) (hy : a.eval y = .string s) (hc : w.cell? ⟨u, k, none⟩ = some (.string s0)) (hf : w.frozen? ⟨u, k, none⟩ = false)
    (h : K (a.put o.dst undef) (w.setCell ⟨u, k, none⟩ (.string s))) : o.wp Tryz.prog a w K Q := by
  unfold Oper.wp execOp
  simp only [ho, hx, hy]
  go_simp
  exact h
end
theorem info_strC : (Tryz.prog.info? 9).map (fun i => (i.zero, i.size, i.bytes)) = some (some (.string ⟨#[]⟩), 1, 16) := by kernel_rfl
theorem make_strsC (n : Nat) (hn : n ≤ 65536) (w : World) : (Instr.makeSlice 65 (.int .i64 n) (.int .i64 n)).run Tryz.prog w =
    .ok (.slice (some ⟨w.heap.size, 0, none⟩) n n) (w.alloc (.cells (Array.replicate n (.string ⟨#[]⟩)) 9)) := by
  have h := run_make_row' (P := Tryz.prog) 65 9 (.string ⟨#[]⟩) 16 Tryz.underlying65 info_strC rfl .i64 .i64 n (by omega) (by omega) w
  have e : madeCells #[Value.string ⟨#[]⟩] n = Array.replicate n (.string ⟨#[]⟩) := by
    apply Array.toList_inj.1
    rw [toList_madeCells_one]; simp
  rw [e] at h
  exact h
/-- Texts of the call's own. -/
def Txt (w : World) (g : Nat) (cs : List ByteArray) : Prop := w.heap[g]? = some (.cells (cs.map Value.string).toArray 9 (0, 0))
theorem Txt.set {w : World} {g : Nat} {cs : List ByteArray} (h : Txt w g cs) (k : Nat) (b : ByteArray) : Txt (w.setCell ⟨g, k, none⟩ (.string b)) g (cs.set k b) := by
  unfold Txt at h ⊢
  simp only [World.setCell, Array.getElem?_modify, if_true, h]
  simp [List.map_set]
theorem Txt.at {w : World} {g : Nat} {cs : List ByteArray} (h : Txt w g cs) {k : Nat} {b : ByteArray} (hk : cs[k]? = some b) : w.cell? ⟨g, k, none⟩ = some (.string b) := by
  unfold Txt at h
  simp [World.cell?, h, hk]
theorem Txt.free {w : World} {g : Nat} {cs : List ByteArray} (h : Txt w g cs) (k : Nat) : w.frozen? ⟨g, k, none⟩ = false := by
  unfold Txt at h
  simp [World.frozen?, h]
theorem Txt.lt {w : World} {g : Nat} {cs : List ByteArray} (h : Txt w g cs) : g < w.heap.size := (Array.getElem?_eq_some_iff.1 h).1
/-- A column's text. -/
def colS (c : Co) : ByteArray := (c.nm ++ ⟨#[32]⟩) ++ ⟨(typW c.ty).toArray⟩
theorem typW_size (n : Int) : ByteArray.size ⟨(typW n).toArray⟩ ≤ 4 := by
  unfold typW
  split
  · exact Nat.le_refl _
  · split
    · decide
    · split <;> decide
theorem size_list (l : List UInt8) : ByteArray.size ⟨l.toArray⟩ = l.length := by simp [ByteArray.size]
/-- A table's text. -/
def shoT (t : Ta) : List UInt8 := t.nm.data.toList ++ [40] ++ Lib.join (t.cols.map fun c => (colS c).data.toList) [44, 32] ++ [41]
set_option maxRecDepth 100000 in
set_option maxHeartbeats 4000000 in
theorem show13_any (t : Ta) (A B : Option Addr) (c d : Nat) (wz : World) (h : TaOk wz t A c B d) (hl : t.cols.length ≤ 65536) (hn : t.nm.size ≤ 140737488355328) (hs : ∀ x ∈ t.cols, x.nm.size ≤ 140737488355328) (hlen : (Lib.join (t.cols.map fun c => (colS c).data.toList) [44, 32]).length ≤ 140737488355328) :
    Calls Tryz.prog 20 #[TV t.nm A t.cols.length c B t.rows.length d] wz fun e w' => ∃ s, e = .returned (.string s) ∧ s.data.toList = shoT t ∧ Below wz.heap.size wz w' := by
  have hmk := make_strsC t.cols.length (by omega)
  have hba := ba wz (tbox t.nm A t.cols.length c B t.rows.length d)
  have HBx := Lib.hid (MapKept.heap_alloc wz (tbox t.nm A t.cols.length c B t.rows.length d)).1
  have HC := Lib.hid (h.co.kept hba)
  have HB := Lib.hid hba
  have HL := Lib.hid hl
  have HSn := Lib.hid hn
  have HSc := Lib.hid hs
  have HLn := Lib.hid hlen
  obtain ⟨nm, cols, rows⟩ := t
  simp only at hmk HBx HC HB HL HSn HSc HLn ⊢
  clear hba h hl hn hs hlen
  go_enter Tryz.func20, Tryz.ntmps20
  go_upto_region 1 with fail
  obtain ⟨u, hu⟩ : ∃ u, wz.heap.size = u := ⟨_, rfl⟩
  generalize wz.alloc (.cells #[.string nm, .slice A cols.length c, .slice B rows.length d] 29) = W0 at HBx HC HB ⊢
  rw [hu] at HBx
  try rw [hu]
  have HUz := Lib.hid hu
  clear hu
  obtain ⟨x0, x1, x2⟩ := cell3 HBx.out
  have hb1 := ba W0 (.cells (Array.replicate cols.length (.string ⟨#[]⟩)) 9)
  have HT0 := Lib.hid (show Txt (W0.alloc (.cells (Array.replicate cols.length (.string ⟨#[]⟩)) 9)) W0.heap.size (List.replicate cols.length ⟨#[]⟩) from by
    unfold Txt
    rw [show ((List.replicate cols.length (⟨#[]⟩ : ByteArray)).map Value.string).toArray = Array.replicate cols.length (.string ⟨#[]⟩) by simp]
    exact (MapKept.heap_alloc W0 _).1)
  have hx1 := (hb1.block u (Array.getElem?_eq_some_iff.1 HBx.out).1).trans HBx.out
  have HB1 := Lib.hid (bt HB.out hb1)
  have HB01 := Lib.hid hb1
  obtain ⟨U, hU⟩ : ∃ U, W0.heap.size = U := ⟨_, rfl⟩
  have HUe := Lib.hid (show U = W0.heap.size from hU.symm)
  have HUB := Lib.hid (show wz.heap.size ≤ U by have := HB.out.size; omega)
  go_upto_region 2 with fail
  generalize W0.alloc (.cells (Array.replicate cols.length (.string ⟨#[]⟩)) 9) = W1 at HT0 HB1 HB01 hx1 ⊢
  rw [hU] at HT0
  try rw [hU]
  clear hU hb1 hmk x0 x1 x2
  obtain ⟨x0, x1, x2⟩ := cell3 hx1
  have hl64 := HL.out
  clear hx1
  go_wp2_with fail
  clear x0 x1 x2
  go_loopw [13] (fun i wr => ∃ (j : Nat) (cs : List ByteArray), j ≤ cols.length ∧ i = .int .i64 j ∧ cs.length = cols.length ∧ Hid (cs.take j = (cols.map colS).take j) ∧ Hid (Txt wr U cs) ∧ Hid (Below wz.heap.size wz wr) ∧ Hid (Below W0.heap.size W0 wr)) (fun i _ => cols.length - (intOf i).toNat)
  case atStart => exact ⟨0, _, Nat.zero_le _, rfl, by simp, Lib.hid (by simp), HT0, HB1, HB01⟩
  case round =>
    obtain ⟨j, cs, hj, rfl, hcs, HCt, HX, HW, HW0⟩ := hrel
    by_cases hlt : j < cols.length
    · obtain ⟨b1, off1, rfl, hb1, c0, c1, c2⟩ := (HC.out.kept HW0.out).at hlt
      have HN := Lib.hid (show (cs.set j (colS cols[j])).take (j + 1) = (cols.map colS).take (j + 1) by
        rw [List.take_add_one, List.take_add_one, List.getElem?_set_self (by omega), List.getElem?_map, List.getElem?_eq_getElem hlt, List.take_set_of_le (Nat.le_refl _), HCt.out]; rfl)
      have HSx := Lib.hid (HSc.out cols[j] (List.getElem_mem hlt))
      generalize cols[j] = x at c0 c1 c2 HN HSx
      obtain ⟨xt, xn, xy⟩ := x
      simp only at c0 c1 c2 HSx
      have hba := ba wr (.cells #[.string xt, .string xn, .int .i64 xy] 57)
      have HK := Lib.hid (MapKept.heap_alloc wr (.cells #[.string xt, .string xn, .int .i64 xy] 57)).1
      replace HX := Lib.hid (show Txt (wr.alloc (.cells #[.string xt, .string xn, .int .i64 xy] 57)) U cs from (hba.block U HX.out.lt).trans HX.out)
      replace HW := Lib.hid (bt HW.out hba)
      replace HW0 := Lib.hid (bt HW0.out hba)
      have HUl := Lib.hid HX.out.lt
      go_upto_region 5 with fail
      generalize wr.alloc (.cells #[.string xt, .string xn, .int .i64 xy] 57) = W2 at HK HX HW HW0 HUl ⊢
      generalize wr.heap.size = p at HK ⊢
      obtain ⟨_, y1, y2⟩ := cell3 HK.out
      have hpl := (Array.getElem?_eq_some_iff.1 HK.out).1
      clear hba c0 c1 c2 hb1
      refine wp_region_inv (n := 10) (ds := [some 18, some 19, some 20, some 21, some 22, some 23, some 24, some 25, some 26, some 27, none]) (need := [[], [], [], [2], [3], [], [5], [6], [4, 7], [0, 1, 2, 3, 4, 5, 6, 7, 8], [0, 1, 2, 3, 4, 5, 6, 7, 8, 9]]) (R := Bel) (Gs := [
          (fun v _ => v = .slice (some ⟨U, 0, none⟩) cols.length cols.length),
          (fun v _ => v = .int .i64 (j : Nat)),
          (fun v _ => v = .pointer (some ⟨p, 1, none⟩)),
          (fun v _ => v = .string xn),
          (fun v _ => v = .string (xn ++ ⟨#[32]⟩)),
          (fun v _ => v = .pointer (some ⟨p, 2, none⟩)),
          (fun v _ => v = .int .i64 xy),
          (fun v _ => v = strL (typW xy)),
          (fun v _ => v = .string (colS ⟨xt, xn, xy⟩)),
          (fun v _ => v = .pointer (some ⟨U, j, none⟩))])
        (by kernel_rfl) (by kernel_rfl) (by decide) (by kernel_rfl) (by kernel_rfl) (by kernel_rfl) (fun x => Below.refl _ x) (fun _ _ _ h k => bt h k) ?_ ?_
      · refine Each.cons rfl (Keeps.const _) (StepOk.plain (g := (fun v _ => v = .slice (some ⟨U, 0, none⟩) cols.length cols.length)) rfl rfl rfl (fun a w hs hR hr pre => ?_)) ?_
        · have ep : a.eval (.tmp 3) = .slice (some ⟨U, 0, none⟩) cols.length cols.length := hr 3 (by decide)
          exact wp_pure (run_move rfl) ep
        refine Each.cons rfl (Keeps.const _) (StepOk.plain (g := (fun v _ => v = .int .i64 (j : Nat))) rfl rfl rfl (fun a w hs hR hr pre => ?_)) ?_
        · have ep : a.eval (.tmp 4) = .int .i64 (j : Nat) := hr 4 (by decide)
          exact wp_pure (run_move rfl) ep
        refine Each.cons rfl (Keeps.const _) (StepOk.plain (g := (fun v _ => v = .pointer (some ⟨p, 1, none⟩))) rfl rfl rfl (fun a w hs hR hr pre => ?_)) ?_
        · have ep : a.eval (.tmp 5) = .pointer (some ⟨p, 0, none⟩) := hr 5 (by decide)
          exact wp_pure (run_faC1 rfl ep) rfl
        refine Each.cons rfl (Keeps.const _) (StepOk.plain (g := (fun v _ => v = .string xn)) rfl rfl rfl (fun a w hs hR hr pre => ?_)) ?_
        · have e20 : a.eval (.tmp 20) = .pointer (some ⟨p, 1, none⟩) := pre 2 (by decide)
          exact wp_pure (run_ldStr rfl e20 ((hR.cell (p := ⟨p, _, none⟩) hpl).trans y1)) rfl
        refine Each.cons rfl (Keeps.const _) (StepOk.plain (g := (fun v _ => v = .string (xn ++ ⟨#[32]⟩))) rfl rfl rfl (fun a w hs hR hr pre => ?_)) ?_
        · have e21 : a.eval (.tmp 21) = .string xn := pre 3 (by decide)
          exact wp_pure (run_cat rfl e21 rfl (by have := HSx.out; have h1 : ByteArray.size ⟨#[32]⟩ = 1 := rfl; omega)) rfl
        refine Each.cons rfl (Keeps.const _) (StepOk.plain (g := (fun v _ => v = .pointer (some ⟨p, 2, none⟩))) rfl rfl rfl (fun a w hs hR hr pre => ?_)) ?_
        · have ep : a.eval (.tmp 5) = .pointer (some ⟨p, 0, none⟩) := hr 5 (by decide)
          exact wp_pure (run_faC2 rfl ep) rfl
        refine Each.cons rfl (Keeps.const _) (StepOk.plain (g := (fun v _ => v = .int .i64 xy)) rfl rfl rfl (fun a w hs hR hr pre => ?_)) ?_
        · have e23 : a.eval (.tmp 23) = .pointer (some ⟨p, 2, none⟩) := pre 5 (by decide)
          exact wp_pure (run_ldInt rfl e23 ((hR.cell (p := ⟨p, _, none⟩) hpl).trans y2)) rfl
        refine Each.cons rfl (Keeps.const _) (StepOk.plain (g := (fun v _ => v = strL (typW xy))) rfl rfl rfl (fun a w hs hR hr pre => ?_)) ?_
        · have e24 : a.eval (.tmp 24) = .int .i64 xy := pre 6 (by decide)
          exact wp_fn (vs := #[.int .i64 xy]) rfl Tryz.func40 (by kernel_rfl) (by kernel_rfl) (by simp only [List.map_toArray, List.map_cons, List.map_nil, e24]) ((showType_any xy w rfl).mono fun _ _ ⟨h1, h2⟩ => ⟨_, h1, by rw [h2]; exact Below.refl _ _, rfl⟩)
        refine Each.cons rfl (Keeps.const _) (StepOk.plain (g := (fun v _ => v = .string (colS ⟨xt, xn, xy⟩))) rfl rfl rfl (fun a w hs hR hr pre => ?_)) ?_
        · have e22 : a.eval (.tmp 22) = .string (xn ++ ⟨#[32]⟩) := pre 4 (by decide)
          have e25 : a.eval (.tmp 25) = strL (typW xy) := pre 7 (by decide)
          exact wp_pure (run_cat rfl e22 e25 (by have := HSx.out; have h1 : ByteArray.size ⟨#[32]⟩ = 1 := rfl; have h2 := typW_size xy; rw [ByteArray.size_append]; omega)) rfl
        refine Each.cons rfl (Keeps.const _) (StepOk.plain (g := (fun v _ => v = .pointer (some ⟨U, j, none⟩))) rfl rfl rfl (fun a w hs hR hr pre => ?_)) ?_
        · have e18 : a.eval (.tmp 18) = .slice (some ⟨U, 0, none⟩) cols.length cols.length := pre 0 (by decide)
          have e19 : a.eval (.tmp 19) = .int .i64 (j : Nat) := pre 1 (by decide)
          exact wp_pure (run_ixS rfl hlt e18 e19) rfl
        exact Each.nil
      · intro v w1 hB hG
        have e8 : v 8 = .string (colS ⟨xt, xn, xy⟩) := hG 8 (by decide)
        have e9 : v 9 = .pointer (some ⟨U, j, none⟩) := hG 9 (by decide)
        clear hG
        simp only [List.take_succ_cons, List.take_zero, puts, Act.put, List.setIfInBounds_toArray, List.set_cons_zero, List.set_cons_succ, Nat.reduceAdd, e8, e9]
        have HX4 := Lib.hid (show Txt w1 U cs from (bt (Below.drew (Below.refl _ _)) hB).block U HUl.out |>.trans HX.out)
        obtain ⟨b, hbk⟩ : ∃ b, cs[j]? = some b := ⟨_, List.getElem?_eq_getElem (by omega)⟩
        have HX5 := Lib.hid (HX4.out.set j (colS ⟨xt, xn, xy⟩))
        have HB5 := Lib.hid ((bt HW.out (bt (Below.drew (Below.refl _ _)) hB)).setCell (p := ⟨U, j, none⟩) HUB.out (.string (colS ⟨xt, xn, xy⟩)))
        have HB6 := Lib.hid ((bt HW0.out (bt (Below.drew (Below.refl _ _)) hB)).setCell (p := ⟨U, j, none⟩) (by rw [HUe.out]; exact Nat.le_refl _) (.string (colS ⟨xt, xn, xy⟩)))
        refine wpAny_next (i := 10) (fuel := 0) (by kernel_rfl) rfl rfl ?_
        refine wp_putS (.tmp 27) (.tmp 26) rfl (by rfl) (by rfl) (HX4.out.at hbk) (HX4.out.free j) ?_
        refine wpAny_done (by kernel_rfl) ?_ _
        clear hB hbk
        go_wp2_with fail
        go_roundw
        case rel => exact ⟨j + 1, cs.set j (colS ⟨xt, xn, xy⟩), by omega, by go_num, by simp [hcs], HN, HX5, HB5, HB6⟩
        case measure => simp [intOf]; omega
    · obtain rfl : j = cols.length := by omega
      have hcl : cs = cols.map colS := by
        have := HCt.out
        rwa [List.take_of_length_le (by omega), List.take_of_length_le (by simp)] at this
      subst hcl
      obtain ⟨JJ, hJJ⟩ : ∃ JJ, Lib.join (cols.map fun c => (colS c).data.toList) [44, 32] = JJ := ⟨_, rfl⟩
      have hjm : Lib.join ((cols.map colS).map (·.data.toList)) (⟨#[44, 32]⟩ : ByteArray).data.toList = JJ := by rw [← hJJ, List.map_map]; rfl
      have HJl := Lib.hid (show JJ.length ≤ 140737488355328 by rw [← hJJ]; exact HLn.out)
      have HJn := Lib.hid (fun W (hb : Below wr.heap.size wr W) => by
        have hX : Txt W U (cols.map colS) := (hb.block U HX.out.lt).trans HX.out
        have hK := Tryz.strings_Join U 0 cols.length (cols.map colS) ⟨#[44, 32]⟩ W (fun j b hb => by rw [Nat.zero_add]; exact hX.at hb) hX.lt (by rw [List.length_map]; have := HL.out; omega) (by rw [List.length_map]; exact Nat.le_refl _) (by rw [hjm]; exact HJl.out)
        rw [hjm, List.length_map] at hK
        exact hK)
      have HFin := Lib.hid (show (((nm ++ ⟨#[40]⟩) ++ ⟨JJ.toArray⟩) ++ ⟨#[41]⟩ : ByteArray).data.toList = shoT ⟨nm, cols, rows⟩ by
        rw [← hJJ]
        simp [shoT])
      have hz := (HW0.out.block u (Array.getElem?_eq_some_iff.1 HBx.out).1).trans HBx.out
      obtain ⟨z0, _, _⟩ := cell3 hz
      have hul := (Array.getElem?_eq_some_iff.1 hz).1
      clear hz hlt hj hcs hjm hJJ
      go_upto_region 7 with fail
      refine wp_region_inv (n := 8) (ds := [some 29, some 30, some 31, some 32, some 33, some 34, some 35, some 2]) (need := [[], [0], [1], [], [3], [2, 4], [5], [0, 1, 2, 3, 4, 5, 6]]) (R := Bel) (Gs := [
          (fun v _ => v = .pointer (some ⟨u, 0, none⟩)),
          (fun v _ => v = .string nm),
          (fun v _ => v = .string (nm ++ ⟨#[40]⟩)),
          (fun v _ => v = .slice (some ⟨U, 0, none⟩) cols.length cols.length),
          (fun v _ => v = strL JJ),
          (fun v _ => v = .string ((nm ++ ⟨#[40]⟩) ++ ⟨JJ.toArray⟩)),
          (fun v _ => v = .string (((nm ++ ⟨#[40]⟩) ++ ⟨JJ.toArray⟩) ++ ⟨#[41]⟩)),
          (fun v _ => v = .string (((nm ++ ⟨#[40]⟩) ++ ⟨JJ.toArray⟩) ++ ⟨#[41]⟩))])
        (by kernel_rfl) (by kernel_rfl) (by decide) (by kernel_rfl) (by kernel_rfl) (by kernel_rfl) (fun x => Below.refl _ x) (fun _ _ _ h k => bt h k) ?_ ?_
      · refine Each.cons rfl (Keeps.const _) (StepOk.plain (g := (fun v _ => v = .pointer (some ⟨u, 0, none⟩))) rfl rfl rfl (fun a w hs hR hr pre => ?_)) ?_
        · have ep : a.eval (.tmp 1) = .pointer (some ⟨u, 0, none⟩) := hr 1 (by decide)
          exact wp_pure (run_faTa0 rfl ep) rfl
        refine Each.cons rfl (Keeps.const _) (StepOk.plain (g := (fun v _ => v = .string nm)) rfl rfl rfl (fun a w hs hR hr pre => ?_)) ?_
        · have e29 : a.eval (.tmp 29) = .pointer (some ⟨u, 0, none⟩) := pre 0 (by decide)
          exact wp_pure (run_ldStr rfl e29 ((hR.cell (p := ⟨u, _, none⟩) hul).trans z0)) rfl
        refine Each.cons rfl (Keeps.const _) (StepOk.plain (g := (fun v _ => v = .string (nm ++ ⟨#[40]⟩))) rfl rfl rfl (fun a w hs hR hr pre => ?_)) ?_
        · have e30 : a.eval (.tmp 30) = .string nm := pre 1 (by decide)
          exact wp_pure (run_cat rfl e30 rfl (by have := HSn.out; have h1 : ByteArray.size ⟨#[40]⟩ = 1 := rfl; omega)) rfl
        refine Each.cons rfl (Keeps.const _) (StepOk.plain (g := (fun v _ => v = .slice (some ⟨U, 0, none⟩) cols.length cols.length)) rfl rfl rfl (fun a w hs hR hr pre => ?_)) ?_
        · have ep : a.eval (.tmp 3) = .slice (some ⟨U, 0, none⟩) cols.length cols.length := hr 3 (by decide)
          exact wp_pure (run_move rfl) ep
        refine Each.cons rfl (Keeps.const _) (StepOk.plain (g := (fun v _ => v = strL JJ)) rfl rfl rfl (fun a w hs hR hr pre => ?_)) ?_
        · have e32 : a.eval (.tmp 32) = .slice (some ⟨U, 0, none⟩) cols.length cols.length := pre 3 (by decide)
          exact wp_fn (vs := #[.slice (some ⟨U, 0, none⟩) cols.length cols.length, .string ⟨#[44, 32]⟩]) rfl Tryz.func41 (by kernel_rfl) (by kernel_rfl) (by simp only [List.map_toArray, List.map_cons, List.map_nil, eval_const, e32]) ((HJn.out w (bt (Below.drew (Below.refl _ _)) hR)).mono fun _ _ ⟨h1, h2⟩ => ⟨_, h1, h2, rfl⟩)
        refine Each.cons rfl (Keeps.const _) (StepOk.plain (g := (fun v _ => v = .string ((nm ++ ⟨#[40]⟩) ++ ⟨JJ.toArray⟩))) rfl rfl rfl (fun a w hs hR hr pre => ?_)) ?_
        · have e31 : a.eval (.tmp 31) = .string (nm ++ ⟨#[40]⟩) := pre 2 (by decide)
          have e33 : a.eval (.tmp 33) = strL JJ := pre 4 (by decide)
          exact wp_pure (run_cat rfl e31 e33 (by have := HSn.out; have := HJl.out; have h1 : ByteArray.size ⟨#[40]⟩ = 1 := rfl; have h2 := size_list JJ; rw [ByteArray.size_append]; omega)) rfl
        refine Each.cons rfl (Keeps.const _) (StepOk.plain (g := (fun v _ => v = .string (((nm ++ ⟨#[40]⟩) ++ ⟨JJ.toArray⟩) ++ ⟨#[41]⟩))) rfl rfl rfl (fun a w hs hR hr pre => ?_)) ?_
        · have e34 : a.eval (.tmp 34) = .string ((nm ++ ⟨#[40]⟩) ++ ⟨JJ.toArray⟩) := pre 5 (by decide)
          exact wp_pure (run_cat rfl e34 rfl (by have := HSn.out; have := HJl.out; have h1 : ByteArray.size ⟨#[40]⟩ = 1 := rfl; have h3 : ByteArray.size ⟨#[41]⟩ = 1 := rfl; have h2 := size_list JJ; rw [ByteArray.size_append, ByteArray.size_append]; omega)) rfl
        refine Each.cons rfl (Keeps.const _) (StepOk.plain (g := (fun v _ => v = .string (((nm ++ ⟨#[40]⟩) ++ ⟨JJ.toArray⟩) ++ ⟨#[41]⟩))) rfl rfl rfl (fun a w hs hR hr pre => ?_)) ?_
        · have e35 : a.eval (.tmp 35) = .string (((nm ++ ⟨#[40]⟩) ++ ⟨JJ.toArray⟩) ++ ⟨#[41]⟩) := pre 6 (by decide)
          exact wp_pure (run_assign rfl) e35
        exact Each.nil
      · intro v w1 hB hG
        have e7 : v 7 = .string (((nm ++ ⟨#[40]⟩) ++ ⟨JJ.toArray⟩) ++ ⟨#[41]⟩) := hG 7 (by decide)
        clear hG
        simp only [List.take_succ_cons, List.take_zero, puts, Act.put, List.setIfInBounds_toArray, List.set_cons_zero, List.set_cons_succ, Nat.reduceAdd, e7]
        have HB9 := Lib.hid (bt HW.out (bt (Below.drew (Below.refl _ _)) hB))
        clear hB
        refine wpAny_done (by kernel_rfl) ?_ _
        go_wp2_with fail
        go_ret
        exact ⟨_, rfl, HFin.out, HB9.out⟩
end Go.Proofs.YtmjckdgomlppeaaGreatDoor
end
section
namespace Go.Proofs.YtmjckdgomlppeaaGreatDoor
open Go.RowKit Go.Shelf

/-- New blocks behind the heap, and nothing else. -/
def Gr (w w' : World) : Prop := Below w.heap.size w w' ∧ w'.drawn = w.drawn
theorem Gr.refl (w : World) : Gr w w := ⟨Below.refl _ _, rfl⟩
theorem Gr.alloc (w : World) (o : Obj) : Gr w (w.alloc o) := ⟨ba w o, rfl⟩
theorem Gr.trans {a b c : World} (h : Gr a b) (k : Gr b c) : Gr a c := ⟨bt h.1 k.1, k.2.trans h.2⟩
theorem Gr.grow {w w' : World} (h : Gr w w') : ∃ os, w' = Sort.grow w os := by
  refine ⟨w'.heap.extract w.heap.size w'.heap.size, ?_⟩
  have hh : w'.heap = w.heap ++ w'.heap.extract w.heap.size w'.heap.size := by
    apply Array.ext_getElem?
    intro k
    rcases Nat.lt_or_ge k w.heap.size with hk | hk
    · rw [h.1.block k hk, Array.getElem?_append_left hk]
    · rw [Array.getElem?_append_right hk, Array.getElem?_extract]
      split
      · congr 1; omega
      · rw [Array.getElem?_eq_none (by omega)]
  obtain ⟨heap, tape, drawn, os, output⟩ := w
  obtain ⟨heap', tape', drawn', os', output'⟩ := w'
  obtain ⟨⟨h1, h2, h3, _, _⟩, h4⟩ := h
  simp only at h1 h2 h3 h4 hh
  subst h1 h2 h3 h4
  unfold Sort.grow
  simp only
  rw [← hh]

set_option maxHeartbeats 400000 in
theorem compare_g (k n : Int) (s : ByteArray) (k' n' : Int) (s' : ByteArray) (w : World) :
    Calls Tryz.prog 118 #[VV k n s, VV k' n' s'] w fun e w' => e = .returned (.int .i64 (cmpV k n s k' n' s')) ∧ Gr w w' := by
  have hB : ∀ o1 o2, Gr w ((w.alloc o1).alloc o2) := fun o1 o2 => (Gr.alloc _ _).trans (Gr.alloc _ _)
  by_cases hk : k = k'
  · subst hk
    by_cases hn : n = n'
    · subst hn
      go_enter Tryz.func118, Tryz.ntmps118
      go_wp2_with (go_at_call 131; refine (cmpStr_any _ _ _).mono ?_; rintro e w' ⟨rfl, rfl⟩)
      go_ret
      exact ⟨ret_int (by simp [cmpV]), hB _ _⟩
    · have hn' : (n != n') = true := by simpa using hn
      go_enter Tryz.func118, Tryz.ntmps118
      go_wp2_with (go_at_call 130; refine (cmpInt_any _ _ _).mono ?_; rintro e w' ⟨rfl, rfl⟩)
      go_ret
      exact ⟨ret_int (by simp [cmpV, hn]), hB _ _⟩
  · have hk' : (k != k') = true := by simpa using hk
    go_enter Tryz.func118, Tryz.ntmps118
    go_wp2_with (go_at_call 130; refine (cmpInt_any _ _ _).mono ?_; rintro e w' ⟨rfl, rfl⟩)
    go_ret
    exact ⟨ret_int (by simp [cmpV, hk]), hB _ _⟩

theorem compareA_g (a b : Va) (w : World) :
    Calls Tryz.prog 118 #[VV a.k a.n a.s, VV b.k b.n b.s] w fun e w' => e = .returned (.int .i64 (cmpA a b)) ∧ Gr w w' := compare_g _ _ _ _ _ _ _

set_option maxHeartbeats 1000000 in
theorem compareFunc_g (A A' : Option Addr) (c c' : Nat) (r r' : List Va) (w : World) (h : RowAt w A r) (h' : RowAt w A' r') (hl : r.length ≤ 9223372036854775807) (_hl' : r'.length ≤ 9223372036854775807) :
    Calls Tryz.prog 117 #[.slice A r.length c, .slice A' r'.length c', .func (.func 118) #[] #[]] w fun e w' => e = .returned (.int .i64 (cmpR r r')) ∧ Gr w w' := by
  have eg := enters_of Tryz.func118 (by kernel_rfl) rfl
  unfold Enters at eg
  go_enter Tryz.func117, Tryz.ntmps117
  go_wp2_with fail
  go_loopw [13] (fun i wr => ∃ j : Nat, j ≤ r.length ∧ j ≤ r'.length ∧ i = .int .i64 j ∧ Gr w wr ∧ Hid (cmpR r r' = cmpR (r.drop j) (r'.drop j))) (fun i _ => r.length - (intOf i).toNat)
  case atStart => exact ⟨0, Nat.zero_le _, Nat.zero_le _, rfl, Gr.refl _, Lib.hid (by simp)⟩
  case round =>
    obtain ⟨j, hj, hj', rfl, hG, HC⟩ := hrel
    have hB := hG.1
    have hr := h.kept hB
    have hr' := h'.kept hB
    have HR := Lib.hid h
    have HR' := Lib.hid h'
    clear h h'
    by_cases hlt : j < r.length
    · obtain ⟨b, off, rfl, hb, c0, c1, c2⟩ := hr.at hlt
      clear hr
      by_cases hlt' : j < r'.length
      · obtain ⟨b', off', rfl, hb', d0, d1, d2⟩ := hr'.at hlt'
        clear hr'
        have HS := Lib.hid (cmpR_step r r' j hlt hlt')
        generalize r[j] = v at c0 c1 c2 HS
        generalize r'[j] = v' at d0 d1 d2 HS
        by_cases hz : cmpA v v' = 0
        · have hz' : (cmpA v v' != 0) = false := by simpa using hz
          have HE := Lib.hid (show cmpR r r' = cmpR (r.drop (j + 1)) (r'.drop (j + 1)) by rw [HC.out, HS.out, if_pos hz])
          clear hz
          go_wp2_with fail
          refine (compareA_g v v' _).mono ?_
          rintro e w1 ⟨rfl, hb1⟩
          have hB1 := hG.trans (((Gr.alloc _ _).trans (Gr.alloc _ _)).trans hb1)
          clear hb1
          go_wp2_with fail
          go_roundw
          case rel => exact ⟨j + 1, by omega, by omega, by go_num, hB1, HE⟩
          case measure => simp [intOf]; omega
        · have hz' : (cmpA v v' != 0) = true := by simpa using hz
          have HE := Lib.hid (show cmpR r r' = cmpA v v' by rw [HC.out, HS.out, if_neg hz])
          clear hz
          go_wp2_with fail
          refine (compareA_g v v' _).mono ?_
          rintro e w1 ⟨rfl, hb1⟩
          have hB1 := hG.trans (((Gr.alloc _ _).trans (Gr.alloc _ _)).trans hb1)
          clear hb1
          go_wp2_with fail
          go_ret
          exact ⟨ret_int HE.out.symm, hB1⟩
      · have HE := Lib.hid (show cmpR r r' = 1 by rw [HC.out]; exact cmpR_short r r' j hlt (by omega))
        go_wp2_with fail
        go_ret
        exact ⟨ret_int HE.out.symm, hG.trans (Gr.alloc _ _)⟩
    · by_cases hlt' : j < r'.length
      · have HE := Lib.hid (show cmpR r r' = -1 by rw [HC.out]; exact cmpR_long r r' j (by omega) hlt')
        go_wp2_with fail
        go_ret
        exact ⟨ret_int HE.out.symm, hG⟩
      · have HE := Lib.hid (show cmpR r r' = 0 by rw [HC.out]; exact cmpR_both r r' j (by omega) (by omega))
        go_wp2_with fail
        go_ret
        exact ⟨ret_int HE.out.symm, hG⟩

set_option maxHeartbeats 400000 in
theorem rowCompare_g (A A' : Option Addr) (c c' : Nat) (r r' : List Va) (w : World) (h : RowAt w A r) (h' : RowAt w A' r') (hl : r.length ≤ 9223372036854775807) (hl' : r'.length ≤ 9223372036854775807) :
    Calls Tryz.prog 109 #[.slice A r.length c, .slice A' r'.length c'] w fun e w' => e = .returned (.int .i64 (cmpR r r')) ∧ Gr w w' := by
  go_enter Tryz.func109, Tryz.ntmps109
  go_wp2_with fail
  refine (compareFunc_g A A' c c' r r' _ h h' hl hl').mono ?_
  rintro e w1 ⟨rfl, hb1⟩
  go_wp2_with fail
  go_ret
  exact ⟨rfl, hb1⟩

end Go.Proofs.YtmjckdgomlppeaaGreatDoor
end
section
namespace Go.Proofs.YtmjckdgomlppeaaGreatDoor
open Go.RowKit

theorem cmpA_trans {a b c : Va} (h1 : cmpA a b ≤ 0) (h2 : cmpA b c ≤ 0) : cmpA a c ≤ 0 ∧ (cmpA a b = 0 ∧ cmpA b c = 0 ∨ cmpA a c < 0) := cmpV_trans _ _ _ _ _ _ _ _ _ h1 h2
theorem cmpA_eq {a b : Va} (h : cmpA a b = 0) : a = b := by
  obtain ⟨k, n, s⟩ := a
  obtain ⟨k', n', s'⟩ := b
  obtain ⟨rfl, rfl, hs⟩ := (cmpV_eq _ _ _ _ _ _).1 h
  have := (cmpS_zero s s').1 hs
  rw [ByteArray.toList_eq, ByteArray.toList_eq] at this
  have e : s = s' := ByteArray.ext (Array.toList_inj.1 this)
  rw [e]
theorem cmpA_self (a : Va) : cmpA a a = 0 := by have := cmpA_anti a a; omega
theorem cmpR_eq : ∀ {r r' : List Va}, cmpR r r' = 0 → r = r'
  | [], [], _ => rfl
  | [], _ :: _, h => by simp [cmpR] at h
  | _ :: _, [], h => by simp [cmpR] at h
  | a :: r, b :: r', h => by
    rw [cmpR] at h
    split at h
    · rename_i h0; rw [cmpA_eq h0, cmpR_eq h]
    · rename_i h0; exact absurd h h0
theorem cmpR_self (r : List Va) : cmpR r r = 0 := by have := cmpR_anti r r; omega
theorem cmpR_trans : ∀ {r r' r'' : List Va}, cmpR r r' ≤ 0 → cmpR r' r'' ≤ 0 → cmpR r r'' ≤ 0
  | [], _, [], _, _ => by simp [cmpR]
  | [], _, _ :: _, _, _ => by simp [cmpR]
  | _ :: _, [], _, h, _ => by simp [cmpR] at h
  | _ :: _, _ :: _, [], _, h => by simp [cmpR] at h
  | a :: r, b :: r', c :: r'', h1, h2 => by
    rw [cmpR] at h1 h2 ⊢
    by_cases e1 : cmpA a b = 0
    · obtain rfl := cmpA_eq e1
      rw [if_pos e1] at h1
      by_cases e2 : cmpA a c = 0
      · rw [if_pos e2] at h2 ⊢
        exact cmpR_trans h1 h2
      · rw [if_neg e2] at h2 ⊢
        exact h2
    · rw [if_neg e1] at h1
      by_cases e2 : cmpA b c = 0
      · obtain rfl := cmpA_eq e2
        rw [if_neg e1]; exact h1
      · rw [if_neg e2] at h2
        have := cmpA_trans h1 h2
        have h3 : cmpA a c < 0 := by omega
        rw [if_neg (by omega)]; omega

end Go.Proofs.YtmjckdgomlppeaaGreatDoor
end
section
namespace Go.Proofs.YtmjckdgomlppeaaGreatDoor
open Go.RowKit Go.Shelf Go.Sort

/-- The rows by their places, and how they stand. -/
def encL (vs : List Value) (i : Nat) : Value := vs.getD i (.slice none 0 0)
def cfL (rs : List (List Va)) (i j : Nat) : Int := cmpR (rs.getD i []) (rs.getD j [])
theorem swoL (rs : List (List Va)) : SWO (ltOf (cfL rs)) where
  irrefl x := by simp [ltOf, cfL, cmpR_self]
  trans x y z h1 h2 := by
    have h1 : cmpR (rs.getD x []) (rs.getD y []) < 0 := of_decide_eq_true h1
    have h2 : cmpR (rs.getD y []) (rs.getD z []) < 0 := of_decide_eq_true h2
    refine decide_eq_true ?_
    show cmpR (rs.getD x []) (rs.getD z []) < 0
    have h3 := cmpR_trans (Int.le_of_lt h1) (Int.le_of_lt h2)
    rcases Int.lt_or_eq_of_le h3 with h | h
    · exact h
    · have e := cmpR_eq h
      rw [← e] at h2
      have := cmpR_anti (rs.getD x []) (rs.getD y [])
      omega
  ntrans x y z h1 h2 := by
    have h1 : ¬ cmpR (rs.getD x []) (rs.getD y []) < 0 := of_decide_eq_false h1
    have h2 : ¬ cmpR (rs.getD y []) (rs.getD z []) < 0 := of_decide_eq_false h2
    refine decide_eq_false ?_
    show ¬ cmpR (rs.getD x []) (rs.getD z []) < 0
    have a1 := cmpR_anti (rs.getD x []) (rs.getD y [])
    have a2 := cmpR_anti (rs.getD y []) (rs.getD z [])
    have a3 := cmpR_anti (rs.getD x []) (rs.getD z [])
    have := @cmpR_trans (rs.getD z []) (rs.getD y []) (rs.getD x []) (by omega) (by omega)
    omega

/-- Rows that lie in blocks behind g. -/
def RowFrom (w : World) (g : Nat) (A : Option Addr) (r : List Va) : Prop :=
  r = [] ∨ ∃ b off : Nat, A = some ⟨b, off, none⟩ ∧ g < b ∧ b < w.heap.size ∧ ∀ (i : Nat) (v : Va), r[i]? = some v →
    w.cell? ⟨b, off + i * 3, none⟩ = some (.int .i64 v.k) ∧ w.cell? ⟨b, off + i * 3 + 1, none⟩ = some (.int .i64 v.n) ∧ w.cell? ⟨b, off + i * 3 + 2, none⟩ = some (.string v.s)
theorem RowFrom.row {w : World} {g : Nat} {A : Option Addr} {r : List Va} (h : RowFrom w g A r) : RowAt w A r := by
  rcases h with h | ⟨b, off, hA, _, hlt, hc⟩
  · exact .inl h
  · exact .inr ⟨b, off, hA, hlt, hc⟩
/-- All cells but block g's stand. -/
def Others (g : Nat) (w w' : World) : Prop := w.heap.size ≤ w'.heap.size ∧ ∀ k, k < w.heap.size → k ≠ g → w'.heap[k]? = w.heap[k]?
theorem Others.cell {g : Nat} {w w' : World} (h : Others g w w') {p : Addr} (hp : p.block < w.heap.size) (hg : p.block ≠ g) : w'.cell? p = w.cell? p := World.cell?_of_block (h.2 _ hp hg)
theorem RowFrom.others {w w' : World} {g : Nat} {A : Option Addr} {r : List Va} (h : RowFrom w g A r) (ho : Others g w w') : RowFrom w' g A r := by
  rcases h with h | ⟨b, off, hA, hg, hlt, hc⟩
  · exact .inl h
  · have key : ∀ o, w'.cell? ⟨b, o, none⟩ = w.cell? ⟨b, o, none⟩ := fun o => ho.cell hlt (by simp; omega)
    refine .inr ⟨b, off, hA, hg, Nat.lt_of_lt_of_le hlt ho.1, fun i v hv => ?_⟩
    rw [key, key, key]
    exact hc i v hv
theorem Others.trans {g : Nat} {a b c : World} (h : Others g a b) (k : Others g b c) : Others g a c :=
  ⟨Nat.le_trans h.1 k.1, fun i hi hne => (k.2 i (Nat.lt_of_lt_of_le hi h.1) hne).trans (h.2 i hi hne)⟩
theorem others_below {g : Nat} {w w' : World} (h : Below w.heap.size w w') : Others g w w' := ⟨h.size, fun k hk _ => h.block k hk⟩
theorem others_set {g o : Nat} (w : World) (v : Value) : Others g w (w.setCell ⟨g, o, none⟩ v) := by
  refine ⟨by simp [World.setCell], fun k _ hne => ?_⟩
  simp [World.setCell, Array.getElem?_modify, Ne.symm hne]
theorem others_sort {α : Type} [Inhabited α] (enc : α → Value) (w : World) (g off m : Nat) (d : Array α) (os : Array Obj) : Others g w (sortWorld enc w g off m d os) := by
  refine ⟨?_, fun k hk hne => ?_⟩
  · unfold sortWorld; simp [grow, putRow, mapBlock]
  · unfold sortWorld
    simp only [grow, putRow, mapBlock]
    rw [Array.getElem?_append_left (by simpa using hk), Array.getElem?_modify, if_neg (Ne.symm hne)]
    rfl
theorem below_sort {α : Type} [Inhabited α] (enc : α → Value) {w w1 : World} (g off m : Nat) (d : Array α) (os : Array Obj) (h : Below w.heap.size w w1) (hg : w.heap.size ≤ g) : Below w.heap.size w (sortWorld enc w1 g off m d os) := by
  have ho := others_sort enc w1 g off m d os
  exact ⟨h.os, h.tape, h.output, Nat.le_trans h.size ho.1, fun k hk => (ho.2 k (Nat.lt_of_lt_of_le hk h.size) (by omega)).trans (h.block k hk)⟩

/-- The values of a list of rows. -/
def Vals (w : World) (g : Nat) (vs : List Value) (rs : List (List Va)) : Prop :=
  vs.length = rs.length ∧ ∀ (i : Nat) (r : List Va), rs[i]? = some r → ∃ A c, vs[i]? = some (.slice A r.length c) ∧ RowFrom w g A r ∧ (A = none → c = 0)
theorem Vals.others {w w' : World} {g : Nat} {vs : List Value} {rs : List (List Va)} (h : Vals w g vs rs) (ho : Others g w w') : Vals w' g vs rs :=
  ⟨h.1, fun i r hr => by obtain ⟨A, c, hv, hf, hA⟩ := h.2 i r hr; exact ⟨A, c, hv, hf.others ho, hA⟩⟩
theorem Vals.enc {w : World} {g : Nat} {vs : List Value} {rs : List (List Va)} (h : Vals w g vs rs) (i : Nat) : ∃ A c, encL vs i = .slice A (rs.getD i []).length c ∧ RowFrom w g A (rs.getD i []) ∧ (A = none → c = 0) := by
  rcases Nat.lt_or_ge i rs.length with hi | hi
  · obtain ⟨A, c, hv, hf, hA⟩ := h.2 i rs[i] (List.getElem?_eq_getElem hi)
    refine ⟨A, c, ?_, ?_, hA⟩
    · simp [encL, List.getD, hv, List.getElem?_eq_getElem hi]
    · simpa [List.getD, List.getElem?_eq_getElem hi] using hf
  · refine ⟨none, 0, ?_, .inl ?_, fun _ => rfl⟩
    · simp [encL, List.getD, List.getElem?_eq_none hi, List.getElem?_eq_none (h.1 ▸ hi)]
    · simp [List.getD, List.getElem?_eq_none hi]
theorem encL_one {w : World} {g : Nat} {vs : List Value} {rs : List (List Va)} (h : Vals w g vs rs) : OneCell (encL vs) := fun i => by
  obtain ⟨A, c, hv, _, _⟩ := h.enc i
  rw [hv]; rfl

/-- What row.Compare asks of a sort. -/
theorem cmpLays (vs : List Value) (rs : List (List Va)) (g : Nat) (w : World) (h : Vals w g vs rs) (hl : ∀ r ∈ rs, r.length ≤ 65536) :
    CmpLays1 Tryz.prog 109 #[] (encL vs) (cfL rs) g 0 vs.length w := by
  intro m os dk hs x y
  have hl' : ∀ i, (rs.getD i []).length ≤ 9223372036854775807 := fun i => by
    rcases Nat.lt_or_ge i rs.length with hi | hi
    · have := hl rs[i] (List.getElem_mem hi)
      simp [List.getD, List.getElem?_eq_getElem hi]; omega
    · simp [List.getD, List.getElem?_eq_none hi]
  have hO := others_sort (encL vs) w g 0 m dk os
  obtain ⟨A, c, e1, f1, _⟩ := h.enc x
  obtain ⟨A', c', e2, f2, _⟩ := h.enc y
  rw [e1, e2]
  refine (rowCompare_g A A' c c' (rs.getD x []) (rs.getD y []) _ (f1.others hO).row (f2.others hO).row (hl' x) (hl' y)).mono ?_
  rintro e w' ⟨rfl, hg⟩
  obtain ⟨os', hos⟩ := hg.grow
  exact ⟨rfl, 0, os', hos⟩

end Go.Proofs.YtmjckdgomlppeaaGreatDoor
end
