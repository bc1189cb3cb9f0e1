/-
  A region that draws its order, walked by what each operation leaves: no order is told apart. Of each operation is shown, once, what it leaves where those hold that it waits for.
  Single operations, whatever else the slots hold: for regions walked by what each operation leaves.
Contracts of truthOf, decides, at.
-/
import Derived.Test.YtpokpiphnggfpaaGreatDoorZ8
import Derived.Orders
import Derived.Deep.RegionHeld3
import Derived.Conc.Own4
import Derived.Tactics2
import Derived.Laws.Tables
import Derived.Deep.MidRow
section
namespace Go.Proofs.YtpokpiphnggfpaaGreatDoor
section

def slotAt (ds : List (Option Tmp)) (a : Act) (k : Nat) : Value := match (ds[k]?).getD none with | some t => a.tmps.getD t undef | none => undef
def puts : List (Option Tmp) → (Nat → Value) → Nat → Act → Act
  | [], _, _, a => a
  | d :: r, v, i, a => puts r v (i + 1) (a.put d (v i))
theorem put_size (a : Act) (d : Option Tmp) (v : Value) : (a.put d v).tmps.size = a.tmps.size := by cases d <;> simp [Act.put]
theorem put_defers (a : Act) (d : Option Tmp) (v : Value) : (a.put d v).defers = a.defers := by cases d <;> rfl
theorem put_get (a : Act) (d : Option Tmp) (v : Value) (t : Nat) (h : d ≠ some t) : (a.put d v).tmps.getD t undef = a.tmps.getD t undef := by
  cases d with
  | none => rfl
  | some u =>
    have hu : u ≠ t := fun e => h (by rw [e])
    simp [Act.put, Array.getD_eq_getD_getElem?, hu]
theorem put_at (a : Act) (v : Value) (t : Nat) (h : t < a.tmps.size) : (a.put (some t) v).tmps.getD t undef = v := by
  simp [Act.put, Array.getD_eq_getD_getElem?, h]
theorem puts_size : ∀ (ds : List (Option Tmp)) (v : Nat → Value) (i : Nat) (a : Act), (puts ds v i a).tmps.size = a.tmps.size
  | [], _, _, _ => rfl
  | d :: r, v, i, a => by rw [puts, puts_size r, put_size]
theorem puts_defers : ∀ (ds : List (Option Tmp)) (v : Nat → Value) (i : Nat) (a : Act), (puts ds v i a).defers = a.defers
  | [], _, _, _ => rfl
  | d :: r, v, i, a => by rw [puts, puts_defers r, put_defers]
theorem puts_other : ∀ (ds : List (Option Tmp)) (v : Nat → Value) (i : Nat) (a : Act) (t : Nat), (∀ d ∈ ds, d ≠ some t) → (puts ds v i a).tmps.getD t undef = a.tmps.getD t undef
  | [], _, _, _, _, _ => rfl
  | d :: r, v, i, a, t, h => by rw [puts, puts_other r _ _ _ _ (fun x hx => h x (List.mem_cons_of_mem _ hx)), put_get _ _ _ _ (h d (List.mem_cons_self ..))]
/-- The slots are apart, and there. -/
def apartB : List (Option Tmp) → Nat → Bool
  | [], _ => true
  | none :: r, n => apartB r n
  | some t :: r, n => decide (t < n) && r.all (fun d => d != some t) && apartB r n
theorem puts_at : ∀ (ds : List (Option Tmp)) (v : Nat → Value) (i : Nat) (a : Act) (k t : Nat), apartB ds a.tmps.size = true → ds[k]? = some (some t) → (puts ds v i a).tmps.getD t undef = v (i + k)
  | [], _, _, _, k, t, _, hk => by simp at hk
  | d :: r, v, i, a, 0, t, hap, hk => by
    simp only [List.getElem?_cons_zero, Option.some.injEq] at hk
    subst hk
    simp only [apartB, Bool.and_eq_true, decide_eq_true_eq, List.all_eq_true] at hap
    rw [puts, puts_other r _ _ _ _ (fun x hx => by simpa using hap.1.2 x hx), put_at _ _ _ hap.1.1, Nat.add_zero]
  | d :: r, v, i, a, k + 1, t, hap, hk => by
    have hap' : apartB r (a.put d (v i)).tmps.size = true := by
      rw [put_size]
      cases d with
      | none => simpa [apartB] using hap
      | some u => simp only [apartB, Bool.and_eq_true] at hap; exact hap.2
    rw [puts, puts_at r v (i + 1) _ k t hap' (by simpa using hk)]
    congr 1; omega
theorem apart_ne : ∀ (ds : List (Option Tmp)) (n i j t : Nat), apartB ds n = true → ds[i]? = some (some t) → ds[j]? = some (some t) → i = j
  | [], _, i, j, t, _, hi, _ => by simp at hi
  | d :: r, n, 0, 0, t, _, _, _ => rfl
  | d :: r, n, i + 1, j + 1, t, h, hi, hj => by
    have h' : apartB r n = true := by
      cases d with
      | none => simpa [apartB] using h
      | some u => simp only [apartB, Bool.and_eq_true] at h; exact h.2
    rw [apart_ne r n i j t h' (by simpa using hi) (by simpa using hj)]
  | d :: r, n, 0, j + 1, t, h, hi, hj => by
    simp only [List.getElem?_cons_zero, Option.some.injEq] at hi
    subst hi
    simp only [apartB, Bool.and_eq_true, List.all_eq_true] at h
    have := h.1.2 (some t) (List.mem_of_getElem? (by simpa using hj))
    simp at this
  | d :: r, n, i + 1, 0, t, h, hi, hj => by
    simp only [List.getElem?_cons_zero, Option.some.injEq] at hj
    subst hj
    simp only [apartB, Bool.and_eq_true, List.all_eq_true] at h
    have := h.1.2 (some t) (List.mem_of_getElem? (by simpa using hi))
    simp at this
theorem apart_lt : ∀ (ds : List (Option Tmp)) (n k t : Nat), apartB ds n = true → ds[k]? = some (some t) → t < n
  | [], _, k, t, _, hk => by simp at hk
  | d :: r, n, 0, t, h, hk => by
    simp only [List.getElem?_cons_zero, Option.some.injEq] at hk
    subst hk
    simp only [apartB, Bool.and_eq_true, decide_eq_true_eq] at h
    exact h.1.1
  | d :: r, n, k + 1, t, h, hk => by
    have h' : apartB r n = true := by
      cases d with
      | none => simpa [apartB] using h
      | some u => simp only [apartB, Bool.and_eq_true] at h; exact h.2
    exact apart_lt r n k t h' (by simpa using hk)
/-- What each operation waits for. -/
def afterL (ops : List Oper) : List (List Nat) := ops.map fun o => (o.after.toList.filter (Region.binds .any)).map (·.on)
/-- need: what has come up, whenever an operation has; closed under waiting. Each waits for earlier ones alone. -/
def needB (afs need : List (List Nat)) : Bool :=
  (List.range afs.length).all fun i => (afs.getD i []).all (fun j => decide (j < i)) && (need.getD i []).all (fun j => (afs.getD i []).contains j || (afs.getD i []).any (fun m => (need.getD m []).contains j))
/-- The tail waits for all ahead of it. -/
def tailB (afs need : List (List Nat)) (n : Nat) : Bool := (List.range afs.length).all fun i => decide (i < n) || (List.range n).all (fun k => (afs.getD i []).contains k || (need.getD i []).contains k)

variable {P : Program} {ops : List Oper}
structure Inv (n : Nat) (ds : List (Option Tmp)) (need : List (List Nat)) (a0 : Act) (w0 : World) (R : World → World → Prop) (Gs : List (Value → World → Prop)) (listed : Array Bool) (a : Act) (w : World) : Prop where
  defers : a.defers = a0.defers
  size : a.tmps.size = a0.tmps.size
  lsize : listed.size = ds.length
  out : ∀ k, n ≤ k → listed.getD k false = false
  grow : R w0 w
  rest : ∀ t, (∀ k, k < n → listed.getD k false = true → ds[k]? ≠ some (some t)) → a.tmps.getD t undef = a0.tmps.getD t undef
  facts : ∀ k, k < n → listed.getD k false = true → (Gs.getD k (fun _ _ => True)) (slotAt ds a k) w
  clos : ∀ k, k < n → listed.getD k false = true → ∀ j ∈ need.getD k [], j < n ∧ listed.getD j false = true
/-- What is to be shown of one operation. -/
def StepOk (P : Program) (ops : List Oper) (ds : List (Option Tmp)) (need : List (List Nat)) (a0 : Act) (w0 : World) (R : World → World → Prop) (Gs : List (Value → World → Prop)) (Q : Exit → Act → World → Prop) (i : Nat) (o : Oper) : Prop :=
  ∀ a w, a.tmps.size = a0.tmps.size → R w0 w → (∀ t, (∀ d ∈ ds, d ≠ some t) → a.tmps.getD t undef = a0.tmps.getD t undef) → (∀ j ∈ need.getD i [], (Gs.getD j (fun _ _ => True)) (slotAt ds a j) w) →
    (Region.wanted o (yielded ops.toArray a.tmps) = true ∧ o.wp P a w (fun a' w' => ∃ v, a' = a.put o.dst v ∧ R w w' ∧ (Gs.getD i (fun _ _ => True)) (if o.dst.isSome then v else undef) w') Q) ∨
    (Region.wanted o (yielded ops.toArray a.tmps) = false ∧ (Gs.getD i (fun _ _ => True)) undef w)
/-- What holds goes on to hold. -/
def Keeps (R : World → World → Prop) (g : Value → World → Prop) : Prop := ∀ v w w', R w w' → g v w → g v w'
def Each (P : Program) (ops : List Oper) (ds : List (Option Tmp)) (need : List (List Nat)) (a0 : Act) (w0 : World) (R : World → World → Prop) (Gs : List (Value → World → Prop)) (Q : Exit → Act → World → Prop) (n i : Nat) : Prop :=
  ∀ k, i ≤ k → k < n → Keeps R (Gs.getD k (fun _ _ => True)) ∧ ∀ o, ops[k]? = some o → StepOk P ops ds need a0 w0 R Gs Q k o
theorem Each.nil {ds need a0 w0 R Gs Q n} : Each P ops ds need a0 w0 R Gs Q n n := fun k h1 h2 => by omega
theorem Each.cons {ds need a0 w0 R Gs Q n} {i : Nat} {o : Oper} (ho : ops[i]? = some o) (hk : Keeps R (Gs.getD i (fun _ _ => True))) (hs : StepOk P ops ds need a0 w0 R Gs Q i o) (hr : Each P ops ds need a0 w0 R Gs Q n (i + 1)) : Each P ops ds need a0 w0 R Gs Q n i := by
  intro k h1 h2
  rcases Nat.lt_or_eq_of_le h1 with h | rfl
  · exact hr k h h2
  · refine ⟨hk, fun o' ho' => ?_⟩
    rw [ho] at ho'
    cases ho'
    exact hs
def cntT (l : Array Bool) (n : Nat) : Nat := (List.range n).countP (fun k => l.getD k false)
theorem cntT_set (l : Array Bool) (i : Nat) (hi : i < l.size) (hf : l.getD i false = false) : ∀ n, cntT (l.setIfInBounds i true) n = cntT l n + (if i < n then 1 else 0)
  | 0 => by simp [cntT]
  | n + 1 => by
    have ih := cntT_set l i hi hf n
    unfold cntT at ih ⊢
    rw [List.range_succ, List.countP_append, List.countP_append, ih]
    by_cases h : n = i
    · subst h
      have e1 : (l.setIfInBounds n true).getD n false = true := by simp [Array.getD_eq_getD_getElem?, hi]
      simp only [List.countP_cons, List.countP_nil, e1, hf]
      simp
    · have e1 : (l.setIfInBounds i true).getD n false = l.getD n false := by simp [Array.getD_eq_getD_getElem?, Ne.symm h]
      simp only [List.countP_cons, List.countP_nil, e1]
      by_cases h2 : i < n
      · rw [if_pos h2, if_pos (show i < n + 1 by omega)]; split <;> omega
      · rw [if_neg h2, if_neg (show ¬ i < n + 1 by omega)]; split <;> omega
theorem cntT_all {l : Array Bool} {n : Nat} (h : cntT l n = n) : ∀ k, k < n → l.getD k false = true := by
  unfold cntT at h
  have h2 : (List.range n).countP (fun k => l.getD k false) = (List.range n).length := by rw [h, List.length_range]
  intro k hk
  exact List.countP_eq_length.1 h2 k (List.mem_range.2 hk)
theorem cntT_le (l : Array Bool) (n : Nat) : cntT l n ≤ n := by
  unfold cntT
  exact Nat.le_trans List.countP_le_length (by simp)
theorem getD_set_ne (l : Array Bool) {i k : Nat} (h : k ≠ i) : (l.setIfInBounds i true).getD k false = l.getD k false := by simp [Array.getD_eq_getD_getElem?, Ne.symm h]
theorem getD_set_eq (l : Array Bool) {i : Nat} (h : i < l.size) : (l.setIfInBounds i true).getD i false = true := by simp [Array.getD_eq_getD_getElem?, h]
def tailL (n m : Nat) : Array Bool := (List.replicate n true ++ List.replicate (m - n) false).toArray
theorem act_ext {a b : Act} (h1 : a.tmps = b.tmps) (h2 : a.defers = b.defers) : a = b := by cases a; cases b; simp_all
theorem ready_mem {listed : Array Bool} {i : Nat} : i ∈ Region.ready .any ops.toArray listed ↔ i < ops.length ∧ listed.getD i true = false ∧ ∀ j ∈ (afterL ops).getD i [], listed.getD j false = true := by
  simp only [Region.ready, List.mem_filter, List.mem_range, List.size_toArray]
  refine and_congr_right fun hi => ?_
  have ho : ops[i]? = some ops[i] := List.getElem?_eq_getElem hi
  have ha : (afterL ops).getD i [] = (ops[i].after.toList.filter (Region.binds .any)).map (·.on) := by
    simp [afterL, List.getD_eq_getElem?_getD, List.getElem?_map, ho]
  rw [ha]
  simp only [List.getElem?_toArray, ho, Option.map_some, Option.getD_some, Bool.and_eq_true, Bool.not_eq_true', List.mem_map, List.mem_filter, ← Array.all_toList, List.all_eq_true, Bool.or_eq_true]
  refine and_congr_right fun _ => ⟨?_, ?_⟩
  · rintro h j ⟨e, ⟨he, hb⟩, rfl⟩
    rcases h e he with h | h
    · rw [h] at hb; cases hb
    · exact h
  · intro h e he
    cases hb : Region.binds .any e with
    | false => exact .inl rfl
    | true => exact .inr (h e.on ⟨e, ⟨he, hb⟩, rfl⟩)
theorem inv_end {n : Nat} {ds need a0 w0 R Gs} {listed : Array Bool} {a : Act} {w : World} (hap : apartB (ds.take n) a0.tmps.size = true) (hn : n ≤ ds.length) (h : Inv n ds need a0 w0 R Gs listed a w) (hall : ∀ k, k < n → listed.getD k false = true) :
    listed = tailL n ds.length ∧ ∃ v : Nat → Value, a = puts (ds.take n) v 0 a0 ∧ ∀ k, k < n → (Gs.getD k (fun _ _ => True)) (match (ds[k]?).getD none with | some _ => v k | none => undef) w := by
  refine ⟨?_, (fun k : Nat => slotAt ds a k), ?_, fun k hk => ?_⟩
  · refine Array.ext (by rw [h.lsize]; simp [tailL]; omega) fun i h1 h2 => ?_
    have e1 : listed[i] = listed.getD i false := by simp [Array.getD_eq_getD_getElem?, h1]
    rw [e1]
    by_cases hi : i < n
    · rw [hall i hi]; simp [tailL, hi]
    · rw [h.out i (by omega)]; simp [tailL, List.getElem_append, hi]
  · refine act_ext ?_ (by rw [puts_defers]; exact h.defers)
    have hsz : a.tmps.size = (puts (ds.take n) (fun k => slotAt ds a k) 0 a0).tmps.size := by rw [puts_size]; exact h.size
    refine Array.ext hsz fun t h1 h2 => ?_
    have e1 : a.tmps[t] = a.tmps.getD t undef := by simp [Array.getD_eq_getD_getElem?, h1]
    have e2 : (puts (ds.take n) (fun k => slotAt ds a k) 0 a0).tmps[t] = (puts (ds.take n) (fun k => slotAt ds a k) 0 a0).tmps.getD t undef := by simp [Array.getD_eq_getD_getElem?, h2]
    rw [e1, e2]
    by_cases hd : ∃ k : Nat, (ds.take n)[k]? = some (some t)
    · obtain ⟨k, hk⟩ := hd
      rw [puts_at _ _ _ _ k t hap hk, Nat.zero_add]
      have hk2 : ds[k]? = some (some t) := by
        rw [List.getElem?_take] at hk
        split at hk
        · exact hk
        · cases hk
      unfold slotAt
      rw [hk2]
      rfl
    · have hno : ∀ d ∈ ds.take n, d ≠ some t := fun d hd2 e => by
        subst e
        obtain ⟨k, hk⟩ := List.getElem?_of_mem hd2
        exact hd ⟨k, hk⟩
      rw [puts_other _ _ _ _ _ hno]
      refine h.rest t fun k hk _ e => hd ⟨k, ?_⟩
      rw [List.getElem?_take, if_pos hk]
      exact e
  · have := h.facts k hk (hall k hk)
    unfold slotAt at this ⊢
    cases hd : (ds[k]?).getD none with
    | none => rw [hd] at this; exact this
    | some t => rw [hd] at this; simp only [hd]; exact this

theorem wpAny_inv {n : Nat} {ds : List (Option Tmp)} {need : List (List Nat)} {a0 : Act} {w0 : World} {R : World → World → Prop} {Gs : List (Value → World → Prop)} {Q : Exit → Act → World → Prop}
    (hds : ops.map (·.dst) = ds) (hn : n ≤ ops.length) (hap : apartB (ds.take n) a0.tmps.size = true) (hneed : needB (afterL ops) need = true) (htail : tailB (afterL ops) need n = true)
    (hRr : ∀ x, R x x) (hT : ∀ x y z, R x y → R y z → R x z) (hE : Each P ops (ds.take n) need a0 w0 R Gs Q n 0)
    (hend : ∀ (v : Nat → Value) w, R w0 w → (∀ k, k < n → (Gs.getD k (fun _ _ => True)) (match (ds[k]?).getD none with | some _ => v k | none => undef) w) → wpAny P .any ops.toArray Q (ops.length - n) (tailL n ops.length) (puts (ds.take n) v 0 a0) w) :
    ∀ (m : Nat) (listed : Array Bool) (a : Act) (w : World), Inv n ds need a0 w0 R Gs listed a w → cntT listed n + m = n → wpAny P .any ops.toArray Q (m + (ops.length - n)) listed a w := by
  have hdl : ds.length = ops.length := by rw [← hds, List.length_map]
  have hal : (afterL ops).length = ops.length := by simp [afterL]
  have nd : ∀ i, i < ops.length → (∀ j ∈ (afterL ops).getD i [], j < i) ∧ (∀ j ∈ need.getD i [], j ∈ (afterL ops).getD i [] ∨ ∃ m ∈ (afterL ops).getD i [], j ∈ need.getD m []) := by
    intro i hi
    have h := List.all_eq_true.1 hneed i (List.mem_range.2 (by omega))
    simp only [Bool.and_eq_true, List.all_eq_true, decide_eq_true_eq, Bool.or_eq_true, List.any_eq_true, List.contains_iff_mem] at h
    exact ⟨h.1, fun j hj => (h.2 j hj).imp id (fun ⟨m, h1, h2⟩ => ⟨m, h1, h2⟩)⟩
  have tl : ∀ i, n ≤ i → i < ops.length → ∀ k, k < n → k ∈ (afterL ops).getD i [] ∨ k ∈ need.getD i [] := by
    intro i h1 h2 k hk
    have h := List.all_eq_true.1 htail i (List.mem_range.2 (by omega))
    simp only [Bool.or_eq_true, decide_eq_true_eq, List.all_eq_true, List.contains_iff_mem, List.mem_range] at h
    exact h.resolve_left (by omega) k hk
  intro m
  induction m with
  | zero =>
    intro listed a w h hc
    obtain ⟨rfl, v, rfl, hg⟩ := inv_end hap (by omega) h (cntT_all (by omega))
    rw [Nat.zero_add, hdl]
    exact hend v w h.grow hg
  | succ m ih =>
    intro listed a w h hc
    rw [show m + 1 + (ops.length - n) = (m + (ops.length - n)) + 1 by omega]
    -- one is left
    have hleft : ∃ i, i < n ∧ listed.getD i false = false ∧ ∀ j, j < i → listed.getD j false = true := by
      have hex : ∃ i, i < n ∧ listed.getD i false = false := by
        refine Classical.byContradiction fun hno => ?_
        have : cntT listed n = n := by
          unfold cntT
          have : (List.range n).countP (fun k => listed.getD k false) = (List.range n).length := List.countP_eq_length.2 fun k hk => by
            cases hv : listed.getD k false with
            | true => rfl
            | false => exact absurd ⟨k, List.mem_range.1 hk, hv⟩ hno
          rw [this, List.length_range]
        omega
      obtain ⟨i0, h0, h1⟩ := hex
      clear h
      induction i0 using Nat.strongRecOn with
      | _ i0 ih2 =>
        by_cases hl : ∃ j, j < i0 ∧ listed.getD j false = false
        · obtain ⟨j, hj, hf⟩ := hl
          exact ih2 j hj (by omega) hf
        · exact ⟨i0, h0, h1, fun j hj => by
            cases hv : listed.getD j false with
            | true => rfl
            | false => exact absurd ⟨j, hj, hv⟩ hl⟩
    have hgt : ∀ k, k < ops.length → listed.getD k true = listed.getD k false := fun k hk => by
      have := h.lsize
      simp [Array.getD_eq_getD_getElem?, show k < listed.size by omega]
    refine ⟨fun hr => ?_, fun i hi => ?_⟩
    · obtain ⟨i, hin, hf, hj⟩ := hleft
      have : i ∈ Region.ready .any ops.toArray listed := ready_mem.2 ⟨by omega, by rw [hgt i (by omega)]; exact hf, fun j hj' => hj j ((nd i (by omega)).1 j hj')⟩
      rw [hr] at this
      cases this
    · obtain ⟨hil, hif, hia⟩ := ready_mem.1 hi
      rw [hgt i hil] at hif
      have hin : i < n := by
        refine Classical.byContradiction fun hge => ?_
        obtain ⟨j, hjn, hjf, _⟩ := hleft
        have hjt : listed.getD j false = true := by
          rcases tl i (by omega) hil j hjn with h1 | h1
          · exact hia j h1
          · rcases (nd i hil).2 j h1 with h2 | ⟨m', h2, h3⟩
            · exact hia j h2
            · have hm' : m' < n := Classical.byContradiction fun hge2 => by
                have := hia m' h2
                rw [h.out m' (by omega)] at this
                cases this
              exact (h.clos m' hm' (hia m' h2) j h3).2
        rw [hjt] at hjf
        cases hjf
      have ho : ops[i]? = some ops[i] := List.getElem?_eq_getElem hil
      have hdi : ds[i]? = some ops[i].dst := by rw [← hds, List.getElem?_map, ho]; rfl
      have hdt : ∀ k, k < n → (ds.take n)[k]? = ds[k]? := fun k hk => by rw [List.getElem?_take, if_pos hk]
      have hsl : ∀ (b : Act) k, k < n → slotAt (ds.take n) b k = slotAt ds b k := fun b k hk => by unfold slotAt; rw [hdt k hk]
      have hneedi : ∀ j ∈ need.getD i [], j < n ∧ listed.getD j false = true := fun j hj => by
        rcases (nd i hil).2 j hj with h1 | ⟨m', h1, h2⟩
        · exact ⟨by have := (nd i hil).1 j h1; omega, hia j h1⟩
        · exact h.clos m' (by have := (nd i hil).1 m' h1; omega) (hia m' h1) j h2
      obtain ⟨hk, hs⟩ := hE i (Nat.zero_le _) hin
      have hstep := hs _ ho a w h.size h.grow (fun t ht => h.rest t fun k hk _ e => ht (some t) (List.mem_of_getElem? (by rw [hdt k hk]; exact e)) rfl) (fun j hj => by
        rw [hsl a j (hneedi j hj).1]
        exact h.facts j (hneedi j hj).1 (hneedi j hj).2)
      have next : ∀ v w', R w w' → (Gs.getD i (fun _ _ => True)) (if ops[i].dst.isSome then v else undef) w' → wpAny P .any ops.toArray Q (m + (ops.length - n)) (listed.setIfInBounds i true) (a.put ops[i].dst v) w' := by
        intro v w' hR hG
        have hls : i < listed.size := by rw [h.lsize]; omega
        refine ih _ _ _ ⟨by rw [put_defers]; exact h.defers, by rw [put_size]; exact h.size, by rw [Array.size_setIfInBounds]; exact h.lsize, fun k hk => ?_, hT _ _ _ h.grow hR, fun t ht => ?_, fun k hk hkl => ?_, fun k hk hkl j hj => ?_⟩ ?_
        · rw [getD_set_ne _ (by omega)]; exact h.out k hk
        · have hne : ops[i].dst ≠ some t := fun e => ht i hin (getD_set_eq _ hls) (by rw [hdi, e])
          rw [put_get _ _ _ _ hne]
          refine h.rest t fun k hk hkl => ht k hk ?_
          by_cases hki : k = i
          · subst hki; exact getD_set_eq _ hls
          · rw [getD_set_ne _ hki]; exact hkl
        · by_cases hki : k = i
          · subst hki
            have : slotAt ds (a.put ops[k].dst v) k = if ops[k].dst.isSome then v else undef := by
              unfold slotAt
              rw [hdi]
              simp only [Option.getD_some]
              cases hd : ops[k].dst with
              | none => rfl
              | some t =>
                simp only [Option.isSome_some, if_true]
                refine put_at _ _ _ ?_
                rw [h.size]
                exact apart_lt _ _ k t hap (by rw [hdt k hin, hdi, hd])
            rw [this]
            exact hG
          · rw [getD_set_ne _ hki] at hkl
            have : slotAt ds (a.put ops[i].dst v) k = slotAt ds a k := by
              unfold slotAt
              cases hd : (ds[k]?).getD none with
              | none => rfl
              | some t =>
                refine put_get _ _ _ _ fun e => hki ?_
                have hk2 : ds[k]? = some (some t) := by
                  cases hq : ds[k]? with
                  | none => rw [hq] at hd; cases hd
                  | some x => rw [hq] at hd; simp at hd; rw [hd]
                exact apart_ne _ _ k i t hap (by rw [hdt k hk]; exact hk2) (by rw [hdt i hin, hdi, e])
            rw [this]
            exact (hE k (Nat.zero_le _) hk).1 _ _ _ hR (h.facts k hk hkl)
        · have hj2 : j < n ∧ listed.getD j false = true := by
            by_cases hki : k = i
            · subst hki; exact hneedi j hj
            · rw [getD_set_ne _ hki] at hkl; exact h.clos k hk hkl j hj
          refine ⟨hj2.1, ?_⟩
          by_cases hji : j = i
          · rw [hji]; exact getD_set_eq _ hls
          · rw [getD_set_ne _ hji]; exact hj2.2
        · rw [cntT_set _ _ hls hif, if_pos hin]; omega
      unfold wpOp
      simp only [List.getElem?_toArray, ho]
      rcases hstep with ⟨hw, hwp⟩ | ⟨hw, hg⟩
      · rw [if_pos hw]
        refine .inl (Oper.wp_mono ?_ hwp)
        rintro a' w' ⟨v, rfl, hR, hG⟩
        exact next v w' hR hG
      · rw [if_neg (by rw [hw]; simp)]
        exact next undef w (hRr w) (by split <;> exact hg)
/-- One more has come up. -/
theorem Inv.step {n : Nat} {ds : List (Option Tmp)} {need : List (List Nat)} {a0 : Act} {w0 : World} {R : World → World → Prop} {Gs : List (Value → World → Prop)} {listed : Array Bool} {a : Act} {w w' : World} {i : Nat} {d : Option Tmp} {v : Value}
    (h : Inv n ds need a0 w0 R Gs listed a w) (hn : n ≤ ds.length) (hap : apartB (ds.take n) a0.tmps.size = true) (hT : ∀ x y z, R x y → R y z → R x z) (hK : ∀ k, k < n → Keeps R (Gs.getD k (fun _ _ => True)))
    (hin : i < n) (hdi : ds[i]? = some d) (hneedi : ∀ j ∈ need.getD i [], j < n ∧ listed.getD j false = true) (hR : R w w') (hG : (Gs.getD i (fun _ _ => True)) (if d.isSome then v else undef) w') :
    Inv n ds need a0 w0 R Gs (listed.setIfInBounds i true) (a.put d v) w' := by
  have hls : i < listed.size := by rw [h.lsize]; omega
  have hdt : ∀ k, k < n → (ds.take n)[k]? = ds[k]? := fun k hk => by rw [List.getElem?_take, if_pos hk]
  refine ⟨by rw [put_defers]; exact h.defers, by rw [put_size]; exact h.size, by rw [Array.size_setIfInBounds]; exact h.lsize, fun k hk => ?_, hT _ _ _ h.grow hR, fun t ht => ?_, fun k hk hkl => ?_, fun k hk hkl j hj => ?_⟩
  · rw [getD_set_ne _ (by omega)]; exact h.out k hk
  · have hne : d ≠ some t := fun e => ht i hin (getD_set_eq _ hls) (by rw [hdi, e])
    rw [put_get _ _ _ _ hne]
    refine h.rest t fun k hk hkl => ht k hk ?_
    by_cases hki : k = i
    · subst hki; exact getD_set_eq _ hls
    · rw [getD_set_ne _ hki]; exact hkl
  · by_cases hki : k = i
    · subst hki
      have : slotAt ds (a.put d v) k = if d.isSome then v else undef := by
        unfold slotAt
        rw [hdi]
        simp only [Option.getD_some]
        cases hd : d with
        | none => rfl
        | some t =>
          simp only [Option.isSome_some, if_true]
          refine put_at _ _ _ ?_
          rw [h.size]
          exact apart_lt _ _ k t hap (by rw [hdt k hin, hdi, hd])
      rw [this]
      exact hG
    · rw [getD_set_ne _ hki] at hkl
      have : slotAt ds (a.put d v) k = slotAt ds a k := by
        unfold slotAt
        cases hd : (ds[k]?).getD none with
        | none => rfl
        | some t =>
          refine put_get _ _ _ _ fun e => hki ?_
          have hk2 : ds[k]? = some (some t) := by
            cases hq : ds[k]? with
            | none => rw [hq] at hd; cases hd
            | some x => rw [hq] at hd; simp at hd; rw [hd]
          exact apart_ne _ _ k i t hap (by rw [hdt k hk]; exact hk2) (by rw [hdt i hin, hdi, e])
      rw [this]
      exact hK k hk _ _ _ hR (h.facts k hk hkl)
  · have hj2 : j < n ∧ listed.getD j false = true := by
      by_cases hki : k = i
      · subst hki; exact hneedi j hj
      · rw [getD_set_ne _ hki] at hkl; exact h.clos k hk hkl j hj
    refine ⟨hj2.1, ?_⟩
    by_cases hji : j = i
    · rw [hji]; exact getD_set_eq _ hls
    · rw [getD_set_ne _ hji]; exact hj2.2
theorem tailL_at (n m k : Nat) : (tailL n m).getD k false = decide (k < n) := by
  unfold tailL
  simp only [Array.getD_eq_getD_getElem?, List.getElem?_toArray, List.getElem?_append, List.length_replicate, List.getElem?_replicate]
  by_cases h : k < n
  · simp [h]
  · rw [if_neg h]
    split <;> simp [h]
theorem tailL_size (n m : Nat) (h : n ≤ m) : (tailL n m).size = m := by simp [tailL]; omega
theorem tailL_set (n m : Nat) (h : n < m) : (tailL n m).setIfInBounds n true = tailL (n + 1) m := by
  have hs := tailL_size n m (by omega)
  have hs' := tailL_size (n + 1) m (by omega)
  refine Array.ext (by rw [Array.size_setIfInBounds, hs, hs']) fun i h1 h2 => ?_
  have e1 : ((tailL n m).setIfInBounds n true)[i] = ((tailL n m).setIfInBounds n true).getD i false := by rw [Array.getD_eq_getD_getElem?, Array.getElem?_eq_getElem h1]; rfl
  have e2 : (tailL (n + 1) m)[i] = (tailL (n + 1) m).getD i false := by rw [Array.getD_eq_getD_getElem?, Array.getElem?_eq_getElem h2]; rfl
  rw [e1, e2, tailL_at]
  by_cases hi : i = n
  · subst hi
    rw [getD_set_eq _ (by omega)]; simp
  · rw [getD_set_ne _ hi, tailL_at]
    simp only [decide_eq_decide]
    omega
/-- Each waits for earlier ones alone: in a region that draws nothing they come up afs they stand. -/
def seqB (need : List (List Nat)) (n : Nat) : Bool := (List.range n).all fun i => (need.getD i []).all (fun j => decide (j < i))
theorem wpList_inv {ds : List (Option Tmp)} {need : List (List Nat)} {a0 : Act} {w0 : World} {R : World → World → Prop} {Gs : List (Value → World → Prop)} {Q : Exit → Act → World → Prop}
    (hds : ops.map (·.dst) = ds) (hap : apartB ds a0.tmps.size = true) (hneed : seqB need ops.length = true) (hRr : ∀ x, R x x) (hT : ∀ x y z, R x y → R y z → R x z) (hE : Each P ops ds need a0 w0 R Gs Q ops.length 0)
    (hend : ∀ (v : Nat → Value) w, R w0 w → (∀ k, k < ops.length → (Gs.getD k (fun _ _ => True)) (match (ds[k]?).getD none with | some _ => v k | none => undef) w) → Q .normal (puts ds v 0 a0) w) :
    ∀ (rest pre : List Oper) (a : Act) (w : World), ops = pre ++ rest → Inv ops.length ds need a0 w0 R Gs (tailL pre.length ops.length) a w → wpList P ops.toArray Q rest a w
  | [], pre, a, w, e, h => by
    have hdl : ds.length = ops.length := by rw [← hds, List.length_map]
    have ht : ds.take ops.length = ds := by rw [← hdl, List.take_length]
    have hpl : pre.length = ops.length := by rw [e]; simp
    obtain ⟨_, v, rfl, hg⟩ := inv_end (by rw [ht]; exact hap) (by omega) h (fun k hk => by rw [tailL_at]; simp; omega)
    rw [ht]
    exact hend v w h.grow hg
  | o :: rest, pre, a, w, e, h => by
    have hdl : ds.length = ops.length := by rw [← hds, List.length_map]
    have ht : ds.take ops.length = ds := by rw [← hdl, List.take_length]
    have hil : pre.length < ops.length := by rw [e]; simp
    have ho : ops[pre.length]? = some o := by rw [e]; simp
    have hdi : ds[pre.length]? = some o.dst := by rw [← hds, List.getElem?_map, ho]; rfl
    have hneedi : ∀ j ∈ need.getD pre.length [], j < ops.length ∧ (tailL pre.length ops.length).getD j false = true := fun j hj => by
      have h1 := List.all_eq_true.1 hneed pre.length (List.mem_range.2 hil)
      have h2 := List.all_eq_true.1 h1 j hj
      simp only [decide_eq_true_eq] at h2
      exact ⟨by omega, by rw [tailL_at]; simpa using h2⟩
    obtain ⟨hk, hs⟩ := hE pre.length (Nat.zero_le _) hil
    have hstep := hs o ho a w h.size h.grow (fun t htt => h.rest t fun k hk _ e => htt (some t) (List.mem_of_getElem? e) rfl) (fun j hj => h.facts j (hneedi j hj).1 (hneedi j hj).2)
    have next : ∀ v w', R w w' → (Gs.getD pre.length (fun _ _ => True)) (if o.dst.isSome then v else undef) w' → wpList P ops.toArray Q rest (a.put o.dst v) w' := fun v w' hR hG => by
      have hinv := h.step (by omega) (by rw [ht]; exact hap) hT (fun k hk => (hE k (Nat.zero_le _) hk).1) hil hdi hneedi hR hG
      rw [tailL_set _ _ hil] at hinv
      refine wpList_inv hds hap hneed hRr hT hE hend rest (pre ++ [o]) _ _ (by rw [e]; simp) ?_
      rw [List.length_append, List.length_singleton]
      exact hinv
    unfold wpList
    rcases hstep with ⟨hw, hwp⟩ | ⟨hw, hg⟩
    · rw [if_pos hw]
      exact .inl (Oper.wp_mono (fun a' w' ⟨v, e, hR, hG⟩ => by subst e; exact next v w' hR hG) hwp)
    · rw [if_neg (by rw [hw]; simp)]
      exact next undef w (hRr w) (by split <;> exact hg)
/-- THE LAW, of a region that draws nothing. -/
theorem wp_region_seq {id : Nat} {ds : List (Option Tmp)} {need : List (List Nat)} {a0 : Act} {w : World} {R : World → World → Prop} {Gs : List (Value → World → Prop)} {Q : Exit → Act → World → Prop}
    (hds : ops.map (·.dst) = ds) (hap : apartB ds a0.tmps.size = true) (hneed : seqB need ops.length = true) (hRr : ∀ x, R x x) (hT : ∀ x y z, R x y → R y z → R x z) (hE : Each P ops ds need a0 w R Gs Q ops.length 0)
    (hend : ∀ (v : Nat → Value) w', R w w' → (∀ k, k < ops.length → (Gs.getD k (fun _ _ => True)) (match (ds[k]?).getD none with | some _ => v k | none => undef) w') → Q .normal (puts ds v 0 a0) w') :
    (Code.region id ops.toArray false).wp P Q a0 w := by
  refine wp_region_lit (wpList_inv hds hap hneed hRr hT hE hend ops [] a0 w rfl ?_)
  have hdl : ds.length = ops.length := by rw [← hds, List.length_map]
  have hz : ∀ k, (tailL 0 ops.length).getD k false = false := fun k => by rw [tailL_at]; simp
  exact ⟨rfl, rfl, (tailL_size _ _ (Nat.zero_le _)).trans hdl.symm, fun k _ => hz k, hRr _, fun _ _ => rfl, fun k _ hk => (by have := (hz k).symm.trans hk; cases this), fun k _ hk => (by have := (hz k).symm.trans hk; cases this)⟩
/-- THE LAW. -/
theorem wp_region_inv {id : Nat} {n : Nat} {ds : List (Option Tmp)} {need : List (List Nat)} {a0 : Act} {w : World} {R : World → World → Prop} {Gs : List (Value → World → Prop)} {Q : Exit → Act → World → Prop}
    (hm : P.follows .mixedOrders = true) (hds : ops.map (·.dst) = ds) (hn : n ≤ ops.length) (hap : apartB (ds.take n) a0.tmps.size = true) (hneed : needB (afterL ops) need = true) (htail : tailB (afterL ops) need n = true)
    (hRr : ∀ x, R x x) (hT : ∀ x y z, R x y → R y z → R x z) (hE : Each P ops (ds.take n) need a0 w.drew R Gs Q n 0)
    (hend : ∀ (v : Nat → Value) w', R w.drew w' → (∀ k, k < n → (Gs.getD k (fun _ _ => True)) (match (ds[k]?).getD none with | some _ => v k | none => undef) w') → wpAny P .any ops.toArray Q (ops.length - n) (tailL n ops.length) (puts (ds.take n) v 0 a0) w') :
    (Code.region id ops.toArray true).wp P Q a0 w := by
  refine wp_region_any hm ?_
  have hdl : ds.length = ops.length := by rw [← hds, List.length_map]
  have hz : ∀ k, (Array.replicate ops.length false).getD k false = false := fun k => by
    simp only [Array.getD_eq_getD_getElem?, Array.getElem?_replicate]
    split <;> rfl
  have h := wpAny_inv (P := P) hds hn hap hneed htail hRr hT hE hend n (Array.replicate ops.length false) a0 w.drew
    ⟨rfl, rfl, by rw [Array.size_replicate, hdl], fun k _ => hz k, hRr _, fun _ _ => rfl, fun k _ hk => (by rw [hz] at hk; cases hk), fun k _ hk => (by rw [hz] at hk; cases hk)⟩
    (by
      have : cntT (Array.replicate ops.length false) n = 0 := by
        unfold cntT
        exact List.countP_eq_zero.2 fun k _ => by rw [hz]; simp
      omega)
  rw [show n + (ops.length - n) = ops.length by omega] at h
  exact h
end
section
open Go.RowKit

theorem eval_const (a : Act) (v : Value) : a.eval (.const v) = v := rfl
abbrev Bel : World → World → Prop := fun x y => Below x.heap.size x y
variable {P : Program} {ops : List Oper} {ds : List (Option Tmp)} {need : List (List Nat)} {a0 : Act} {w0 : World} {R : World → World → Prop} {Gs : List (Value → World → Prop)} {Q : Exit → Act → World → Prop}
theorem StepOk.plain {i : Nat} {o : Oper} {g : Value → World → Prop} (hg : Gs.getD i (fun _ _ => True) = g) (hgd : o.guard = none) (hd : o.dst.isSome = true)
    (h : ∀ a w, a.tmps.size = a0.tmps.size → R w0 w → (∀ t, (∀ d ∈ ds, d ≠ some t) → a.tmps.getD t undef = a0.tmps.getD t undef) → (∀ j ∈ need.getD i [], (Gs.getD j (fun _ _ => True)) (slotAt ds a j) w) →
      o.wp P a w (fun a' w' => ∃ v, a' = a.put o.dst v ∧ R w w' ∧ g v w') Q) : StepOk P ops ds need a0 w0 R Gs Q i o := by
  intro a w h1 h2 h3 h4
  refine .inl ⟨by unfold Region.wanted; rw [hgd], Oper.wp_mono (fun a' w' ⟨v, e, r, hv⟩ => ⟨v, e, r, ?_⟩) (h a w h1 h2 h3 h4)⟩
  rw [hg, if_pos hd]
  exact hv
theorem StepOk.guarded {i : Nat} {o : Oper} {g : Value → World → Prop} (j : Nat) (t : Tmp) (b : Bool) (hgd : o.guard = some (j, b)) (hdt : (ops.map (·.dst))[j]? = some (some t)) (hg : Gs.getD i (fun _ _ => True) = g) (hd : o.dst.isSome = true)
    (h : ∀ a w, a.tmps.size = a0.tmps.size → R w0 w → (∀ t, (∀ d ∈ ds, d ≠ some t) → a.tmps.getD t undef = a0.tmps.getD t undef) → (∀ j ∈ need.getD i [], (Gs.getD j (fun _ _ => True)) (slotAt ds a j) w) →
      a.tmps.getD t undef = .bool b ∧ o.wp P a w (fun a' w' => ∃ v, a' = a.put o.dst v ∧ R w w' ∧ g v w') Q) : StepOk P ops ds need a0 w0 R Gs Q i o := by
  intro a w h1 h2 h3 h4
  obtain ⟨hb, hw⟩ := h a w h1 h2 h3 h4
  refine .inl ⟨?_, Oper.wp_mono (fun a' w' ⟨v, e, r, hv⟩ => ⟨v, e, r, ?_⟩) hw⟩
  · have e1 : a.tmps[t]? = some (.bool b) := by
      rw [Array.getD_eq_getD_getElem?] at hb
      cases hx : a.tmps[t]? with
      | none => rw [hx] at hb; cases hb
      | some x => rw [hx] at hb; simp at hb; rw [hb]
    have e2 : ((ops.toArray[j]?).bind (·.dst)) = some t := by
      rw [List.getElem?_map] at hdt
      rw [List.getElem?_toArray]
      cases hx : ops[j]? with
      | none => rw [hx] at hdt; cases hdt
      | some x => rw [hx] at hdt; simp at hdt; simp [hdt]
    unfold Region.wanted
    rw [hgd]
    simp only [yielded, e2, Option.bind_some, e1, beq_self_eq_true]
  · rw [hg, if_pos hd]
    exact hv
theorem Keeps.const (c : Value) : Keeps Bel (fun v _ => v = c) := fun _ _ _ _ h => h
theorem wp_pure {o : Oper} {a : Act} {w : World} {v : Value} {g : Value → World → Prop} (hrun : (execOp a.eval o).run P w = .ok (.value v) w) (hv : g v w) :
    o.wp P a w (fun a' w' => ∃ v, a' = a.put o.dst v ∧ Bel w w' ∧ g v w') Q := by
  unfold Oper.wp; rw [hrun]; exact ⟨v, rfl, Below.refl _ _, hv⟩
theorem wp_made {o : Oper} {a : Act} {w : World} {v : Value} {ob : Obj} {g : Value → World → Prop} (hrun : (execOp a.eval o).run P w = .ok (.value v) (w.alloc ob)) (hv : g v (w.alloc ob)) :
    o.wp P a w (fun a' w' => ∃ v, a' = a.put o.dst v ∧ Bel w w' ∧ g v w') Q := by
  unfold Oper.wp; rw [hrun]; exact ⟨v, rfl, ba w ob, hv⟩
theorem wp_fn {o : Oper} {a : Act} {w : World} {f : FuncId} {fn : Func} {args : Array Operand} {ats : Array TypeId} {vs : Array Value} {g : Value → World → Prop} (hop : o.op = .call { callee := .value (.func f), args, argTypes := ats })
    (hf : P.funcs[f]? = some fn) (hname : (fn.name == "runtime.NumGoroutine") = false) (hb : fn.body.isNone = false) (he : args.map a.eval = vs) (hC : Calls P f vs w (fun e w' => ∃ v, e = .returned v ∧ Bel w w' ∧ g v w')) :
    o.wp P a w (fun a' w' => ∃ v, a' = a.put o.dst v ∧ Bel w w' ∧ g v w') Q := by
  unfold Oper.wp
  rw [Conc.run_call_body hop hf hname hb, he]
  refine Calls.mono hC ?_
  rintro e w' ⟨v, rfl, hB, hg⟩
  exact ⟨v, rfl, hB, hg⟩
theorem wpOp_go {opa : Array Oper} {i : Nat} {o : Oper} {a : Act} {w : World} {K : Act → World → Prop} (ho : opa[i]? = some o) (hgd : o.guard = none) (h : o.wp P a w K Q) : wpOp P opa Q i K a w := by
  unfold wpOp
  simp only [ho]
  rw [if_pos (by unfold Region.wanted; rw [hgd])]
  exact .inl h
/-- The next one, where one alone may come up. -/
theorem wpAny_next {i fuel : Nat} {o : Oper} {L : Array Bool} {a : Act} {w : World} (hr : Region.ready .any ops.toArray L = [i]) (ho : ops[i]? = some o) (hgd : o.guard = none)
    (h : o.wp P a w (fun a' w' => wpAny P .any ops.toArray Q fuel (L.setIfInBounds i true) a' w') Q) : wpAny P .any ops.toArray Q (fuel + 1) L a w := by
  refine wpAny_all hr (by simp) (fun j hj => ?_)
  obtain rfl : j = i := by simpa using hj
  exact wpOp_go (by simpa using ho) hgd h
/-- The last operation, behind all the others. -/
theorem wpAny_last {n : Nat} {o : Oper} {a : Act} {w : World} (hlen : ops.length - n = 1) (hr : Region.ready .any ops.toArray (tailL n ops.length) = [n]) (hr2 : Region.ready .any ops.toArray ((tailL n ops.length).setIfInBounds n true) = [])
    (ho : ops[n]? = some o) (hgd : o.guard = none) (h : o.wp P a w (fun a' w' => Q .normal a' w') Q) : wpAny P .any ops.toArray Q (ops.length - n) (tailL n ops.length) a w := by
  rw [hlen]
  refine wpAny_all (fuel := 0) hr (by simp) (fun i hi => ?_)
  obtain rfl : i = n := by simpa using hi
  refine wpOp_go (by simpa using ho) hgd (Oper.wp_mono (fun a' w' hq => ?_) h)
  exact wpAny_done hr2 hq _
section
variable {o : Oper} {a : Act} {w : World}
theorem run_move {x : Operand} (ho : o.op = .move x) : (execOp a.eval o).run P w = .ok (.value (a.eval x)) w := by unfold execOp; simp [ho]
theorem run_assign {x : Operand} (ho : o.op = .assign x) : (execOp a.eval o).run P w = .ok (.value (a.eval x)) w := by unfold execOp; simp [ho]
theorem run_pick {c x y : Operand} (ho : o.op = .pick c x y) (b : Bool) (hc : a.eval c = .bool b) : (execOp a.eval o).run P w = .ok (.value (if b then a.eval x else a.eval y)) w := by
  unfold execOp
  simp [ho, hc, asBool]
theorem run_len {x : Operand} {t e : TypeId} (ho : o.op = .call { callee := .builtin .len, args := #[x], argTypes := #[t] }) (hu : P.underlying t = some (.slice e)) {A : Option Addr} {n c : Nat} (hx : a.eval x = .slice A n c) : (execOp a.eval o).run P w = .ok (.value (.int .i64 n)) w := by
  unfold execOp
  simp [ho, hx, resolve, invoke, builtin, Builtin.len_, run_underlying hu, goInt]
theorem run_eqI {x y : Operand} {t t' : TypeId} (ho : o.op = .binOp .eql t x y t') {k : IntKind} {m n : Int} (hx : a.eval x = .int k m) (hy : a.eval y = .int k n) : (execOp a.eval o).run P w = .ok (.value (.bool (m == n))) w := by
  unfold execOp
  simp [ho, hx, hy, eqGuard, binOp, Op.intCmp]
theorem run_lss {x y : Operand} {t t' : TypeId} (ho : o.op = .binOp .lss t x y t') {k : IntKind} {m n : Int} (hx : a.eval x = .int k m) (hy : a.eval y = .int k n) : (execOp a.eval o).run P w = .ok (.value (.bool (decide (m < n)))) w := by
  unfold execOp
  simp [ho, hx, hy, eqGuard, binOp, Op.intCmp]
theorem run_eqS {x y : Operand} {t t' : TypeId} (ho : o.op = .binOp .eql t x y t') {m n : ByteArray} (hx : a.eval x = .string m) (hy : a.eval y = .string n) : (execOp a.eval o).run P w = .ok (.value (.bool (m.toList == n.toList))) w := by
  unfold execOp
  simp [ho, hx, hy, eqGuard, binOp, Op.stringOp]
theorem run_not {x : Operand} {t : TypeId} (ho : o.op = .unOp .not t x) {b : Bool} (hx : a.eval x = .bool b) : (execOp a.eval o).run P w = .ok (.value (.bool (!b))) w := by
  unfold execOp
  simp [ho, hx, Op.unary]
end
end
end Go.Proofs.YtpokpiphnggfpaaGreatDoor
end
section
namespace Go.Proofs.YtpokpiphnggfpaaGreatDoor
open Go.RowKit Go.Shelf
attribute [local go_sem] Oper.semAt_some

section
variable {o : Oper} {a : Act} {w : World}
theorem run_ldB {x : Operand} (ho : o.op = .load 28 x) {u : Nat} {k n : Int} {s : ByteArray} (hx : a.eval x = .pointer (some ⟨u, 0, none⟩)) (hb : Bx w u k n s) :
    (execOp a.eval o).run Tryz.prog w = .ok (.value (VV k n s)) w := by
  have hr : w.rangeAt u 0 [.int .i64 k, .int .i64 n, .string s] := by
    intro j v hj
    rw [Nat.zero_add]
    match j, hj with
    | 0, hj => obtain rfl := Option.some.inj hj; exact hb.c0
    | 1, hj => obtain rfl := Option.some.inj hj; exact hb.c1
    | 2, hj => obtain rfl := Option.some.inj hj; exact hb.c2
    | j + 3, hj => simp at hj
  unfold execOp
  simp only [ho, hx]
  rw [Sem.run_bind, run_loadAt_mid w u 0 28 _ _ hr Tryz.underlying28 rfl (by kernel_rfl)]
  rfl
end
theorem two (w : World) (k n k' n' : Int) (s s' : ByteArray) : Bx ((w.alloc (vbox k n s)).alloc (vbox k' n' s')) w.heap.size k n s ∧ Bx ((w.alloc (vbox k n s)).alloc (vbox k' n' s')) (w.heap.size + 1) k' n' s' ∧
    Below w.heap.size w ((w.alloc (vbox k n s)).alloc (vbox k' n' s')) := by
  have h2 := Bx.new (w.alloc (vbox k n s)) k' n' s'
  have h1 := (Bx.new w k n s).kept (ba _ (vbox k' n' s'))
  simp only [World.size_alloc] at h2
  exact ⟨h1, h2, ba2 _ _ _⟩
set_option maxRecDepth 100000 in
set_option maxHeartbeats 4000000 in
theorem truthOf_any (op : Int) (a b : Va) (w0 : World) (ha : a.s.size ≤ 9223372036854775807) (hb' : b.s.size ≤ 9223372036854775807) (hT : TabV w0) :
    Calls Tryz.prog 68 #[.int .i64 op, VV a.k a.n a.s, VV b.k b.n b.s] w0 fun e w' => e = .returned (.int .i64 (truO op a b)) ∧ Below w0.heap.size w0 w' := by
  obtain ⟨k, n, s⟩ := a
  obtain ⟨k', n', s'⟩ := b
  simp only at ha hb'
  have H3 := two w0 k n k' n' s s'
  have HA := Lib.hid H3.1
  have HB := Lib.hid H3.2.1
  have HW := Lib.hid H3.2.2
  have HT := Lib.hid (hT.kept H3.2.2)
  clear H3 hT
  obtain ⟨R, hR⟩ : ∃ R, truO op ⟨k, n, s⟩ ⟨k', n', s'⟩ = R := ⟨_, rfl⟩
  have Hf := Lib.hid hR
  rw [hR]
  clear hR
  by_cases h1 : op = 1
  · subst h1
    have Hf := Lib.hid (show R = orT (tr (truthV k n s)) (tr (truthV k' n' s')) from Hf.out.symm)
    go_enter Tryz.func68, Tryz.ntmps68
    go_upto_region 1 with fail
    generalize (w0.alloc (.cells #[.int .i64 k, .int .i64 n, .string s] 28)).alloc (.cells #[.int .i64 k', .int .i64 n', .string s'] 28) = W at HA HB HW HT ⊢
    obtain ⟨a0, a1, a2, _, _, _⟩ := HA.out
    obtain ⟨b0, b1, b2, _, _, _⟩ := HB.out
    go_wp2_with fail
    refine wp_region_inv (n := 6) (ds := [some 10, some 11, some 12, some 13, some 14, some 6]) (need := [[], [0], [], [1, 2], [1, 3], [0, 1, 2, 3, 4]]) (R := Bel) (Gs := [
        (fun v _ => v = VV k n s),
        (fun v _ => v = .int .i64 (truthV k n s)),
        (fun v _ => v = VV k' n' s'),
        (fun v _ => v = .int .i64 (truthV k' n' s')),
        (fun v _ => v = .int .i64 (orT (tr (truthV k n s)) (tr (truthV k' n' s')))),
        (fun v _ => v = .int .i64 (orT (tr (truthV k n s)) (tr (truthV k' n' s'))))])
      (by kernel_rfl) (by kernel_rfl) (by decide) (by kernel_rfl) (by kernel_rfl) (by kernel_rfl) (fun x => Below.refl _ x) (fun _ _ _ h k => bt h k) ?_ ?_
    · refine Each.cons rfl (Keeps.const _) (StepOk.plain (g := (fun v _ => v = VV k n s)) rfl rfl rfl (fun a w hs hR hr pre => ?_)) ?_
      · have ep : a.eval (.tmp 4) = .pointer (some ⟨w0.heap.size, 0, none⟩) := hr 4 (by decide)
        exact wp_pure (run_ldB rfl ep (HA.out.kept (bt (Below.drew (Below.refl _ _)) hR))) rfl
      refine Each.cons rfl (Keeps.const _) (StepOk.plain (g := (fun v _ => v = .int .i64 (truthV k n s))) rfl rfl rfl (fun a w hs hR hr pre => ?_)) ?_
      · have e10 : a.eval (.tmp 10) = VV k n s := pre 0 (by decide)
        exact wp_fn (vs := #[VV k n s]) rfl Tryz.func43 (by kernel_rfl) (by kernel_rfl) (by simp only [List.map_toArray, List.map_cons, List.map_nil, e10]) ((vtruth_any k n s w ha).mono fun _ _ ⟨h1, h2⟩ => ⟨_, h1, h2, rfl⟩)
      refine Each.cons rfl (Keeps.const _) (StepOk.plain (g := (fun v _ => v = VV k' n' s')) rfl rfl rfl (fun a w hs hR hr pre => ?_)) ?_
      · have ep : a.eval (.tmp 5) = .pointer (some ⟨w0.heap.size + 1, 0, none⟩) := hr 5 (by decide)
        exact wp_pure (run_ldB rfl ep (HB.out.kept (bt (Below.drew (Below.refl _ _)) hR))) rfl
      refine Each.cons rfl (Keeps.const _) (StepOk.plain (g := (fun v _ => v = .int .i64 (truthV k' n' s'))) rfl rfl rfl (fun a w hs hR hr pre => ?_)) ?_
      · have e12 : a.eval (.tmp 12) = VV k' n' s' := pre 2 (by decide)
        exact wp_fn (vs := #[VV k' n' s']) rfl Tryz.func43 (by kernel_rfl) (by kernel_rfl) (by simp only [List.map_toArray, List.map_cons, List.map_nil, e12]) ((vtruth_any k' n' s' w hb').mono fun _ _ ⟨h1, h2⟩ => ⟨_, h1, h2, rfl⟩)
      refine Each.cons rfl (Keeps.const _) (StepOk.plain (g := (fun v _ => v = .int .i64 (orT (tr (truthV k n s)) (tr (truthV k' n' s'))))) rfl rfl rfl (fun a w hs hR hr pre => ?_)) ?_
      · have e11 : a.eval (.tmp 11) = .int .i64 (truthV k n s) := pre 1 (by decide)
        have e13 : a.eval (.tmp 13) = .int .i64 (truthV k' n' s') := pre 3 (by decide)
        exact wp_fn (vs := #[.int .i64 (truthV k n s), .int .i64 (truthV k' n' s')]) rfl Tryz.func80 (by kernel_rfl) (by kernel_rfl) (by simp only [List.map_toArray, List.map_cons, List.map_nil, e11, e13]) ((or_any (truthV k n s) (truthV k' n' s') w (HT.out.kept (bt (Below.drew (Below.refl _ _)) hR))).mono fun _ _ ⟨h1, h2⟩ => ⟨_, h1, h2, rfl⟩)
      refine Each.cons rfl (Keeps.const _) (StepOk.plain (g := (fun v _ => v = .int .i64 (orT (tr (truthV k n s)) (tr (truthV k' n' s'))))) rfl rfl rfl (fun a w hs hR hr pre => ?_)) ?_
      · have e14 : a.eval (.tmp 14) = .int .i64 (orT (tr (truthV k n s)) (tr (truthV k' n' s'))) := pre 4 (by decide)
        exact wp_pure (run_assign rfl) e14
      exact Each.nil
    · intro v w1 hB hG
      have e5 : v 5 = .int .i64 (orT (tr (truthV k n s)) (tr (truthV k' n' s'))) := hG 5 (by decide)
      clear hG
      simp only [List.take_succ_cons, List.take_zero, puts, Act.put, List.setIfInBounds_toArray, List.set_cons_zero, List.set_cons_succ, Nat.reduceAdd, e5]
      refine wpAny_done (by kernel_rfl) ?_ _
      have HB9 := Lib.hid (bt HW.out (bt (Below.drew (Below.refl _ _)) hB))
      clear hB
      go_wp2_with fail
      go_ret
      exact ⟨by rw [Hf.out]; rfl, HB9.out⟩
  by_cases h2 : op = 2
  · subst h2
    have Hf := Lib.hid (show R = andT (tr (truthV k n s)) (tr (truthV k' n' s')) from Hf.out.symm)
    go_enter Tryz.func68, Tryz.ntmps68
    go_upto_region 1 with fail
    generalize (w0.alloc (.cells #[.int .i64 k, .int .i64 n, .string s] 28)).alloc (.cells #[.int .i64 k', .int .i64 n', .string s'] 28) = W at HA HB HW HT ⊢
    obtain ⟨a0, a1, a2, _, _, _⟩ := HA.out
    obtain ⟨b0, b1, b2, _, _, _⟩ := HB.out
    go_wp2_with fail
    refine wp_region_inv (n := 6) (ds := [some 17, some 18, some 19, some 20, some 21, some 6]) (need := [[], [0], [], [1, 2], [1, 3], [0, 1, 2, 3, 4]]) (R := Bel) (Gs := [
        (fun v _ => v = VV k n s),
        (fun v _ => v = .int .i64 (truthV k n s)),
        (fun v _ => v = VV k' n' s'),
        (fun v _ => v = .int .i64 (truthV k' n' s')),
        (fun v _ => v = .int .i64 (andT (tr (truthV k n s)) (tr (truthV k' n' s')))),
        (fun v _ => v = .int .i64 (andT (tr (truthV k n s)) (tr (truthV k' n' s'))))])
      (by kernel_rfl) (by kernel_rfl) (by decide) (by kernel_rfl) (by kernel_rfl) (by kernel_rfl) (fun x => Below.refl _ x) (fun _ _ _ h k => bt h k) ?_ ?_
    · refine Each.cons rfl (Keeps.const _) (StepOk.plain (g := (fun v _ => v = VV k n s)) rfl rfl rfl (fun a w hs hR hr pre => ?_)) ?_
      · have ep : a.eval (.tmp 4) = .pointer (some ⟨w0.heap.size, 0, none⟩) := hr 4 (by decide)
        exact wp_pure (run_ldB rfl ep (HA.out.kept (bt (Below.drew (Below.refl _ _)) hR))) rfl
      refine Each.cons rfl (Keeps.const _) (StepOk.plain (g := (fun v _ => v = .int .i64 (truthV k n s))) rfl rfl rfl (fun a w hs hR hr pre => ?_)) ?_
      · have e17 : a.eval (.tmp 17) = VV k n s := pre 0 (by decide)
        exact wp_fn (vs := #[VV k n s]) rfl Tryz.func43 (by kernel_rfl) (by kernel_rfl) (by simp only [List.map_toArray, List.map_cons, List.map_nil, e17]) ((vtruth_any k n s w ha).mono fun _ _ ⟨h1, h2⟩ => ⟨_, h1, h2, rfl⟩)
      refine Each.cons rfl (Keeps.const _) (StepOk.plain (g := (fun v _ => v = VV k' n' s')) rfl rfl rfl (fun a w hs hR hr pre => ?_)) ?_
      · have ep : a.eval (.tmp 5) = .pointer (some ⟨w0.heap.size + 1, 0, none⟩) := hr 5 (by decide)
        exact wp_pure (run_ldB rfl ep (HB.out.kept (bt (Below.drew (Below.refl _ _)) hR))) rfl
      refine Each.cons rfl (Keeps.const _) (StepOk.plain (g := (fun v _ => v = .int .i64 (truthV k' n' s'))) rfl rfl rfl (fun a w hs hR hr pre => ?_)) ?_
      · have e19 : a.eval (.tmp 19) = VV k' n' s' := pre 2 (by decide)
        exact wp_fn (vs := #[VV k' n' s']) rfl Tryz.func43 (by kernel_rfl) (by kernel_rfl) (by simp only [List.map_toArray, List.map_cons, List.map_nil, e19]) ((vtruth_any k' n' s' w hb').mono fun _ _ ⟨h1, h2⟩ => ⟨_, h1, h2, rfl⟩)
      refine Each.cons rfl (Keeps.const _) (StepOk.plain (g := (fun v _ => v = .int .i64 (andT (tr (truthV k n s)) (tr (truthV k' n' s'))))) rfl rfl rfl (fun a w hs hR hr pre => ?_)) ?_
      · have e18 : a.eval (.tmp 18) = .int .i64 (truthV k n s) := pre 1 (by decide)
        have e20 : a.eval (.tmp 20) = .int .i64 (truthV k' n' s') := pre 3 (by decide)
        exact wp_fn (vs := #[.int .i64 (truthV k n s), .int .i64 (truthV k' n' s')]) rfl Tryz.func81 (by kernel_rfl) (by kernel_rfl) (by simp only [List.map_toArray, List.map_cons, List.map_nil, e18, e20]) ((and_any (truthV k n s) (truthV k' n' s') w (HT.out.kept (bt (Below.drew (Below.refl _ _)) hR))).mono fun _ _ ⟨h1, h2⟩ => ⟨_, h1, h2, rfl⟩)
      refine Each.cons rfl (Keeps.const _) (StepOk.plain (g := (fun v _ => v = .int .i64 (andT (tr (truthV k n s)) (tr (truthV k' n' s'))))) rfl rfl rfl (fun a w hs hR hr pre => ?_)) ?_
      · have e21 : a.eval (.tmp 21) = .int .i64 (andT (tr (truthV k n s)) (tr (truthV k' n' s'))) := pre 4 (by decide)
        exact wp_pure (run_assign rfl) e21
      exact Each.nil
    · intro v w1 hB hG
      have e5 : v 5 = .int .i64 (andT (tr (truthV k n s)) (tr (truthV k' n' s'))) := hG 5 (by decide)
      clear hG
      simp only [List.take_succ_cons, List.take_zero, puts, Act.put, List.setIfInBounds_toArray, List.set_cons_zero, List.set_cons_succ, Nat.reduceAdd, e5]
      refine wpAny_done (by kernel_rfl) ?_ _
      have HB9 := Lib.hid (bt HW.out (bt (Below.drew (Below.refl _ _)) hB))
      clear hB
      go_wp2_with fail
      go_ret
      exact ⟨by rw [Hf.out]; rfl, HB9.out⟩
  by_cases h4 : op = 4
  · subst h4
    go_enter Tryz.func68, Tryz.ntmps68
    go_upto_region 1 with fail
    generalize (w0.alloc (.cells #[.int .i64 k, .int .i64 n, .string s] 28)).alloc (.cells #[.int .i64 k', .int .i64 n', .string s'] 28) = W at HA HB HW HT ⊢
    obtain ⟨a0, a1, a2, _, _, _⟩ := HA.out
    obtain ⟨b0, b1, b2, _, _, _⟩ := HB.out
    go_wp2_with fail
    refine (equal_any _ _ _ _ _ _ _ ha hb').mono ?_
    rintro e W1 ⟨rfl, hb⟩
    have HW := Lib.hid (bt HW.out hb)
    have HT := Lib.hid (HT.out.kept hb)
    clear hb
    go_wp2_with fail
    go_ret
    exact ⟨by rw [← Hf.out]; rfl, HW.out⟩
  by_cases h5 : op = 5
  · subst h5
    go_enter Tryz.func68, Tryz.ntmps68
    go_upto_region 1 with fail
    generalize (w0.alloc (.cells #[.int .i64 k, .int .i64 n, .string s] 28)).alloc (.cells #[.int .i64 k', .int .i64 n', .string s'] 28) = W at HA HB HW HT ⊢
    obtain ⟨a0, a1, a2, _, _, _⟩ := HA.out
    obtain ⟨b0, b1, b2, _, _, _⟩ := HB.out
    go_wp2_with fail
    refine (equal_any _ _ _ _ _ _ _ ha hb').mono ?_
    rintro e W1 ⟨rfl, hb⟩
    have HW := Lib.hid (bt HW.out hb)
    have HT := Lib.hid (HT.out.kept hb)
    clear hb
    go_wp2_with fail
    refine (not_any _ _ HT.out).mono ?_
    rintro e W1 ⟨rfl, hb⟩
    have HW := Lib.hid (bt HW.out hb)
    have HT := Lib.hid (HT.out.kept hb)
    clear hb
    go_wp2_with fail
    go_ret
    exact ⟨by rw [← Hf.out]; rfl, HW.out⟩
  by_cases h6 : op = 6
  · subst h6
    go_enter Tryz.func68, Tryz.ntmps68
    go_upto_region 1 with fail
    generalize (w0.alloc (.cells #[.int .i64 k, .int .i64 n, .string s] 28)).alloc (.cells #[.int .i64 k', .int .i64 n', .string s'] 28) = W at HA HB HW HT ⊢
    obtain ⟨a0, a1, a2, _, _, _⟩ := HA.out
    obtain ⟨b0, b1, b2, _, _, _⟩ := HB.out
    go_wp2_with fail
    refine (less_any _ _ _ _ _ _ _ ha hb').mono ?_
    rintro e W1 ⟨rfl, hb⟩
    have HW := Lib.hid (bt HW.out hb)
    have HT := Lib.hid (HT.out.kept hb)
    clear hb
    go_wp2_with fail
    go_ret
    exact ⟨by rw [← Hf.out]; rfl, HW.out⟩
  by_cases h7 : op = 7
  · subst h7
    go_enter Tryz.func68, Tryz.ntmps68
    go_upto_region 1 with fail
    generalize (w0.alloc (.cells #[.int .i64 k, .int .i64 n, .string s] 28)).alloc (.cells #[.int .i64 k', .int .i64 n', .string s'] 28) = W at HA HB HW HT ⊢
    obtain ⟨a0, a1, a2, _, _, _⟩ := HA.out
    obtain ⟨b0, b1, b2, _, _, _⟩ := HB.out
    go_wp2_with fail
    refine (less_any _ _ _ _ _ _ _ hb' ha).mono ?_
    rintro e W1 ⟨rfl, hb⟩
    have HW := Lib.hid (bt HW.out hb)
    have HT := Lib.hid (HT.out.kept hb)
    clear hb
    go_wp2_with fail
    refine (not_any _ _ HT.out).mono ?_
    rintro e W1 ⟨rfl, hb⟩
    have HW := Lib.hid (bt HW.out hb)
    have HT := Lib.hid (HT.out.kept hb)
    clear hb
    go_wp2_with fail
    go_ret
    exact ⟨by rw [← Hf.out]; rfl, HW.out⟩
  by_cases h8 : op = 8
  · subst h8
    go_enter Tryz.func68, Tryz.ntmps68
    go_upto_region 1 with fail
    generalize (w0.alloc (.cells #[.int .i64 k, .int .i64 n, .string s] 28)).alloc (.cells #[.int .i64 k', .int .i64 n', .string s'] 28) = W at HA HB HW HT ⊢
    obtain ⟨a0, a1, a2, _, _, _⟩ := HA.out
    obtain ⟨b0, b1, b2, _, _, _⟩ := HB.out
    go_wp2_with fail
    refine (less_any _ _ _ _ _ _ _ hb' ha).mono ?_
    rintro e W1 ⟨rfl, hb⟩
    have HW := Lib.hid (bt HW.out hb)
    have HT := Lib.hid (HT.out.kept hb)
    clear hb
    go_wp2_with fail
    go_ret
    exact ⟨by rw [← Hf.out]; rfl, HW.out⟩
  have Hf := Lib.hid (show notT (tr (lessV k n s k' n' s')) = R by rw [← Hf.out, truO, if_neg h1, if_neg h2, if_neg h4, if_neg h5, if_neg h6, if_neg h7, if_neg h8])
  have g1 : (op == 1) = false := by simpa using h1
  have g2 : (op == 2) = false := by simpa using h2
  have g4 : (op == 4) = false := by simpa using h4
  have g5 : (op == 5) = false := by simpa using h5
  have g6 : (op == 6) = false := by simpa using h6
  have g7 : (op == 7) = false := by simpa using h7
  have g8 : (op == 8) = false := by simpa using h8
  clear h1 h2 h4 h5 h6 h7 h8
  go_enter Tryz.func68, Tryz.ntmps68
  go_upto_region 1 with fail
  generalize (w0.alloc (.cells #[.int .i64 k, .int .i64 n, .string s] 28)).alloc (.cells #[.int .i64 k', .int .i64 n', .string s'] 28) = W at HA HB HW HT ⊢
  obtain ⟨a0, a1, a2, _, _, _⟩ := HA.out
  obtain ⟨b0, b1, b2, _, _, _⟩ := HB.out
  go_wp2_with fail
  refine (less_any _ _ _ _ _ _ _ ha hb').mono ?_
  rintro e W1 ⟨rfl, hb⟩
  have HW := Lib.hid (bt HW.out hb)
  have HT := Lib.hid (HT.out.kept hb)
  clear hb
  go_wp2_with fail
  refine (not_any _ _ HT.out).mono ?_
  rintro e W1 ⟨rfl, hb⟩
  have HW := Lib.hid (bt HW.out hb)
  have HT := Lib.hid (HT.out.kept hb)
  clear hb
  go_wp2_with fail
  go_ret
  exact ⟨by rw [← Hf.out]; rfl, HW.out⟩
end Go.Proofs.YtpokpiphnggfpaaGreatDoor
end
